/- Plain mathematics of names that are free. -/
import Derived.Test.YtilincaedjhnpaaGreatOkIMath
namespace Go.Proofs.YtilincaedjhnpaaGreat
set_option linter.unusedVariables false
open Go.RowKit

/-- A pattern binds a name. -/
def namesB (q : List PN) (nm : ByteArray) : Bool := q.any fun n => decide (n.kind = 2) && (n.s.toList == nm.toList)
/-- A node binds a name in its child number i. -/
def bindB (x : Nd) (i : Nat) (nm : ByteArray) : Bool :=
  if x.kind = 5 ∨ x.kind = 8 then x.s.toList == nm.toList
  else if x.kind = 7 ∨ x.kind = 15 then decide (i = 1) && (x.s.toList == nm.toList)
  else if x.kind = 13 then decide (0 < i) && (match x.pats[i - 1]? with | some q => namesB q nm | none => false)
  else false
/-- Some child does it; the children are counted from i on. -/
def anyK (g : Nat → Int → Bool) : Nat → List Int → Bool
  | _, [] => false
  | i, k :: ks => g i k || anyK g (i + 1) ks
def freeStep (g : Nat → Bool) (x : Nd) (nm : ByteArray) : Bool := if x.kind = 3 then x.s.toList == nm.toList else anyK (fun i k => !bindB x i nm && g k.toNat) 0 x.kids
def freeF : Nat → List Nd → ByteArray → Nat → Bool
  | 0, _, _, _ => false
  | f + 1, p, nm, a => match p[a]? with
    | none => false
    | some x => freeStep (freeF f p nm) x nm
def freeN (p : List Nd) (nm : ByteArray) (a : Nat) : Bool := freeF (p.length + 1) p nm a
/-- Children lie behind their node; a match has a pattern for each arm. -/
def FreeOk (p : List Nd) : Prop := ∀ i (h : i < p.length), (∀ k ∈ p[i].kids, (i : Int) < k ∧ k < (p.length : Int)) ∧ (p[i].kind = 13 → p[i].kids.length ≤ p[i].pats.length + 1)
theorem anyK_congr (g g' : Nat → Int → Bool) : ∀ (ks : List Int) (i : Nat), (∀ j, ∀ k ∈ ks, g j k = g' j k) → anyK g i ks = anyK g' i ks := by
  intro ks
  induction ks with
  | nil => intro i _; rfl
  | cons k ks ih => intro i h; rw [anyK, anyK, h i k (by simp), ih (i + 1) fun j x hx => h j x (List.mem_cons_of_mem _ hx)]
theorem free_fuel {p : List Nd} (hp : FreeOk p) (nm : ByteArray) : ∀ (f g a : Nat), p.length < a + f → p.length < a + g → freeF f p nm a = freeF g p nm a := by
  intro f
  induction f with
  | zero =>
    intro g a h1 h2
    cases g with
    | zero => rfl
    | succ g => rw [freeF, freeF, List.getElem?_eq_none (by omega)]
  | succ f ih =>
    intro g a h1 h2
    cases g with
    | zero => rw [freeF, freeF, List.getElem?_eq_none (by omega)]
    | succ g =>
      rw [freeF, freeF]
      by_cases hi : a < p.length
      · rw [List.getElem?_eq_getElem hi]
        show freeStep _ _ _ = freeStep _ _ _
        unfold freeStep
        rw [anyK_congr _ (fun i k => !bindB p[a] i nm && freeF g p nm k.toNat) _ _ fun j k hk => by
          have := (hp a hi).1 k hk
          rw [ih g k.toNat (by omega) (by omega)]]
      · rw [List.getElem?_eq_none (by omega)]
theorem freeN_at {p : List Nd} (hp : FreeOk p) (nm : ByteArray) (a : Nat) (h : a < p.length) : freeN p nm a = freeStep (freeN p nm) p[a] nm := by
  rw [show freeN p nm a = freeF (p.length + 1) p nm a from rfl, freeF, List.getElem?_eq_getElem h]
  show freeStep _ _ _ = freeStep _ _ _
  unfold freeStep
  rw [anyK_congr _ (fun i k => !bindB p[a] i nm && freeN p nm k.toNat) _ _ fun j k hk => by
    have := (hp a h).1 k hk
    rw [show freeN p nm k.toNat = freeF (p.length + 1) p nm k.toNat from rfl, free_fuel hp nm p.length (p.length + 1) k.toNat (by omega) (by omega)]]
theorem anyK_drop (g : Nat → Int → Bool) (ks : List Int) (i : Nat) (h : i < ks.length) : anyK g i (ks.drop i) = (g i ks[i] || anyK g (i + 1) (ks.drop (i + 1))) := by
  rw [List.drop_eq_getElem_cons h, anyK]
theorem anyK_end (g : Nat → Int → Bool) (ks : List Int) : anyK g ks.length (ks.drop ks.length) = false := by
  rw [List.drop_length]; rfl
theorem bind_5 (x : Nd) (i : Nat) (nm : ByteArray) (h : x.kind = 5 ∨ x.kind = 8) : bindB x i nm = (x.s.toList == nm.toList) := by rw [bindB, if_pos h]
theorem bind_7 (x : Nd) (i : Nat) (nm : ByteArray) (h : x.kind = 7 ∨ x.kind = 15) : bindB x i nm = (decide (i = 1) && (x.s.toList == nm.toList)) := by rw [bindB, if_neg (by omega), if_pos h]
theorem bind_13 (x : Nd) (i : Nat) (nm : ByteArray) (h : x.kind = 13) (hi : 0 < i) (hp : i - 1 < x.pats.length) : bindB x i nm = namesB x.pats[i - 1] nm := by
  rw [bindB, if_neg (by omega), if_neg (by omega), if_pos h, List.getElem?_eq_getElem hp]; simp [hi]
theorem bind_130 (x : Nd) (nm : ByteArray) (h : x.kind = 13) : bindB x 0 nm = false := by
  rw [bindB, if_neg (by omega), if_neg (by omega), if_pos h]; simp
theorem bind_no (x : Nd) (i : Nat) (nm : ByteArray) (h5 : x.kind ≠ 5) (h8 : x.kind ≠ 8) (h7 : x.kind ≠ 7) (h15 : x.kind ≠ 15) (h13 : x.kind ≠ 13) : bindB x i nm = false := by
  rw [bindB, if_neg (by omega), if_neg (by omega), if_neg h13]
/-- A right program's nodes. -/
theorem free_ok {p : Pg} (h : pgOkB p = true) : FreeOk p.nodes := by
  have h1 := h
  rw [pg_ok] at h1
  simp only [Bool.and_eq_true, decide_eq_true_eq] at h1
  obtain ⟨_, _, hpre, _⟩ := h1
  have hP : PgOkP p := by
    unfold pgOkB at h
    exact (propB_iff).1 h
  obtain ⟨_, _, _, _, hN, _⟩ := hP
  intro i hi
  refine ⟨fun k hk => ?_, fun h13 => ?_⟩
  · have := preB_kids (p.nodes.map Nd.kids) hpre i (by simpa using hi) k (by simpa using hk)
    rw [List.length_map] at this
    exact this
  · have := ((hN _ (List.getElem_mem hi)).2.2.2.2.1 h13).2.2
    omega
noncomputable def freeInB (p : Pg) (a : Int) (nm : ByteArray) : Bool := pgOkB p && (decide (0 ≤ a) && (decide (a < (p.nodes.length : Int)) && freeN p.nodes nm a.toNat))
noncomputable def weightV (p : Pg) : Int := if pgOkB p = true then (p.nodes.length : Int) else -1
end Go.Proofs.YtilincaedjhnpaaGreat
