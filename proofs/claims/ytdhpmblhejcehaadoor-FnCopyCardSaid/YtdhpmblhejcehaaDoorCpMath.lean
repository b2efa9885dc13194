/- Plain mathematics of copying a heap. -/
import Derived.Test.YtdhpmblhejcehaaDoorHpMath
namespace Go.Proofs.YtdhpmblhejcehaaDoor
set_option linter.unusedVariables false
open Go.RowKit

/-- The order of the old places, a value later. -/
def mvO (o : List Nat) (v : Vl) : List Nat := if v.kind = 6 ∧ v.n.toNat ∉ o then o ++ [v.n.toNat] else o
/-- The value, in the new heap. -/
def mvV (o : List Nat) (v : Vl) : Vl := if v.kind = 6 then ⟨6, (((mvO o v).idxOf v.n.toNat : Nat) : Int), ⟨#[]⟩⟩ else v
/-- What stands for an old place: its new one and 1, or 0. -/
def placeOf (o : List Nat) (i : Nat) : Int := if i ∈ o then ((o.idxOf i : Nat) : Int) + 1 else 0
def rootsO (o : List Nat) (l : List Vl) : List Nat := l.foldl mvO o
def rootsV : List Nat → List Vl → List Vl
  | _, [] => []
  | o, v :: l => mvV o v :: rootsV (mvO o v) l
theorem rootsO_snoc (o : List Nat) (l : List Vl) (v : Vl) : rootsO o (l ++ [v]) = mvO (rootsO o l) v := by simp [rootsO]
theorem rootsV_snoc (l : List Vl) (v : Vl) : ∀ o, rootsV o (l ++ [v]) = rootsV o l ++ [mvV (rootsO o l) v] := by
  induction l with
  | nil => intro o; rfl
  | cons x l ih => intro o; show _ :: rootsV _ (l ++ [v]) = _; rw [ih]; rfl
theorem rootsV_len (l : List Vl) : ∀ o, (rootsV o l).length = l.length := by
  induction l with
  | nil => intro o; rfl
  | cons x l ih => intro o; simp [rootsV, ih]
/-- Different places of a heap of n cells. -/
def OrdOk (n : Nat) (o : List Nat) : Prop := o.Nodup ∧ ∀ x ∈ o, x < n
theorem nodup_le : ∀ (n : Nat) (o : List Nat), OrdOk n o → o.length ≤ n := by
  intro n
  induction n with
  | zero =>
    intro o h
    cases o with
    | nil => exact Nat.le_refl _
    | cons x o => exact absurd (h.2 x (by simp)) (by omega)
  | succ n ih =>
    intro o h
    by_cases hm : n ∈ o
    · have := ih (o.erase n) ⟨h.1.erase n, fun x hx => by
        have h1 := (h.1.mem_erase_iff).1 hx
        have := h.2 x h1.2
        omega⟩
      rw [List.length_erase_of_mem hm] at this
      omega
    · have := ih o ⟨h.1, fun x hx => by
        have h1 := h.2 x hx
        by_cases he : x = n
        · subst he; exact absurd hx hm
        · omega⟩
      omega
theorem mvO_ok {n : Nat} {o : List Nat} {v : Vl} (h : OrdOk n o) (hv : v.kind = 6 → v.n.toNat < n) : OrdOk n (mvO o v) := by
  unfold mvO
  split
  · rename_i hc
    refine ⟨List.nodup_append.2 ⟨h.1, by simp, fun a ha b hb => ?_⟩, fun x hx => ?_⟩
    · rw [List.mem_singleton] at hb
      subst hb
      intro e
      subst e
      exact hc.2 ha
    · rcases List.mem_append.1 hx with hx | hx
      · exact h.2 x hx
      · rw [List.mem_singleton] at hx; subst hx; exact hv hc.1
  · exact h
theorem mvO_at {o : List Nat} {v : Vl} {i : Nat} (hi : i < o.length) : (mvO o v)[i]? = o[i]? := by
  unfold mvO
  split
  · exact List.getElem?_append_left hi
  · rfl
theorem mvO_le (o : List Nat) (v : Vl) : o.length ≤ (mvO o v).length := by
  unfold mvO; split <;> simp
/-- After i cells: the order, the new heap. -/
def cpAt (h : List Ce) (o0 : List Nat) : Nat → List Nat × List Ce
  | 0 => (o0, [])
  | i + 1 => match (cpAt h o0 i).1[i]? with
    | none => cpAt h o0 i
    | some x => match h[x]? with
      | none => cpAt h o0 i
      | some c => (mvO (mvO (cpAt h o0 i).1 c.a) c.b, (cpAt h o0 i).2 ++ [⟨c.kind, c.n, c.s, mvV (cpAt h o0 i).1 c.a, mvV (mvO (cpAt h o0 i).1 c.a) c.b⟩])
theorem cpAt_end {h : List Ce} {o0 : List Nat} {i : Nat} (he : (cpAt h o0 i).1.length ≤ i) : ∀ j, cpAt h o0 (i + j) = cpAt h o0 i := by
  intro j
  induction j with
  | zero => rfl
  | succ j ih =>
    show cpAt h o0 ((i + j) + 1) = _
    rw [cpAt, ih, List.getElem?_eq_none (by omega)]
theorem cpAt_next {h : List Ce} {o0 : List Nat} {i x : Nat} (hx : (cpAt h o0 i).1[i]? = some x) (hl : x < h.length) :
    cpAt h o0 (i + 1) = (mvO (mvO (cpAt h o0 i).1 h[x].a) h[x].b, (cpAt h o0 i).2 ++ [⟨h[x].kind, h[x].n, h[x].s, mvV (cpAt h o0 i).1 h[x].a, mvV (mvO (cpAt h o0 i).1 h[x].a) h[x].b⟩]) := by
  rw [cpAt, hx]
  simp only
  rw [List.getElem?_eq_getElem hl]
noncomputable def resCopy (h : List Ce) (r : List Vl) : List Ce × List Vl := if heapB h r = true then ((cpAt h (rootsO [] r) h.length).2, rootsV [] r) else ([], [])
theorem idxOf_new {o : List Nat} {x : Nat} (hx : x ∉ o) : (o ++ [x]).idxOf x = o.length := by
  rw [List.idxOf_append, if_neg hx]; simp
theorem placeOf_new {o : List Nat} {x : Nat} (hx : x ∉ o) (i : Nat) : placeOf (o ++ [x]) i = if i = x then (o.length : Int) + 1 else placeOf o i := by
  unfold placeOf
  by_cases he : i = x
  · subst he; rw [if_pos (by simp), if_pos rfl, idxOf_new hx]
  · rw [if_neg he]
    by_cases hm : i ∈ o
    · rw [if_pos (by simp [hm]), if_pos hm, List.idxOf_append, if_pos hm]
    · rw [if_neg (by simp [hm, he]), if_neg hm]
theorem placeOf_zero {o : List Nat} {i : Nat} : placeOf o i = 0 ↔ i ∉ o := by
  unfold placeOf
  by_cases hm : i ∈ o
  · rw [if_pos hm]; simp [hm]; omega
  · rw [if_neg hm]; simp [hm]
end Go.Proofs.YtdhpmblhejcehaaDoor
