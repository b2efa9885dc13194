/- Plain mathematics of valid types and patterns: an item, the place behind a type. -/
import Derived.Test.YtdhpmblhejcehaaDoorData
import Derived.Test.YtdhpmblhejcehaaDoorTextMath
namespace Go.Proofs.YtdhpmblhejcehaaDoor
set_option linter.unusedVariables false
open Go.RowKit

/-- An item of a type by itself. -/
def itemB (x : TyI) : Bool :=
  if x.name.toList = [] then decide (0 ≤ x.var) && (decide (x.var ≤ 9999) && decide (x.arity = 0))
  else if x.var = 0 then
    (if x.name.toList = [45, 62] ∨ x.name.toList = [42] then decide (x.arity = 2) else if x.name.toList = [114, 101, 102] then decide (x.arity = 1) else nameB x.name && (decide (0 ≤ x.arity) && decide (x.arity ≤ 2)))
  else false
/-- Some steps from a place: each on from the last, until one fails (-1). -/
def iterE (g : Int → Int) : Nat → Int → Int
  | 0, next => next
  | k + 1, next => if next < 0 then next else iterE g k (g next)
/-- The place behind the type that begins at a place; -1 where it isn't all there. -/
def endF : Nat → List TyI → Int → Int
  | 0, _, _ => -1
  | f + 1, l, at_ => if at_ < 0 then -1 else match l[at_.toNat]? with
    | none => -1
    | some x => iterE (endF f l) x.arity.toNat (at_ + 1)
theorem iterE_neg (g : Int → Int) (k : Nat) (n : Int) (h : n < 0) : iterE g k n = n := by
  cases k with
  | zero => rfl
  | succ k => rw [iterE, if_pos h]
theorem iterE_snoc (g : Int → Int) (k : Nat) (n : Int) : iterE g (k + 1) n = if iterE g k n < 0 then iterE g k n else g (iterE g k n) := by
  induction k generalizing n with
  | zero => rfl
  | succ k ih =>
    by_cases h : n < 0
    · rw [iterE_neg _ _ _ h, iterE_neg _ _ _ h, if_pos h]
    · rw [show iterE g (k + 1 + 1) n = iterE g (k + 1) (g n) from by rw [iterE, if_neg h], show iterE g (k + 1) n = iterE g k (g n) from by rw [iterE, if_neg h]]
      exact ih (g n)
theorem iterE_more (g : Int → Int) (k m : Nat) (n : Int) (h : iterE g k n < 0) (hm : k ≤ m) : iterE g m n = iterE g k n := by
  induction m with
  | zero => obtain rfl : k = 0 := by omega
            rfl
  | succ m ih =>
    by_cases he : k = m + 1
    · rw [he]
    · rw [iterE_snoc, ih (by omega), if_pos h]
/-- It lies beyond, or there is none. -/
theorem endF_gt : ∀ (f : Nat) (l : List TyI) (at_ : Int), endF f l at_ = -1 ∨ (0 ≤ at_ ∧ at_ < endF f l at_) := by
  intro f
  induction f with
  | zero => intro l a; left; rfl
  | succ f ih =>
    intro l a
    rw [endF]
    split
    · left; rfl
    · rename_i h0
      split
      · left; rfl
      · rename_i x hx
        have hk : ∀ k (n : Int), 0 ≤ n → iterE (endF f l) k n = -1 ∨ n ≤ iterE (endF f l) k n := by
          intro k
          induction k with
          | zero => intro n hn; right; exact Int.le_refl _
          | succ k ihk =>
            intro n hn
            rw [iterE, if_neg (by omega)]
            rcases ih l n with h | ⟨_, h⟩
            · left; rw [h, iterE_neg _ _ _ (by omega)]
            · rcases ihk (endF f l n) (by omega) with h' | h'
              · left; exact h'
              · right; omega
        rcases hk x.arity.toNat (a + 1) (by omega) with h | h
        · left; exact h
        · right; omega
theorem iter_gt (f : Nat) (l : List TyI) : ∀ k (n : Int), 0 ≤ n → iterE (endF f l) k n = -1 ∨ n ≤ iterE (endF f l) k n := by
  intro k
  induction k with
  | zero => intro n hn; right; exact Int.le_refl _
  | succ k ihk =>
    intro n hn
    rw [iterE, if_neg (by omega)]
    rcases endF_gt f l n with h | ⟨_, h⟩
    · left; rw [h, iterE_neg _ _ _ (by omega)]
    · rcases ihk (endF f l n) (by omega) with h' | h'
      · left; exact h'
      · right; omega
theorem endF_le : ∀ (f : Nat) (l : List TyI) (at_ : Int), endF f l at_ ≤ l.length := by
  intro f
  induction f with
  | zero => intro l a; show (-1 : Int) ≤ _; omega
  | succ f ih =>
    intro l a
    rw [endF]
    split
    · omega
    · rename_i h0
      split
      · omega
      · rename_i x hx
        have hlt : a.toNat < l.length := (List.getElem?_eq_some_iff.1 hx).1
        have hk : ∀ k (n : Int), n ≤ l.length → iterE (endF f l) k n ≤ l.length := by
          intro k
          induction k with
          | zero => intro n hn; exact hn
          | succ k ihk => intro n hn; rw [iterE]; split; · exact hn
                          · exact ihk _ (ih l n)
        exact hk _ _ (by omega)
theorem iter_le (f : Nat) (l : List TyI) : ∀ k (n : Int), n ≤ l.length → iterE (endF f l) k n ≤ l.length := by
  intro k
  induction k with
  | zero => intro n hn; exact hn
  | succ k ihk => intro n hn; rw [iterE]; split; · exact hn
                  · exact ihk _ (endF_le f l n)
theorem endF_in (f : Nat) (l : List TyI) (n : Nat) (h : n < l.length) : endF (f + 1) l (n : Int) = iterE (endF f l) l[n].arity.toNat ((n : Int) + 1) := by
  rw [endF, if_neg (by omega), Int.toNat_natCast, List.getElem?_eq_getElem h]
theorem endF_out (f : Nat) (l : List TyI) (a : Int) (h : a < 0 ∨ (l.length : Int) ≤ a) : endF f l a = -1 := by
  cases f with
  | zero => rfl
  | succ f =>
    rw [endF]
    split
    · rfl
    · rw [List.getElem?_eq_none (by omega)]
/-- A type: at most 200 items, each right by itself, and just one type. -/
def tyOkB (l : List TyI) : Bool := decide (l.length ≤ 200) && (l.all itemB && decide (endF (l.length + 1) l 0 = (l.length : Int)))
/-- A constructor: its name, how many kids, whether the kid is a pair. -/
def conOkB (s : ByteArray) (n : Int) (p : Bool) : Bool :=
  if s.toList = [58, 58] then decide (n = 1) && p else if s.toList = [116, 114, 117, 101] ∨ (s.toList = [102, 97, 108, 115, 101] ∨ s.toList = [91, 93]) then decide (n = 0) else conB s && decide (n ≤ 1)
/-- The only kid of a pattern's node is a pair. -/
def pairB (q : List PN) : List Int → Bool
  | [k] => decide (0 ≤ k) && (match q[k.toNat]? with | some y => decide (y.kind = 5) | none => false)
  | _ => false
/-- A node of a pattern by itself. -/
def pnodeB (p : Bool) (kind n : Int) (s : ByteArray) (m : Int) : Bool :=
  if kind = 1 ∨ kind = 6 then decide (n = 0) && (decide (s.toList = []) && decide (m = 0))
  else if kind = 2 then decide (n = 0) && (nameB s && decide (m = 0))
  else if kind = 3 then decide (-4611686018427387903 ≤ n) && (decide (n ≤ 4611686018427387903) && (decide (s.toList = []) && decide (m = 0)))
  else if kind = 4 then decide (n = 0) && conOkB s m p
  else if kind = 5 then decide (n = 0) && (decide (s.toList = []) && decide (m = 2))
  else false
def pnB (q : List PN) (x : PN) : Bool := pnodeB (pairB q x.kids) x.kind x.n x.s x.kids.length
/-- Kids, each at the place where the last one ends. -/
def kidsE (g : Int → Int) : List Int → Int → Int
  | [], next => next
  | k :: ks, next => if k = next then (if g k < 0 then -1 else kidsE g ks (g k)) else -1
/-- The place behind the tree that begins at a place, its nodes in the walk's order; -1 where it isn't. -/
def pendF : Nat → List (List Int) → Int → Int
  | 0, _, _ => -1
  | f + 1, l, a => match l[a.toNat]? with
    | none => -1
    | some ks => kidsE (pendF f l) ks (a + 1)
theorem kidsE_gt (g : Int → Int) (hg : ∀ k, g k = -1 ∨ k < g k) : ∀ (ks : List Int) (n : Int), kidsE g ks n = -1 ∨ n ≤ kidsE g ks n := by
  intro ks
  induction ks with
  | nil => intro n; right; exact Int.le_refl _
  | cons k ks ih =>
    intro n
    rw [kidsE]
    split
    · rename_i h; subst h
      split
      · left; rfl
      · rename_i h2
        rcases hg k with h | h
        · omega
        · rcases ih (g k) with h' | h'
          · left; exact h'
          · right; omega
    · left; rfl
theorem pendF_gt : ∀ (f : Nat) (l : List (List Int)) (a : Int), pendF f l a = -1 ∨ a < pendF f l a := by
  intro f
  induction f with
  | zero => intro l a; left; rfl
  | succ f ih =>
    intro l a
    rw [pendF]
    split
    · left; rfl
    · rename_i ks hk
      rcases kidsE_gt (pendF f l) (ih l) ks (a + 1) with h | h
      · left; exact h
      · right; omega
theorem kidsE_le (g : Int → Int) (m : Int) (hg : ∀ k, g k ≤ m) : ∀ (ks : List Int) (n : Int), n ≤ m → 0 ≤ m → kidsE g ks n ≤ m := by
  intro ks
  induction ks with
  | nil => intro n hn _; exact hn
  | cons k ks ih =>
    intro n hn hm
    rw [kidsE]
    split
    · split
      · omega
      · exact ih _ (hg k) hm
    · omega
theorem pendF_le : ∀ (f : Nat) (l : List (List Int)) (a : Int), pendF f l a ≤ l.length := by
  intro f
  induction f with
  | zero => intro l a; show (-1 : Int) ≤ _; omega
  | succ f ih =>
    intro l a
    rw [pendF]
    split
    · omega
    · rename_i ks hk
      have hlt : a.toNat < l.length := (List.getElem?_eq_some_iff.1 hk).1
      exact kidsE_le _ _ (ih l) ks _ (by omega) (by omega)
theorem pendF_out (f : Nat) (l : List (List Int)) (a : Int) (h : (l.length : Int) ≤ a) : pendF f l a = -1 := by
  cases f with
  | zero => rfl
  | succ f => rw [pendF, List.getElem?_eq_none (by omega)]
theorem pendF_in (f : Nat) (l : List (List Int)) (n : Nat) (h : n < l.length) : pendF (f + 1) l (n : Int) = kidsE (pendF f l) l[n] ((n : Int) + 1) := by
  rw [pendF, Int.toNat_natCast, List.getElem?_eq_getElem h]
theorem kidsE_no (g : Int → Int) (ks : List Int) (i : Nat) (h : i < ks.length) (n : Int) (hn : ks[i] ≠ n) : kidsE g (ks.drop i) n = -1 := by
  rw [List.drop_eq_getElem_cons h, kidsE, if_neg hn]
theorem kidsE_neg (g : Int → Int) (ks : List Int) (i : Nat) (h : i < ks.length) (n : Int) (hn : ks[i] = n) (hg : g n < 0) : kidsE g (ks.drop i) n = -1 := by
  rw [List.drop_eq_getElem_cons h, kidsE, if_pos hn, hn, if_pos hg]
theorem kidsE_step (g : Int → Int) (ks : List Int) (i : Nat) (h : i < ks.length) (n : Int) (hn : ks[i] = n) (hg : ¬ g n < 0) : kidsE g (ks.drop i) n = kidsE g (ks.drop (i + 1)) (g n) := by
  rw [List.drop_eq_getElem_cons h, kidsE, if_pos hn, hn, if_neg hg]
noncomputable def propB (P : Prop) : Bool := @decide P (Classical.propDecidable P)
theorem propB_t {P : Prop} (h : P) : propB P = true := by unfold propB; exact @decide_eq_true _ (Classical.propDecidable P) h
theorem propB_f {P : Prop} (h : ¬ P) : propB P = false := by unfold propB; exact @decide_eq_false _ (Classical.propDecidable P) h
theorem toL_inj {a b : ByteArray} (h : a.toList = b.toList) : a = b := Go.WideShapes.bytes_inj (by rw [← ByteArray.toList_eq, ← ByteArray.toList_eq]; exact h)
/-- Two nodes of a pattern bind one name. -/
def clash (x y : PN) : Prop := x.kind = 2 ∧ (y.kind = 2 ∧ y.s = x.s)
/-- A pattern: its nodes, each right by itself, no name twice, one tree in the walk's order. -/
def PatOkP (q : List PN) : Prop := 1 ≤ q.length ∧ q.length ≤ 600 ∧ (∀ i (h : i < q.length), pnB q q[i] = true ∧ ∀ k (hk : k < i), ¬ clash q[i] q[k]) ∧ pendF (q.length + 1) (q.map PN.kids) 0 = q.length
noncomputable def patOkB (q : List PN) : Bool := propB (PatOkP q)
/-! ### Programs -/
def prims : List (List UInt8) := [[43], [45], [42], [47], [37], [94], [61], [60, 62], [60], [60, 61]]
def primB (s : ByteArray) : Bool := prims.any fun k => s.toList == k
theorem prim_yes (s : ByteArray) (x : List UInt8) (hx : x ∈ prims) (h : (s.toList == x) = true) : true = primB s := by
  symm; rw [primB, List.any_eq_true]; exact ⟨x, hx, h⟩
theorem prim_step (s : ByteArray) (k : Nat) (x : List UInt8) (hx : prims[k]? = some x) (h0 : (prims.take k).any (fun x => s.toList == x) = false) (h : (s.toList == x) = false) :
    (prims.take (k + 1)).any (fun x => s.toList == x) = false := by
  rw [List.take_add_one, hx, List.any_append, h0]; simp [h]
/-- How many kids a kind has; -1 where it hangs on more. -/
def kidsN (k : Int) : Int :=
  if k = 1 ∨ k = 2 ∨ k = 3 ∨ k = 12 then 0 else if k = 5 ∨ k = 14 ∨ k = 16 ∨ k = 17 then 1
  else if k = 6 ∨ k = 7 ∨ k = 8 ∨ k = 10 ∨ k = 11 ∨ k = 15 ∨ k = 18 ∨ k = 19 then 2 else if k = 9 then 3 else -1
def firstKind (p : List Nd) : List Int → Option Int
  | k :: _ => (p[k.toNat]?).map Nd.kind
  | [] => none
def namedK (k : Int) : Prop := k = 3 ∨ k = 5 ∨ k = 7 ∨ k = 8 ∨ k = 15
def NdHead (x : Nd) : Prop := 1 ≤ x.kind ∧ x.kind ≤ 19 ∧ 0 ≤ x.at_ ∧ (x.kind = 1 ∨ x.n = 0) ∧ 0 ≤ x.n ∧ x.n ≤ 4611686018427387903
def NdText (x : Nd) : Prop := (namedK x.kind → nameB x.s = true) ∧ (x.kind = 10 → primB x.s = true) ∧ (¬ namedK x.kind → x.kind ≠ 10 → x.kind ≠ 2 → x.kind ≠ 4 → x.s.toList = [])
def NdRest (p : List Nd) (x : Nd) : Prop :=
  (x.kind = 4 → x.pats = [] ∧ conOkB x.s x.kids.length (decide (x.kids.length = 1) && decide (firstKind p x.kids = some 11)) = true) ∧
  (x.kind = 13 → (∀ q ∈ x.pats, PatOkP q) ∧ 2 ≤ x.kids.length ∧ x.pats.length + 1 = x.kids.length) ∧
  (x.kind = 8 → x.kids.length = 2 ∧ firstKind p x.kids = some 5) ∧
  (x.kind ≠ 4 → x.kind ≠ 13 → x.pats = [] ∧ (x.kids.length : Int) = kidsN x.kind)
/-- A node of an expression by itself. -/
def NdOkP (p : List Nd) (x : Nd) : Prop := NdHead x ∧ (∀ k ∈ x.kids, 0 ≤ k ∧ k < p.length) ∧ NdText x ∧ NdRest p x
/-- A constructor of a type with so many variables. -/
def CnOkP (params : Int) (c : Cn) : Prop := conB c.name = true ∧ (c.has = false → c.arg = []) ∧ (c.has = true → (∀ x ∈ c.arg, x.name.toList = [] → x.var < params) ∧ tyOkB c.arg = true)
def TpOkP (t : Tp) : Prop := nameB t.name = true ∧ 0 ≤ t.params ∧ t.params ≤ 2 ∧ 1 ≤ t.cons.length ∧ t.cons.length ≤ 8 ∧ ∀ c ∈ t.cons, CnOkP t.params c
/-- A program. -/
def PgOkP (p : Pg) : Prop := 1 ≤ p.nodes.length ∧ p.nodes.length ≤ 600 ∧ p.types.length ≤ 8 ∧ (∀ t ∈ p.types, TpOkP t) ∧ (∀ x ∈ p.nodes, NdOkP p.nodes x) ∧ pendF (p.nodes.length + 1) (p.nodes.map Nd.kids) 0 = p.nodes.length
noncomputable def pgOkB (p : Pg) : Bool := propB (PgOkP p)
end Go.Proofs.YtdhpmblhejcehaaDoor
