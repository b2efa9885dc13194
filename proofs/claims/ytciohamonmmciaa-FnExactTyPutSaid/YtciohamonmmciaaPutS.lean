/- The model's putting of a substitution. -/
import Derived.Test.YtciohamonmmciaaPutJ
import Derived.Test.YtciohamonmmciaaCanS
namespace Go.Proofs.Ytciohamonmmciaa
set_option linter.unusedVariables false
set_option maxRecDepth 100000
open Go.ChangeShapes Go.WideShapes Go.ChangeAt Go.RowKit

/-- What the pairs put for an item, all of them. -/
def hitB (t : TyI) (l : List Sb) : Bool := decide (t.name.toList = []) && l.any fun s => decide (s.var = t.var)
def appL (t : TyI) (l : List Sb) : List TyI := if t.name.toList = [] then (l.filter fun s => decide (s.var = t.var)).flatMap Sb.ty else []
def appOne (l : List Sb) (t : TyI) : List TyI := if hitB t l = true then appL t l else [t]
def appX (l : List Sb) (x : List TyI) : List TyI := x.flatMap (appOne l)
theorem app_snoc (l : List Sb) (x : List TyI) (k : Nat) (h : k < x.length) : appX l (x.take (k + 1)) = appX l (x.take k) ++ appOne l x[k] := by
  unfold appX
  rw [List.take_succ_eq_append_getElem h, List.flatMap_append]
  simp
theorem appL_no (t : TyI) (l : List Sb) (j : Nat) (h : j < l.length) (hn : ¬ (t.name.toList = [] ∧ l[j].var = t.var)) : appL t (l.take (j + 1)) = appL t (l.take j) ∧ hitB t (l.take (j + 1)) = hitB t (l.take j) := by
  unfold appL hitB
  rw [List.take_succ_eq_append_getElem h]
  by_cases h1 : t.name.toList = []
  · have h2 : ¬ l[j].var = t.var := fun e => hn ⟨h1, e⟩
    simp [h1, h2, List.filter_append, -List.take_append_getElem]
  · simp [h1]
theorem appL_yes (t : TyI) (l : List Sb) (j : Nat) (h : j < l.length) (h1 : t.name.toList = []) (h2 : l[j].var = t.var) : appL t (l.take (j + 1)) = appL t (l.take j) ++ l[j].ty ∧ hitB t (l.take (j + 1)) = true := by
  unfold appL hitB
  rw [List.take_succ_eq_append_getElem h]
  simp [h1, h2, List.filter_append, -List.take_append_getElem]
theorem appL_len (t : TyI) (l : List Sb) (j : Nat) : (appL t (l.take j)).length ≤ bulkL bSb l := by
  have h1 : ∀ m : List Sb, (appL t m).length ≤ bulkL bSb m := by
    intro m
    induction m with
    | nil => unfold appL; split <;> simp
    | cons s m ih =>
      unfold appL at ih ⊢
      simp only [bulkL]
      split
      · next hn =>
        rw [if_pos hn] at ih
        have hs : s.ty.length ≤ bSb s := by simp only [bSb]; exact bulkL_len _ _
        by_cases hv : s.var = t.var
        · simp only [List.filter_cons, hv, decide_true, if_true, List.flatMap_cons, List.length_append]; omega
        · simp only [List.filter_cons, hv, decide_false, Bool.false_eq_true, if_false]; omega
      · simp
  exact Nat.le_trans (h1 _) (bulkL_take_le _ _ _)
theorem appOne_len (t : TyI) (l : List Sb) : (appOne l t).length ≤ 1 + bulkL bSb l := by
  unfold appOne
  split
  · have := appL_len t l l.length; rw [List.take_length] at this; omega
  · simp
theorem appX_len (l : List Sb) (x : List TyI) : (appX l x).length ≤ x.length * (1 + bulkL bSb l) := by
  induction x with
  | nil => simp [appX]
  | cons t x ih =>
    have h1 := appOne_len t l
    unfold appX at ih ⊢
    rw [List.flatMap_cons, List.length_append, List.length_cons, Nat.add_mul]
    omega
theorem appX_take_len (l : List Sb) (x : List TyI) (k : Nat) (h : k ≤ x.length) : (appX l (x.take k)).length ≤ x.length * (1 + bulkL bSb l) := by
  have h1 := appX_len l (x.take k)
  refine Nat.le_trans h1 (Nat.mul_le_mul_right _ ?_)
  rw [List.length_take]; omega
theorem app_items {w : World} {v : Value} {l : List Sb} {x : List TyI} (h : RowRd 2 SbEl w v l) (hx : ∀ y ∈ x, I64 y.var ∧ y.name.size ≤ maxLen ∧ I64 y.arity) : ∀ y ∈ appX l x, I64 y.var ∧ y.name.size ≤ maxLen ∧ I64 y.arity := by
  intro y hy
  unfold appX at hy
  obtain ⟨t, ht, hy⟩ := List.mem_flatMap.1 hy
  unfold appOne at hy
  split at hy
  · unfold appL at hy
    split at hy
    · obtain ⟨s, hs, hy⟩ := List.mem_flatMap.1 hy
      obtain ⟨hs, _⟩ := List.mem_filter.1 hs
      obtain ⟨i, hi, rfl⟩ := List.getElem_of_mem hs
      obtain ⟨a, cap, -, -, hR⟩ := h.form
      obtain ⟨b, o, -, -, hc⟩ := hR (by omega)
      obtain ⟨_, ⟨v1, _, r1⟩⟩ := hc i hi
      exact row_items r1 y hy
    · simp at hy
  · obtain rfl := List.mem_singleton.1 hy
    exact hx _ ht
/-- Where the model's putting stands: -/
structure AInv (w W2 : World) (O : List TyI) (vo : Value) (wr : World) : Prop where
  o : wr.ownsRow (w.heap.size + 2) 68 3 vo O.length (tyC O)
  b : wr.heap[w.heap.size + 2]? = some (.cells #[vo] 28 (0, 0))
  bel : Below (w.heap.size + 2) W2 wr
  sz : w.heap.size + 3 ≤ wr.heap.size
theorem AInv.below {w W2 wr wz : World} {O : List TyI} {vo : Value} (h : AInv w W2 O vo wr) (hb : Below wr.heap.size wr wz) : AInv w W2 O vo wz :=
  ⟨own_belowN h.o hb, (hb.block _ (by have := h.sz; omega)).trans h.b, h.bel.trans (hb.mono (by have := h.sz; omega)), Nat.le_trans h.sz hb.size⟩
theorem AInv.box2 {w W2 wz w2 : World} {O : List TyI} {vo : Value} (h : AInv w W2 O vo wz) (hgrow : wz.grownBy w2 vo.ownBlock) : w2.cell? ⟨w.heap.size + 2, 0, none⟩ = some vo ∧ w2.frozen? ⟨w.heap.size + 2, 0, none⟩ = false :=
  box_cell ((hgrow.block _ (by have := h.sz; omega) (fun e => own_ne h.o h.b (by decide) e.symm)).trans h.b)
theorem AInv.tail {w W2 wz w2 : World} {O O' : List TyI} {vo v2 : Value} (h : AInv w W2 O vo wz) (hgrow : wz.grownBy w2 vo.ownBlock) (hown : w2.ownsRow (w.heap.size + 2) 68 3 v2 O'.length (tyC O')) :
    AInv w W2 O' v2 (w2.setCell ⟨w.heap.size + 2, 0, none⟩ v2) := by
  have hb2 : w2.heap[w.heap.size + 2]? = some (.cells #[vo] 28 (0, 0)) := (hgrow.block _ (by have := h.sz; omega) (fun e => own_ne h.o h.b (by decide) e.symm)).trans h.b
  refine ⟨own_setCell hown (own_ne hown hb2 (by decide)), box_set hb2, ?_, ?_⟩
  · exact (h.bel.grown hgrow (by have := h.sz; omega) (fun k hk => by have := (h.o.lt k hk).1; omega)).setCell (Nat.le_refl _) _
  · rw [setCell_size]; exact Nat.le_trans h.sz hgrow.size
/-- A block of the loop's own that the row does not use. -/
theorem AInv.keep {w W2 wz w2 : World} {O : List TyI} {vo u : Value} {q : Nat} {C : Array Value} {T : TypeId} {f : Nat × Nat} (h : AInv w W2 O vo wz) (hgrow : wz.grownBy w2 vo.ownBlock) (hq : wz.heap[q]? = some (.cells C T f)) (hT : 68 ≠ T ∨ vo.ownBlock ≠ some q) (hne : q ≠ w.heap.size + 2) :
    (w2.setCell ⟨w.heap.size + 2, 0, none⟩ u).heap[q]? = some (.cells C T f) := by
  have hlt : q < wz.heap.size := by
    rcases Nat.lt_or_ge q wz.heap.size with h | h
    · exact h
    · rw [Array.getElem?_eq_none h] at hq; cases hq
  rw [Below.heap_setCell _ _ _ _ (fun e => hne e)]
  refine (hgrow.block q hlt fun e => ?_).trans hq
  rcases hT with hT | hT
  · exact own_ne h.o hq hT e.symm
  · exact hT e.symm
theorem tyC_len (l : List TyI) : (tyC l).length = l.length * 3 := by
  induction l with
  | nil => rfl
  | cons x l ih => unfold tyC at ih ⊢; rw [List.flatMap_cons, List.length_append, List.length_cons, ih]; simp only [List.length_cons, List.length_nil]; omega
theorem src_cells {w : World} {b o : Nat} {l : List TyI} (h : ∀ i (h : i < l.length), TyIEl w b (o + i * 3) l[i]) : ∀ j u, (tyC l)[j]? = some u → w.cell? ((⟨b, o, none⟩ : Addr).add j) = some u := by
  intro j u hj
  have hp : (⟨b, o, none⟩ : Addr).add j = ⟨b, o + j, none⟩ := by unfold Addr.add; split <;> simp_all
  rw [hp]
  have hlen := tyC_len l
  have hj2 : j < l.length * 3 := by
    rw [← hlen]
    exact (List.getElem?_eq_some_iff.1 hj).1
  obtain ⟨i, r, hir, hr⟩ : ∃ i r, j = i * 3 + r ∧ r < 3 := ⟨j / 3, j % 3, by omega, by omega⟩
  have hi : i < l.length := by omega
  have hg := flat_get (fun x : TyI => [Value.int .i64 x.var, .string x.name, .int .i64 x.arity]) 3 (fun _ => rfl) l i r hi hr
  obtain ⟨e0, e1, e2⟩ := h i hi
  rw [hir] at hj
  unfold tyC at hj
  rw [hg] at hj
  rw [hir, ← Nat.add_assoc]
  rcases (by omega : r = 0 ∨ r = 1 ∨ r = 2) with rfl | rfl | rfl
  · simp at hj; subst hj; exact e0.1
  · simp at hj; subst hj; exact e1.1
  · simp at hj; subst hj; exact e2.1
end Go.Proofs.Ytciohamonmmciaa
