/- The program's copying of a heap: the cells, the whole. -/
import Derived.Test.YtdhpmblhejcehaaCpK
namespace Go.Proofs.Ytdhpmblhejcehaa
set_option linter.unusedVariables false
set_option maxRecDepth 100000
open Go.ChangeShapes Go.WideShapes Go.ChangeAt Go.RowKit Go.Maps Go.WideMaps

theorem own_set1 {B e n m : Nat} {w : World} {g cap : Nat} {xs : List Value} (h : w.ownsRow B e m (.slice (some ⟨g, 0, none⟩) n cap) n xs) (i : Nat) (u : Value) (hi : i < n * m) : (w.setCell ⟨g, i, none⟩ u).ownsRow B e m (.slice (some ⟨g, 0, none⟩) n cap) n (xs.set i u) := by
  obtain ⟨h0, ⟨h1, _⟩ | ⟨g', cap', cur, e1, h1, h2, h3, h4, h5, h6⟩⟩ := h
  · cases h1
  · cases e1
    refine ⟨by rw [List.length_set]; exact h0, .inr ⟨g, cap, cur.setIfInBounds i u, rfl, h1, hp_put h2, h3, h4, by simp [h5], ?_⟩⟩
    rw [← h6, Array.toList_setIfInBounds, List.take_set]
theorem cc_set (L : List Ce) (k : Nat) (y : Ce) (hk : k < L.length) : (((((((((cc L).set (k * 9) (.int .i64 y.kind)).set (k * 9 + 1) (.int .i64 y.n)).set (k * 9 + 2) (.string y.s)).set (k * 9 + 3) (.int .i64 y.a.kind)).set (k * 9 + 4) (.int .i64 y.a.n)).set (k * 9 + 5) (.string y.a.s)).set (k * 9 + 6) (.int .i64 y.b.kind)).set (k * 9 + 7) (.int .i64 y.b.n)).set (k * 9 + 8) (.string y.b.s) = cc (L.set k y) := by
  have hl := cc_len L
  refine List.ext_getElem? fun j => ?_
  by_cases hj : j < L.length * 9
  · obtain ⟨i, d, hd, rfl⟩ : ∃ i d, d < 9 ∧ j = i * 9 + d := ⟨j / 9, j % 9, by omega, by omega⟩
    have hi : i < L.length := by omega
    rw [cc_get (L.set k y) i d (by rw [List.length_set]; exact hi) hd]
    by_cases he : i = k
    · subst he
      rw [List.getElem_set_self]
      have h9 : d = 0 ∨ d = 1 ∨ d = 2 ∨ d = 3 ∨ d = 4 ∨ d = 5 ∨ d = 6 ∨ d = 7 ∨ d = 8 := by omega
      rcases h9 with rfl | rfl | rfl | rfl | rfl | rfl | rfl | rfl | rfl <;> simp [List.getElem?_set, hl, ce9] <;> omega
    · rw [List.getElem_set_ne (by omega)]
      have hne : ∀ c, c < 9 → k * 9 + c ≠ i * 9 + d := fun c hc => by omega
      have h0 : k * 9 ≠ i * 9 + d := hne 0 (by omega)
      rw [List.getElem?_set_ne (hne 8 (by omega)), List.getElem?_set_ne (hne 7 (by omega)), List.getElem?_set_ne (hne 6 (by omega)), List.getElem?_set_ne (hne 5 (by omega)), List.getElem?_set_ne (hne 4 (by omega)), List.getElem?_set_ne (hne 3 (by omega)), List.getElem?_set_ne (hne 2 (by omega)), List.getElem?_set_ne (hne 1 (by omega)), List.getElem?_set_ne h0]
      exact cc_get L i d hi hd
  · rw [List.getElem?_eq_none (by simp [hl]; omega), List.getElem?_eq_none (by rw [cc_len, List.length_set]; omega)]
theorem drew_heap (w : World) : w.drew.heap = w.heap := rfl
/-- Nine places stored, one behind the other. -/
theorem set9_other {w : World} {g i b : Nat} (h : b ≠ g) (u0 u1 u2 u3 u4 u5 u6 u7 u8 : Value) : (((((((((w.setCell ⟨g, i, none⟩ u0).setCell ⟨g, i + 1, none⟩ u1).setCell ⟨g, i + 2, none⟩ u2).setCell ⟨g, i + 3, none⟩ u3).setCell ⟨g, i + 4, none⟩ u4).setCell ⟨g, i + 5, none⟩ u5).setCell ⟨g, i + 6, none⟩ u6).setCell ⟨g, i + 7, none⟩ u7).setCell ⟨g, i + 8, none⟩ u8).drew.heap[b]? = w.heap[b]? := by
  rw [drew_heap]
  rw [Below.heap_setCell _ _ _ _ (show b ≠ g from h), Below.heap_setCell _ _ _ _ (show b ≠ g from h), Below.heap_setCell _ _ _ _ (show b ≠ g from h), Below.heap_setCell _ _ _ _ (show b ≠ g from h), Below.heap_setCell _ _ _ _ (show b ≠ g from h), Below.heap_setCell _ _ _ _ (show b ≠ g from h), Below.heap_setCell _ _ _ _ (show b ≠ g from h), Below.heap_setCell _ _ _ _ (show b ≠ g from h), Below.heap_setCell _ _ _ _ (show b ≠ g from h)]
theorem set9_below {w W : World} {B g i : Nat} (h : Below B W w) (hg : B ≤ g) (u0 u1 u2 u3 u4 u5 u6 u7 u8 : Value) : Below B W (((((((((w.setCell ⟨g, i, none⟩ u0).setCell ⟨g, i + 1, none⟩ u1).setCell ⟨g, i + 2, none⟩ u2).setCell ⟨g, i + 3, none⟩ u3).setCell ⟨g, i + 4, none⟩ u4).setCell ⟨g, i + 5, none⟩ u5).setCell ⟨g, i + 6, none⟩ u6).setCell ⟨g, i + 7, none⟩ u7).setCell ⟨g, i + 8, none⟩ u8).drew :=
  (((((((((h.setCell (by exact hg) _).setCell (by exact hg) _).setCell (by exact hg) _).setCell (by exact hg) _).setCell (by exact hg) _).setCell (by exact hg) _).setCell (by exact hg) _).setCell (by exact hg) _).setCell (by exact hg) _).drew
theorem set9_own {w : World} {B e g cap k : Nat} {L : List Ce} (y : Ce) (h : w.ownsRow B e 9 (.slice (some ⟨g, 0, none⟩) L.length cap) L.length (cc L)) (hk : k < L.length) :
    (((((((((w.setCell ⟨g, k * 9, none⟩ (.int .i64 y.kind)).setCell ⟨g, k * 9 + 1, none⟩ (.int .i64 y.n)).setCell ⟨g, k * 9 + 2, none⟩ (.string y.s)).setCell ⟨g, k * 9 + 3, none⟩ (.int .i64 y.a.kind)).setCell ⟨g, k * 9 + 4, none⟩ (.int .i64 y.a.n)).setCell ⟨g, k * 9 + 5, none⟩ (.string y.a.s)).setCell ⟨g, k * 9 + 6, none⟩ (.int .i64 y.b.kind)).setCell ⟨g, k * 9 + 7, none⟩ (.int .i64 y.b.n)).setCell ⟨g, k * 9 + 8, none⟩ (.string y.b.s)).drew.ownsRow B e 9 (.slice (some ⟨g, 0, none⟩) L.length cap) L.length (cc (L.set k y)) := by
  rw [← cc_set L k y hk]
  have h0 := own_set1 h (k * 9) (.int .i64 y.kind) (by omega)
  have h1 := own_set1 h0 (k * 9 + 1) (.int .i64 y.n) (by omega)
  have h2 := own_set1 h1 (k * 9 + 2) (.string y.s) (by omega)
  have h3 := own_set1 h2 (k * 9 + 3) (.int .i64 y.a.kind) (by omega)
  have h4 := own_set1 h3 (k * 9 + 4) (.int .i64 y.a.n) (by omega)
  have h5 := own_set1 h4 (k * 9 + 5) (.string y.a.s) (by omega)
  have h6 := own_set1 h5 (k * 9 + 6) (.int .i64 y.b.kind) (by omega)
  have h7 := own_set1 h6 (k * 9 + 7) (.int .i64 y.b.n) (by omega)
  have h8 := own_set1 h7 (k * 9 + 8) (.string y.b.s) (by omega)
  exact h8.drew
/-- After k cells: the new heap as the program has it. -/
def nowL (h : List Ce) (o0 : List Nat) (k : Nat) : List Ce := (cpAt h o0 k).2 ++ oldC h ((cpAt h o0 k).1.drop k)
theorem oldC_len {h : List Ce} {o : List Nat} (ho : ∀ x ∈ o, x < h.length) : (oldC h o).length = o.length := by
  induction o with
  | nil => rfl
  | cons x o ih =>
    have := ih fun y hy => ho y (List.mem_cons_of_mem _ hy)
    simp only [oldC] at this ⊢
    rw [List.filterMap_cons, List.getElem?_eq_getElem (ho x (by simp))]
    simp [this]
theorem drop_mv (o : List Nat) (v : Vl) (k : Nat) (hk : k ≤ o.length) : ∃ p, mvO o v = o ++ p ∧ (mvO o v).drop k = o.drop k ++ p := by
  obtain ⟨p, hp⟩ := mvO_app o v
  exact ⟨p, hp, by rw [hp, List.drop_append_of_le_length hk]⟩
theorem nowL_next {h : List Ce} {o0 : List Nat} {k x : Nat} (hC : (cpAt h o0 k).2.length = k) (hk : k < (cpAt h o0 k).1.length) (hx : (cpAt h o0 k).1[k]? = some x) (hl : x < h.length) :
    nowL h o0 (k + 1) = ((nowL h o0 k ++ mvL h (cpAt h o0 k).1 h[x].a) ++ mvL h (mvO (cpAt h o0 k).1 h[x].a) h[x].b).set k ⟨h[x].kind, h[x].n, h[x].s, mvV (cpAt h o0 k).1 h[x].a, mvV (mvO (cpAt h o0 k).1 h[x].a) h[x].b⟩ := by
  have e := cpAt_next (h := h) (o0 := o0) hx hl
  unfold nowL
  rw [e]
  simp only
  generalize cpAt h o0 k = pc at *
  obtain ⟨O, C⟩ := pc
  simp only at *
  have hOd : O.drop k = x :: O.drop (k + 1) := by
    rw [List.drop_eq_getElem_cons hk]
    rw [List.getElem?_eq_getElem hk] at hx
    injection hx with hx
    rw [hx]
  have h1 : oldC h (O.drop k) = h[x] :: oldC h (O.drop (k + 1)) := by
    rw [hOd]
    simp [oldC, List.getElem?_eq_getElem hl]
  have a1 : mvO O h[x].a = O ++ (mvO O h[x].a).drop O.length := by
    obtain ⟨p, hp⟩ := mvO_app O h[x].a
    rw [hp]; simp
  have hq : ∀ (o : List Nat) (v : Vl), k + 1 ≤ o.length → oldC h ((mvO o v).drop (k + 1)) = oldC h (o.drop (k + 1)) ++ mvL h o v := by
    intro o v ho
    obtain ⟨p, hp, hd⟩ := drop_mv o v (k + 1) ho
    rw [hd, oldC_app]
    congr 1
    have := oldC_mv h o v
    rw [hp, oldC_app] at this
    exact List.append_cancel_left this
  rw [hq _ _ (Nat.le_trans hk (mvO_le _ _)), hq _ _ hk, h1]
  rw [show C ++ h[x] :: oldC h (O.drop (k + 1)) = C ++ ([h[x]] ++ oldC h (O.drop (k + 1))) from rfl]
  simp only [List.append_assoc]
  rw [List.set_append_right _ _ (by omega), hC, Nat.sub_self]
  rfl
end Go.Proofs.Ytdhpmblhejcehaa
