/- The model's draws of values and heaps: heaps that may be wrong. -/
import Derived.Test.YtdhpmblhejcehaaDoorHpE
namespace Go.Proofs.YtdhpmblhejcehaaDoor
set_option linter.unusedVariables false
set_option maxRecDepth 100000
open Go.ChangeShapes Go.WideShapes Go.ChangeAt Go.RowKit

theorem cc_ext {xs : List Value} {L : List Ce} (hl : xs.length = L.length * 9) (h : ∀ i (hi : i < L.length) d, d < 9 → xs[i * 9 + d]? = (ce9 L[i])[d]?) : xs = cc L := by
  have h2 := cc_len L
  refine List.ext_getElem? fun j => ?_
  by_cases hj : j < L.length * 9
  · obtain ⟨i, d, hd, rfl⟩ : ∃ i d, d < 9 ∧ j = i * 9 + d := ⟨j / 9, j % 9, by omega, by omega⟩
    have hi : i < L.length := by omega
    rw [h i hi d hd, cc_get L i d hi hd]
  · rw [List.getElem?_eq_none (by omega), List.getElem?_eq_none (by omega)]
theorem cc_setK (L : List Ce) (k : Nat) (u : Int) (hk : k < L.length) : (cc L).set (k * 9) (.int .i64 u) = cc (L.set k ⟨u, L[k].n, L[k].s, L[k].a, L[k].b⟩) := by
  have hl := cc_len L
  refine cc_ext (by simp [hl]) fun i hi d hd => ?_
  have hi' : i < L.length := by simpa using hi
  by_cases he : i = k
  · subst he
    rw [List.getElem_set_self]
    have h9 : d = 0 ∨ d = 1 ∨ d = 2 ∨ d = 3 ∨ d = 4 ∨ d = 5 ∨ d = 6 ∨ d = 7 ∨ d = 8 := by omega
    have hg := cc_get L i d hi' hd
    rcases h9 with rfl | rfl | rfl | rfl | rfl | rfl | rfl | rfl | rfl
    · rw [Nat.add_zero, List.getElem?_set_self (by omega)]; rfl
    all_goals (rw [List.getElem?_set_ne (by omega), hg]; rfl)
  · rw [List.getElem_set_ne (by omega), List.getElem?_set_ne (by omega)]
    exact cc_get L i d hi' hd
theorem cc_setA (L : List Ce) (k : Nat) (v : Vl) (hk : k < L.length) : (((cc L).set (k * 9 + 3) (.int .i64 v.kind)).set (k * 9 + 4) (.int .i64 v.n)).set (k * 9 + 5) (.string v.s) = cc (L.set k ⟨L[k].kind, L[k].n, L[k].s, v, L[k].b⟩) := by
  have hl := cc_len L
  refine cc_ext (by simp [hl]) fun i hi d hd => ?_
  have hi' : i < L.length := by simpa using hi
  by_cases he : i = k
  · subst he
    rw [List.getElem_set_self]
    have h9 : d = 0 ∨ d = 1 ∨ d = 2 ∨ d = 3 ∨ d = 4 ∨ d = 5 ∨ d = 6 ∨ d = 7 ∨ d = 8 := by omega
    have hg := cc_get L i d hi' hd
    rcases h9 with rfl | rfl | rfl | rfl | rfl | rfl | rfl | rfl | rfl
    · rw [List.getElem?_set_ne (by omega), List.getElem?_set_ne (by omega), List.getElem?_set_ne (by omega), hg]; rfl
    · rw [List.getElem?_set_ne (by omega), List.getElem?_set_ne (by omega), List.getElem?_set_ne (by omega), hg]; rfl
    · rw [List.getElem?_set_ne (by omega), List.getElem?_set_ne (by omega), List.getElem?_set_ne (by omega), hg]; rfl
    · rw [List.getElem?_set_ne (by omega), List.getElem?_set_ne (by omega), List.getElem?_set_self (by omega)]; rfl
    · rw [List.getElem?_set_ne (by omega), List.getElem?_set_self (by simp; omega)]; rfl
    · rw [List.getElem?_set_self (by simp; omega)]; rfl
    all_goals (rw [List.getElem?_set_ne (by omega), List.getElem?_set_ne (by omega), List.getElem?_set_ne (by omega), hg]; rfl)
  · rw [List.getElem_set_ne (by omega), List.getElem?_set_ne (by omega), List.getElem?_set_ne (by omega), List.getElem?_set_ne (by omega)]
    exact cc_get L i d hi' hd
theorem cc_setB (L : List Ce) (k : Nat) (v : Vl) (hk : k < L.length) : (((cc L).set (k * 9 + 6) (.int .i64 v.kind)).set (k * 9 + 7) (.int .i64 v.n)).set (k * 9 + 8) (.string v.s) = cc (L.set k ⟨L[k].kind, L[k].n, L[k].s, L[k].a, v⟩) := by
  have hl := cc_len L
  refine cc_ext (by simp [hl]) fun i hi d hd => ?_
  have hi' : i < L.length := by simpa using hi
  by_cases he : i = k
  · subst he
    rw [List.getElem_set_self]
    have h9 : d = 6 ∨ d = 7 ∨ d = 8 ∨ d < 6 := by omega
    have hg := cc_get L i d hi' hd
    rcases h9 with rfl | rfl | rfl | h9
    · rw [List.getElem?_set_ne (by omega), List.getElem?_set_ne (by omega), List.getElem?_set_self (by omega)]; rfl
    · rw [List.getElem?_set_ne (by omega), List.getElem?_set_self (by simp; omega)]; rfl
    · rw [List.getElem?_set_self (by simp; omega)]; rfl
    · rw [List.getElem?_set_ne (by omega), List.getElem?_set_ne (by omega), List.getElem?_set_ne (by omega), hg]
      have h6 : d = 0 ∨ d = 1 ∨ d = 2 ∨ d = 3 ∨ d = 4 ∨ d = 5 := by omega
      rcases h6 with rfl | rfl | rfl | rfl | rfl | rfl <;> rfl
  · rw [List.getElem_set_ne (by omega), List.getElem?_set_ne (by omega), List.getElem?_set_ne (by omega), List.getElem?_set_ne (by omega)]
    exact cc_get L i d hi' hd
theorem own_set1H {B e n m : Nat} {w : World} {g cap : Nat} {xs : List Value} (h : w.ownsRow B e m (.slice (some ⟨g, 0, none⟩) n cap) n xs) (i : Nat) (u : Value) (hi : i < n * m) : (w.setCell ⟨g, i, none⟩ u).ownsRow B e m (.slice (some ⟨g, 0, none⟩) n cap) n (xs.set i u) := by
  obtain ⟨h0, ⟨h1, _⟩ | ⟨g', cap', cur, e1, h1, h2, h3, h4, h5, h6⟩⟩ := h
  · cases h1
  · cases e1
    refine ⟨by rw [List.length_set]; exact h0, .inr ⟨g, cap, cur.setIfInBounds i u, rfl, h1, hp_put h2, h3, h4, by simp [h5], ?_⟩⟩
    rw [← h6, Array.toList_setIfInBounds, List.take_set]
theorem mem_set5 {L : List Ce} (h : ∀ x ∈ L, Ce5 x) (k : Nat) {y : Ce} (hy : Ce5 y) : ∀ x ∈ L.set k y, Ce5 x := fun x hx => (List.mem_or_eq_of_mem_set hx).elim (h x) (fun e => e ▸ hy)
end Go.Proofs.YtdhpmblhejcehaaDoor
