
/- The program's rows of texts: mapped at a type's items, and how many texts each has. -/
import Derived.Test.YtcllifmaokldbaaDoorPrI
namespace Go.Proofs.YtcllifmaokldbaaDoor
set_option linter.unusedVariables false
set_option maxRecDepth 100000
open Go.ChangeShapes Go.WideShapes Go.ChangeAt Go.RowKit

theorem info_strs : (Tryd.prog.info? 42).map (fun i => (i.zero, i.size, i.bytes)) = some (some (.slice none 0 0), 1, 24) := by kernel_rfl
theorem itemT_ok {x : TyI} (hx : itemB x = true) : ((itemT varL x).length : Int) = x.arity + 1 ∧ (itemT varL x).length ≤ 3 ∧ ∀ t ∈ itemT varL x, t.length ≤ 40 := by
  have hn := item_name hx
  have hv := item_var hx
  by_cases hn0 : x.name.toList = []
  · have := varL_len x.var (hv hn0).1 (hv hn0).2.1
    have := (hv hn0).2.2
    rw [itemT, if_pos hn0]
    simp; omega
  · rcases item_arity hx with h | h | h
    · rw [itemT, if_neg hn0, if_pos h]; simp; omega
    · rw [itemT, if_neg hn0, if_neg (by omega), if_pos h]; simp; omega
    · rw [itemT, if_neg hn0, if_neg (by omega), if_neg (by omega)]
      split <;> simp <;> omega
theorem own_down {B B2 e m n : Nat} {w : World} {v : Value} {xs : List Value} (h : w.ownsRow B e m v n xs) (hB : B2 ≤ B) : w.ownsRow B2 e m v n xs := by
  obtain ⟨h0, h1 | ⟨g, cap, cur, rfl, h1, h2⟩⟩ := h
  · exact ⟨h0, .inl h1⟩
  · exact ⟨h0, .inr ⟨g, cap, cur, rfl, Nat.le_trans hB h1, h2⟩⟩
theorem own_two' {w : World} {B e B2 e2 n m n2 m2 : Nat} {v v2 : Value} {xs xs2 : List Value} (h : w.ownsRow B e m v n xs) (h2 : w.ownsRow B2 e2 m2 v2 n2 xs2) (he : e ≠ e2) : v.ownBlock = none ∨ v.ownBlock ≠ v2.ownBlock := by
  obtain ⟨_, ⟨rfl, _⟩ | ⟨g', cap, cur, rfl, _, h3, _⟩⟩ := h
  · exact .inl rfl
  · right
    intro hg
    obtain ⟨_, ⟨rfl, _⟩ | ⟨g2, cap2, cur2, rfl, _, h4, _⟩⟩ := h2
    · cases hg
    · cases hg
      rw [h3] at h4
      injection h4 with h4
      injection h4 with _ h5
      exact he h5
/-- A row of rows of strings, read. -/
theorem own_rows {B e : Nat} {w : World} {v : Value} {us : List Value} {T : List (List ByteArray)} (h : w.ownsRow B e 1 v us.length us) (hl : us.length = T.length) (hm : T.length ≤ maxLen)
    (hin : ∀ j (h : j < us.length) (h2 : j < T.length), RowRd 1 StrEl w us[j] T[j]) : RowRd 1 (RowEl 1 StrEl) w v T := by
  by_cases h0 : 0 < us.length
  · obtain ⟨g, cap, rfl, h1, h2, h3, h4, _⟩ := own_shape h h0
    rw [hl] at h3 h4 ⊢
    refine .inr ⟨g, 0, cap, rfl, ⟨hm, h3⟩, h2, by omega, fun i hi => ?_⟩
    have := h4 i hi
    rw [Nat.mul_one, Nat.zero_add]
    exact ⟨us[i]'(by omega), by rw [this]; simp [hl, hi], hin i (by omega) hi⟩
  · obtain rfl : T = [] := List.eq_nil_of_length_eq_zero (by omega)
    have hz : us.length = 0 := by omega
    rw [hz] at h
    obtain ⟨hx, ⟨rfl, _⟩ | ⟨g, cap, cur, rfl, _⟩⟩ := h
    · exact .inl ⟨rfl, _, _, rfl⟩
    · exact .inl ⟨rfl, _, _, rfl⟩
end Go.Proofs.YtcllifmaokldbaaDoor
