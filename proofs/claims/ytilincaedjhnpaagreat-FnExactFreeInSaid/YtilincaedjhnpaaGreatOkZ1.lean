/- The program's check of a node by itself. -/
import Derived.Test.YtilincaedjhnpaaGreatOkY2
import Derived.Test.YtilincaedjhnpaaGreatFnNd
namespace Go.Proofs.YtilincaedjhnpaaGreat
set_option linter.unusedVariables false
set_option maxRecDepth 100000
open Go.ChangeShapes Go.WideShapes Go.ChangeAt Go.RowKit Go.Maps Go.WideMaps

def rnK (k n : Int) : Bool := if k = 1 then decide (0 ≤ n) && decide (n ≤ 4611686018427387903) else decide (n = 0)
theorem iRightN (k a n : Int) (s : ByteArray) (u4 u5 : Value) (w : World) :
    Calls Tryz.prog 61 #[.agg #[.int .i64 k, .int .i64 a, .int .i64 n, .string s, u4, u5]] w fun e w' => e = .returned (.bool (rnK k n)) ∧ Below w.heap.size w w' := by
  by_cases h1 : k = 1
  · subst h1
    by_cases h0 : 0 ≤ n
    · have HF := Lib.hid (show rnK 1 n = decide (n ≤ 4611686018427387903) from by simp [rnK, h0])
      go_enter Tryz.func61, Tryz.ntmps61
      go_wp2
      go_ret
      exact ⟨ret_bool HF.out.symm, Joins.below_alloc1 w _⟩
    · have HF := Lib.hid (show rnK 1 n = false from by simp [rnK, h0])
      go_enter Tryz.func61, Tryz.ntmps61
      go_wp2
      go_ret
      exact ⟨ret_bool HF.out.symm, Joins.below_alloc1 w _⟩
  · have h1' : (k == 1) = false := by simpa using h1
    have HF := Lib.hid (show rnK k n = decide (n = 0) from if_neg h1)
    clear h1
    go_enter Tryz.func61, Tryz.ntmps61
    go_wp2
    go_ret
    refine ⟨ret_bool ?_, Joins.below_alloc1 w _⟩
    rw [HF.out, Bool.eq_iff_iff]; simp
theorem iOperator (s : ByteArray) (w : World) (hs : s.size ≤ maxLen) :
    Calls Tryz.prog 92 #[.string s] w fun e w' => e = .returned (.bool (primB s)) ∧ Below w.heap.size w w' := by
  by_cases h : primB s = true
  · have h' := h
    simp only [primB, prims, List.any_cons, List.any_nil, Bool.or_false, Bool.or_eq_true, beq_iff_eq] at h
    rcases h with h | h | h | h | h | h | h | h | h | h
    all_goals
      have HB := Lib.hid h'
      clear h'
      go_enter Tryz.func92, Tryz.ntmps92
      go_wp2
      go_ret
      exact ⟨ret_bool HB.out.symm, Below.refl _ _⟩
  · have HB := Lib.hid (show primB s = false from by simpa using h)
    simp only [primB, prims, List.any_cons, List.any_nil, Bool.or_false, Bool.or_eq_true, not_or] at h
    obtain ⟨h0, h1, h2, h3, h4, h5, h6, h7, h8, h9⟩ := h
    simp only [Bool.not_eq_true] at h0 h1 h2 h3 h4 h5 h6 h7 h8 h9
    go_enter Tryz.func92, Tryz.ntmps92
    go_wp2
    go_ret
    exact ⟨ret_bool HB.out.symm, Below.refl _ _⟩
/-- The kinds, told apart. -/
theorem kinds (k : Int) : k = 1 ∨ k = 2 ∨ k = 3 ∨ k = 4 ∨ k = 5 ∨ k = 6 ∨ k = 7 ∨ k = 8 ∨ k = 9 ∨ k = 10 ∨ k = 11 ∨ k = 12 ∨ k = 13 ∨ k = 14 ∨ k = 15 ∨ k = 16 ∨ k = 17 ∨ k = 18 ∨ k = 19 ∨ (((k == 1) = false ∧ (k == 2) = false ∧ (k == 3) = false ∧ (k == 4) = false ∧ (k == 5) = false ∧ (k == 6) = false ∧ (k == 7) = false ∧ (k == 8) = false ∧ (k == 9) = false ∧ (k == 10) = false) ∧ (k == 11) = false ∧ (k == 12) = false ∧ (k == 13) = false ∧ (k == 14) = false ∧ (k == 15) = false ∧ (k == 16) = false ∧ (k == 17) = false ∧ (k == 18) = false ∧ (k == 19) = false) := by
  simp only [beq_eq_false_iff_ne, ne_eq]; omega
theorem rkB_no (k m : Int) (h : k < 1 ∨ 19 < k) : rkB k m = false := by
  unfold rkB
  repeat' split
  all_goals first | omega | rfl
set_option maxHeartbeats 4000000 in
theorem iRightKids (k a n : Int) (s : ByteArray) (kids : List Int) (u4 u5 : Value) (w : World) (hk : RowRd 1 IntEl w u4 kids) :
    Calls Tryz.prog 63 #[.agg #[.int .i64 k, .int .i64 a, .int .i64 n, .string s, u4, u5]] w fun e w' => e = .returned (.bool (rkB k kids.length)) ∧ Below w.heap.size w w' := by
  obtain ⟨b, cap', rfl, hm', hkf⟩ := hk.form
  clear hk hkf
  unfold maxLen at hm'
  rcases kinds k with rfl | rfl | rfl | rfl | rfl | rfl | rfl | rfl | rfl | rfl | rfl | rfl | rfl | rfl | rfl | rfl | rfl | rfl | rfl | ⟨⟨g1, g2, g3, g4, g5, g6, g7, g8, g9, g10⟩, g11, g12, g13, g14, g15, g16, g17, g18, g19⟩
  iterate 19
    · go_enter Tryz.func63, Tryz.ntmps63
      go_wp2
      all_goals
        go_ret
        refine ⟨ret_bool ?_, Joins.below_alloc1 w _⟩
        first | (simp [rkB]; done) | (rw [Bool.eq_iff_iff]; simp [rkB]; done) | (rw [Bool.eq_iff_iff]; simp [rkB]; omega) | (simp [rkB]; omega)
  · have HF := Lib.hid (rkB_no k (kids.length : Int) (by simp only [beq_eq_false_iff_ne, ne_eq] at *; omega))
    go_enter Tryz.func63, Tryz.ntmps63
    go_wp2
    go_ret
    exact ⟨ret_bool HF.out.symm, Joins.below_alloc1 w _⟩
def rsK (k : Int) (s : ByteArray) (m : Int) : Bool := if k = 2 then true else if k = 3 ∨ k = 5 ∨ k = 7 ∨ k = 8 ∨ k = 15 then nameB s else if k = 4 then conOkB s m true else if k = 10 then primB s else decide (s.toList = [])
set_option maxHeartbeats 4000000 in
theorem iRightS (k a n : Int) (s : ByteArray) (kids : List Int) (u4 u5 : Value) (w : World) (hk : RowRd 1 IntEl w u4 kids) (hs : s.size ≤ maxLen) :
    Calls Tryz.prog 62 #[.agg #[.int .i64 k, .int .i64 a, .int .i64 n, .string s, u4, u5]] w fun e w' => e = .returned (.bool (rsK k s kids.length)) ∧ Below w.heap.size w w' := by
  obtain ⟨b, cap', rfl, hm', hkf⟩ := hk.form
  clear hk hkf
  unfold maxLen at hm'
  have hN := fun W => iNameOkB s W hs
  have hO := fun W => iOperator s W hs
  have hC := fun W => iConTakes s (kids.length : Int) W hs
  rcases kinds k with rfl | rfl | rfl | rfl | rfl | rfl | rfl | rfl | rfl | rfl | rfl | rfl | rfl | rfl | rfl | rfl | rfl | rfl | rfl | ⟨⟨g1, g2, g3, g4, g5, g6, g7, g8, g9, g10⟩, g11, g12, g13, g14, g15, g16, g17, g18, g19⟩
  iterate 19
    · go_enter Tryz.func62, Tryz.ntmps62
      go_wp2_with (first
        | (go_at_call 70; refine (hN _).mono ?_; rintro e w1 ⟨rfl, hb⟩)
        | (go_at_call 92; refine (hO _).mono ?_; rintro e w1 ⟨rfl, hb⟩)
        | (go_at_call 91; refine (hC _).mono ?_; rintro e w1 ⟨rfl, hb⟩))
      all_goals
        go_ret
        refine ⟨ret_bool ?_, by first | exact below_tr (Joins.below_alloc1 w _) hb | exact Joins.below_alloc1 w _⟩
        first | (simp [rsK]; done) | (rw [Bool.eq_iff_iff]; simp [rsK]; done)
  · have HF := Lib.hid (show rsK k s (kids.length : Int) = decide (s.toList = []) from by simp only [beq_eq_false_iff_ne, ne_eq] at *; simp [rsK, *])
    go_enter Tryz.func62, Tryz.ntmps62
    go_wp2
    go_ret
    refine ⟨ret_bool ?_, Joins.below_alloc1 w _⟩
    rw [HF.out, Bool.eq_iff_iff]; simp
theorem iIsCons (k a n : Int) (s : ByteArray) (u4 u5 : Value) (w : World) (hs : s.size ≤ maxLen) :
    Calls Tryz.prog 65 #[.agg #[.int .i64 k, .int .i64 a, .int .i64 n, .string s, u4, u5]] w fun e w' => e = .returned (.bool (decide (k = 4) && decide (s.toList = [58, 58]))) ∧ Below w.heap.size w w' := by
  by_cases h4 : k = 4
  · subst h4
    go_enter Tryz.func65, Tryz.ntmps65
    go_wp2
    go_ret
    refine ⟨ret_bool ?_, Joins.below_alloc1 w _⟩
    rw [Bool.eq_iff_iff]; simp
  · have h4' : (k == 4) = false := by simpa using h4
    have HB := Lib.hid (show (decide (k = 4) && decide (s.toList = [58, 58])) = false from by simp [h4])
    clear h4
    go_enter Tryz.func65, Tryz.ntmps65
    go_wp2
    go_ret
    exact ⟨ret_bool HB.out.symm, Joins.below_alloc1 w _⟩
end Go.Proofs.YtilincaedjhnpaaGreat
