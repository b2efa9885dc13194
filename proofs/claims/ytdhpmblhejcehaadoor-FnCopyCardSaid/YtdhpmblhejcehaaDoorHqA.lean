/- The program's check of heaps: a value, a cell. -/
import Derived.Test.YtdhpmblhejcehaaDoorHpMath
import Derived.Test.YtdhpmblhejcehaaDoorWrap
import Derived.Test.YtdhpmblhejcehaaDoorOkS
import Derived.Test.YtdhpmblhejcehaaDoorTake
import Derived.Deep.RegionHeld3
namespace Go.Proofs.YtdhpmblhejcehaaDoor
set_option linter.unusedVariables false
set_option maxRecDepth 100000
open Go.ChangeShapes Go.WideShapes Go.ChangeAt Go.RowKit

theorem iHpNum (n : Int) (w : World) : Calls Tryd.prog 41 #[.int .i64 n] w fun e w' => e = .returned (.bool (decide (W n = n))) ∧ w = w' := by
  go_enter Tryd.func41, Tryd.ntmps41
  go_wp2_with (go_at_call 59; refine (iWrap _ _).mono ?_; rintro e w' ⟨rfl, rfl⟩)
  go_ret
  refine ⟨ret_bool ?_, rfl⟩
  rw [Bool.eq_iff_iff]; simp
theorem iHpIdx (a n : Int) (w : World) :
    Calls Tryd.prog 42 #[.int .i64 a, .int .i64 n] w fun e w' => e = .returned (.bool (decide (0 ≤ a) && decide (a < n))) ∧ w = w' := by
  go_enter Tryd.func42, Tryd.ntmps42
  go_wp2
  all_goals
    go_ret
    exact ⟨ret_bool (by rw [Bool.eq_iff_iff]; simp; omega), rfl⟩
set_option maxHeartbeats 2000000 in
theorem iVal (m : Int) (v : Vl) (w : World) (hs : v.s.size ≤ maxLen) :
    Calls Tryd.prog 25 #[.agg #[.int .i64 v.kind, .int .i64 v.n, .string v.s], .int .i64 m] w fun e w' => e = .returned (.bool (valB m v)) ∧ Below w.heap.size w w' := by
  obtain ⟨k, n, s⟩ := v
  simp only at hs
  by_cases h1 : k = 1
  · subst h1
    have HB := Lib.hid (show valB m ⟨1, n, s⟩ = (decide (W n = n) && decide (s.toList = [])) from by simp [valB])
    generalize hW : decide (W n = n) = q at *
    have HN := fun (X : World) => Lib.hid (show Calls Tryd.prog 41 #[.int .i64 n] X fun e w' => e = .returned (.bool q) ∧ X = w' from by rw [← hW]; exact iHpNum n X)
    clear hW
    go_enter Tryd.func25, Tryd.ntmps25
    go_wp2_with fail
    refine (HN _).out.mono ?_
    rintro e w1 ⟨rfl, rfl⟩
    cases q
    · go_wp2
      go_ret
      exact ⟨ret_bool (by rw [HB.out]; rfl), Joins.below_alloc1 w _⟩
    · go_wp2
      all_goals
        go_ret
        exact ⟨ret_bool (by rw [HB.out, Bool.eq_iff_iff]; simp_all), Joins.below_alloc1 w _⟩
  by_cases h2 : k = 2
  · subst h2
    have HB := Lib.hid (show valB m ⟨2, n, s⟩ = decide (n = 0) from by simp [valB])
    clear h1
    go_enter Tryd.func25, Tryd.ntmps25
    go_wp2
    go_ret
    exact ⟨ret_bool (by rw [HB.out, Bool.eq_iff_iff]; simp), Joins.below_alloc1 w _⟩
  by_cases h3 : k = 3 ∨ k = 7
  · have HB := Lib.hid (show ∀ n, valB m ⟨k, n, s⟩ = (decide (n = 0) && decide (s.toList = [])) from fun n => by rcases h3 with rfl | rfl <;> simp [valB])
    clear h1 h2
    rcases h3 with rfl | rfl
    all_goals
      go_enter Tryd.func25, Tryd.ntmps25
      go_wp2
      all_goals
        go_ret
        exact ⟨ret_bool (by rw [HB.out, Bool.eq_iff_iff]; simp_all), Joins.below_alloc1 w _⟩
  by_cases h4 : k = 4 ∨ k = 5
  · have HB := Lib.hid (show ∀ n, valB m ⟨k, n, s⟩ = (decide (n = 0) && !decide (s.toList = [])) from fun n => by rcases h4 with rfl | rfl <;> simp [valB])
    clear h1 h2 h3
    rcases h4 with rfl | rfl
    all_goals
      go_enter Tryd.func25, Tryd.ntmps25
      go_wp2
      all_goals
        go_ret
        exact ⟨ret_bool (by rw [HB.out, Bool.eq_iff_iff]; simp_all), Joins.below_alloc1 w _⟩
  by_cases h6 : k = 6
  · subst h6
    have HB := Lib.hid (show valB m ⟨6, n, s⟩ = ((decide (0 ≤ n) && decide (n < m)) && decide (s.toList = [])) from by simp [valB, Bool.and_assoc])
    generalize hW : (decide (0 ≤ n) && decide (n < m)) = q at *
    have HN := fun (X : World) => Lib.hid (show Calls Tryd.prog 42 #[.int .i64 n, .int .i64 m] X fun e w' => e = .returned (.bool q) ∧ X = w' from by rw [← hW]; exact iHpIdx n m X)
    clear hW h1 h2 h3 h4
    go_enter Tryd.func25, Tryd.ntmps25
    go_wp2_with fail
    refine (HN _).out.mono ?_
    rintro e w1 ⟨rfl, rfl⟩
    cases q
    · go_wp2
      go_ret
      exact ⟨ret_bool (by rw [HB.out]; rfl), Joins.below_alloc1 w _⟩
    · go_wp2
      all_goals
        go_ret
        exact ⟨ret_bool (by rw [HB.out, Bool.eq_iff_iff]; simp_all), Joins.below_alloc1 w _⟩
  · have HB := Lib.hid (show valB m ⟨k, n, s⟩ = false from by rw [valB, if_neg h1, if_neg h2, if_neg h3, if_neg h4, if_neg h6])
    have b1 : (k == 1) = false := by simpa using h1
    have b2 : (k == 2) = false := by simpa using h2
    have b3 : (k == 3) = false := by simp; omega
    have b7 : (k == 7) = false := by simp; omega
    have b4 : (k == 4) = false := by simp; omega
    have b5 : (k == 5) = false := by simp; omega
    have b6 : (k == 6) = false := by simpa using h6
    clear h1 h2 h3 h4 h6
    go_enter Tryd.func25, Tryd.ntmps25
    go_wp2
    go_ret
    exact ⟨ret_bool HB.out.symm, Joins.below_alloc1 w _⟩
end Go.Proofs.YtdhpmblhejcehaaDoor
