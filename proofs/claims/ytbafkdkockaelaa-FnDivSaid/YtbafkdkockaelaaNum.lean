/- Contracts of the number functions of the program and of its model. -/
import Derived.Test.YtbafkdkockaelaaRows
import Derived.Test.YtbafkdkockaelaaNumMath
import Derived.WalkKit
import Derived.ProofKit
import Derived.OpenShut
namespace Go.Proofs.Ytbafkdkockaelaa
open Go.ChangeShapes Go.WideShapes Go.ChangeAt Go.RowKit

theorem ret_int {k : IntKind} {a b : Int} (h : a = b) : Ending.returned (.int k a) = .returned (.int k b) := by rw [h]

theorem ret_ib {k : IntKind} {a b : Int} {c : Bool} (h : a = b) : Ending.returned (.tuple #[.int k a, .bool c]) = .returned (.tuple #[.int k b, .bool c]) := by rw [h]

theorem iWrap (n : Int) (w : World) :
    Calls Try.prog 19 #[.int .i64 n] w fun e w' => e = .returned (.int .i64 (W n)) ∧ w = w' := by
  go_enter Try.func19, Try.ntmps19
  go_wp2
  go_ret
  exact ⟨rfl, rfl⟩
theorem sWrap (n : Int) (w : World) :
    Calls Try.prog 20 #[.int .i64 n] w fun e w' => e = .returned (.int .i64 (W n)) ∧ w = w' := by
  go_enter Try.func20, Try.ntmps20
  go_wp2
  go_ret
  exact ⟨rfl, rfl⟩

theorem iAddW (a b : Int) (w : World) :
    Calls Try.prog 17 #[.int .i64 a, .int .i64 b] w fun e w' => e = .returned (.int .i64 (W (a + b))) ∧ w = w' := by
  go_enter Try.func17, Try.ntmps17
  go_wp2_with (go_at_call 19; refine (iWrap _ _).mono ?_; rintro e w' ⟨rfl, rfl⟩)
  go_ret
  exact ⟨ret_int (W_wrap _), rfl⟩
theorem iSubW (a b : Int) (w : World) :
    Calls Try.prog 16 #[.int .i64 a, .int .i64 b] w fun e w' => e = .returned (.int .i64 (W (a - b))) ∧ w = w' := by
  go_enter Try.func16, Try.ntmps16
  go_wp2_with (go_at_call 19; refine (iWrap _ _).mono ?_; rintro e w' ⟨rfl, rfl⟩)
  go_ret
  exact ⟨ret_int (W_wrap _), rfl⟩
theorem iMulW (a b : Int) (w : World) :
    Calls Try.prog 18 #[.int .i64 a, .int .i64 b] w fun e w' => e = .returned (.int .i64 (W (a * b))) ∧ w = w' := by
  go_enter Try.func18, Try.ntmps18
  go_wp2_with (go_at_call 19; refine (iWrap _ _).mono ?_; rintro e w' ⟨rfl, rfl⟩)
  go_ret
  exact ⟨ret_int (W_wrap _), rfl⟩
theorem sAddW (a b : Int) (w : World) :
    Calls Try.prog 25 #[.int .i64 a, .int .i64 b] w fun e w' => e = .returned (.int .i64 (W (a + b))) ∧ w = w' := by
  have h1 := W_range a
  have h2 := W_range b
  go_enter Try.func25, Try.ntmps25
  go_wp2_with (go_at_call 20; refine (sWrap _ _).mono ?_; rintro e w' ⟨rfl, rfl⟩)
  go_ret
  exact ⟨ret_int (W_add _ _), rfl⟩
theorem sSubW (a b : Int) (w : World) :
    Calls Try.prog 26 #[.int .i64 a, .int .i64 b] w fun e w' => e = .returned (.int .i64 (W (a - b))) ∧ w = w' := by
  have h1 := W_range a
  have h2 := W_range b
  go_enter Try.func26, Try.ntmps26
  go_wp2_with (go_at_call 20; refine (sWrap _ _).mono ?_; rintro e w' ⟨rfl, rfl⟩)
  go_ret
  exact ⟨ret_int (W_sub _ _), rfl⟩
theorem iDivW_no (a b : Int) (w : World) (hz : W b = 0) :
    Calls Try.prog 22 #[.int .i64 a, .int .i64 b] w fun e w' => e = .returned (.tuple #[.int .i64 0, .bool false]) ∧ w = w' := by
  have h1 := W_range a
  have h2 := W_range b
  go_enter Try.func22, Try.ntmps22
  go_wp2_with (go_at_call 19; refine (iWrap _ _).mono ?_; rintro e w' ⟨rfl, rfl⟩)
  go_ret2
  exact ⟨rfl, rfl⟩
theorem iDivW_yes (a b : Int) (w : World) (hz : W b ≠ 0) :
    Calls Try.prog 22 #[.int .i64 a, .int .i64 b] w fun e w' => e = .returned (.tuple #[.int .i64 (Dv a b), .bool true]) ∧ w = w' := by
  have h1 := W_range a
  have h2 := W_range b
  go_enter Try.func22, Try.ntmps22
  go_wp2_with (go_at_call 19; refine (iWrap _ _).mono ?_; rintro e w' ⟨rfl, rfl⟩)
  go_ret2
  exact ⟨by rw [W_wrap]; rfl, rfl⟩
theorem sDivW_no (a b : Int) (w : World) (hz : W b = 0) :
    Calls Try.prog 28 #[.int .i64 a, .int .i64 b] w fun e w' => e = .returned (.tuple #[.int .i64 0, .bool false]) ∧ w = w' := by
  have h1 := W_range a
  have h2 := W_range b
  go_enter Try.func28, Try.ntmps28
  go_wp2_with (go_at_call 20; refine (sWrap _ _).mono ?_; rintro e w' ⟨rfl, rfl⟩)
  go_ret2
  exact ⟨rfl, rfl⟩
theorem sDivW_yes (a b : Int) (w : World) (hz : W b ≠ 0) :
    Calls Try.prog 28 #[.int .i64 a, .int .i64 b] w fun e w' => e = .returned (.tuple #[.int .i64 (Dv a b), .bool true]) ∧ w = w' := by
  have h1 := W_range a
  have h2 := W_range b
  go_enter Try.func28, Try.ntmps28
  go_wp2_with (go_at_call 20; refine (sWrap _ _).mono ?_; rintro e w' ⟨rfl, rfl⟩)
  go_ret2
  exact ⟨by rw [W_wrap]; rfl, rfl⟩
theorem iRemW_no (a b : Int) (w : World) (hz : W b = 0) :
    Calls Try.prog 23 #[.int .i64 a, .int .i64 b] w fun e w' => e = .returned (.tuple #[.int .i64 0, .bool false]) ∧ w = w' := by
  have h1 := W_range a
  have h2 := W_range b
  go_enter Try.func23, Try.ntmps23
  go_wp2_with (go_at_call 19; refine (iWrap _ _).mono ?_; rintro e w' ⟨rfl, rfl⟩)
  go_ret2
  exact ⟨rfl, rfl⟩
theorem iRemW_yes (a b : Int) (w : World) (hz : W b ≠ 0) :
    Calls Try.prog 23 #[.int .i64 a, .int .i64 b] w fun e w' => e = .returned (.tuple #[.int .i64 (Rm a b), .bool true]) ∧ w = w' := by
  have h1 := W_range a
  have h2 := W_range b
  go_enter Try.func23, Try.ntmps23
  go_wp2_with (go_at_call 19; refine (iWrap _ _).mono ?_; rintro e w' ⟨rfl, rfl⟩)
  go_ret2
  exact ⟨rfl, rfl⟩
theorem sRemW_no (a b : Int) (w : World) (hz : W b = 0) :
    Calls Try.prog 29 #[.int .i64 a, .int .i64 b] w fun e w' => e = .returned (.tuple #[.int .i64 0, .bool false]) ∧ w = w' := by
  have h1 := W_range a
  have h2 := W_range b
  go_enter Try.func29, Try.ntmps29
  go_wp2_with (go_at_call 20; refine (sWrap _ _).mono ?_; rintro e w' ⟨rfl, rfl⟩)
  go_ret2
  exact ⟨rfl, rfl⟩
theorem sRemW_yes (a b : Int) (w : World) (hz : W b ≠ 0) :
    Calls Try.prog 29 #[.int .i64 a, .int .i64 b] w fun e w' => e = .returned (.tuple #[.int .i64 (Rm a b), .bool true]) ∧ w = w' := by
  have h1 := W_range a
  have h2 := W_range b
  go_enter Try.func29, Try.ntmps29
  go_wp2_with (go_at_call 20; refine (sWrap _ _).mono ?_; rintro e w' ⟨rfl, rfl⟩)
  go_ret2
  exact ⟨ret_ib (rem_eq a b), rfl⟩

theorem sMulW (a b : Int) (w : World) :
    Calls Try.prog 27 #[.int .i64 a, .int .i64 b] w fun e w' => e = .returned (.int .i64 (W (a * b))) ∧ w = w' := by
  go_enter Try.func27, Try.ntmps27
  go_wp2_with (go_at_call 20; refine (sWrap _ _).mono ?_; rintro e w' ⟨rfl, rfl⟩)
  go_loop [5, 6, 7] (fun o x i => ∃ k : Nat, k ≤ 63 ∧ i = .int .i64 k ∧ o = .int .i64 (W (a * (b % 2 ^ k))) ∧ x = .int .i64 (W (a * 2 ^ k))) (fun _ _ i => 63 - (intOf i).toNat)
  case atStart => exact ⟨0, by omega, rfl, by simp [Int.emod_one, W_zero], by simp⟩
  case round =>
    obtain ⟨k, hk, rfl, rfl, rfl⟩ := hrel
    by_cases hlt : k < 63
    · go_wp2_with (go_at_call 25; refine (sAddW _ _ _).mono ?_; rintro e w' ⟨rfl, rfl⟩)
      · rename_i hb _
        have hb' : b / 2 ^ k % 2 = 1 := by rw [and1] at hb; simpa using hb
        go_round
        case rel => exact ⟨k + 1, by omega, by go_num, by rw [bit_step _ _ hb', W_add, Int.mul_add], by rw [W_add, Int.pow_succ]; congr 3; rw [← Int.mul_assoc]; omega⟩
        case measure => simp [intOf]; omega
      · rename_i hb _
        have hb' : ¬ b / 2 ^ k % 2 = 1 := by rw [and1] at hb; simpa using hb
        go_round
        case rel => exact ⟨k + 1, by omega, by go_num, by rw [bit_stay _ _ hb'], by rw [W_add, Int.pow_succ]; congr 3; rw [← Int.mul_assoc]; omega⟩
        case measure => simp [intOf]; omega
    · obtain rfl : k = 63 := by omega
      go_wp2
      go_ret
      exact ⟨ret_int (mul_end a b), rfl⟩
end Go.Proofs.Ytbafkdkockaelaa
