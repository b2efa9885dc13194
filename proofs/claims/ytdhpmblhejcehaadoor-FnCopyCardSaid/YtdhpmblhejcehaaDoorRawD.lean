/- (Without what XDeep holds.) The model's drawn numbers: whatever the bytes, some 64-bit integer comes, and memory below the cursor stands. -/
import Derived.Test.YtdhpmblhejcehaaDoorNew
namespace Go.Proofs.YtdhpmblhejcehaaDoor
set_option linter.unusedVariables false
open Go.ChangeShapes Go.WideShapes Go.ChangeAt Go.RowKit

theorem w64 (n : Int) : -9223372036854775808 ≤ wrap64 n ∧ wrap64 n ≤ 9223372036854775807 := wrap64_range n
theorem l01Raw (B P : Nat) (a : Option Addr) (len cap : Nat) (zs : List Int) (w : World) (hC : Cur B P a len cap zs w) :
    Calls Tryd.prog 39 #[.pointer (some ⟨P, 0, none⟩)] w (Drawn (-9223372036854775808) 9223372036854775807 B P a len cap zs w) := by
  go_enter Tryd.func39, Tryd.ntmps39
  go_wp2_with fail
  refine (l01Below 11 _ _ _ _ _ _ _ hC (by omega) (by omega)).mono ?_
  rintro e w1 ⟨k, hk0, hk1, rfl, hM⟩
  by_cases h4 : k < 4
  · go_wp2_with fail
    refine (l01Below 20 _ _ _ _ _ _ _ hM.1 (by omega) (by omega)).mono ?_
    rintro e w2 ⟨x, hx0, hx1, rfl, hM2⟩
    go_wp2
    go_ret
    exact ⟨_, by omega, by omega, rfl, hM.trans hM2⟩
  by_cases h44 : k = 4
  · go_wp2_with fail
    refine (l01Below 3 _ _ _ _ _ _ _ hM.1 (by omega) (by omega)).mono ?_
    rintro e w2 ⟨x, hx0, hx1, rfl, hM2⟩
    go_wp2
    go_ret
    exact ⟨_, by omega, by omega, rfl, hM.trans hM2⟩
  by_cases h5 : k = 5
  · go_wp2_with fail
    refine (l01Below 3 _ _ _ _ _ _ _ hM.1 (by omega) (by omega)).mono ?_
    rintro e w2 ⟨x, hx0, hx1, rfl, hM2⟩
    go_wp2
    go_ret
    exact ⟨_, by omega, by omega, rfl, hM.trans hM2⟩
  by_cases h6 : k = 6
  · go_wp2_with fail
    refine (l01Below 2 _ _ _ _ _ _ _ hM.1 (by omega) (by omega)).mono ?_
    rintro e w2 ⟨x, hx0, hx1, rfl, hM2⟩
    go_wp2
    go_ret
    exact ⟨_, by omega, by omega, rfl, hM.trans hM2⟩
  by_cases h7 : k = 7
  · go_wp2_with fail
    refine (l01Below 2 _ _ _ _ _ _ _ hM.1 (by omega) (by omega)).mono ?_
    rintro e w2 ⟨x, hx0, hx1, rfl, hM2⟩
    go_wp2
    go_ret
    exact ⟨_, by omega, by omega, rfl, hM.trans hM2⟩
  by_cases h8 : k = 8
  · go_wp2_with fail
    refine (l01Below 63 _ _ _ _ _ _ _ hM.1 (by omega) (by omega)).mono ?_
    rintro e w2 ⟨x, hx0, hx1, rfl, hM2⟩
    go_wp2
    go_ret
    exact ⟨_, (w64 _).1, (w64 _).2, rfl, hM.trans hM2⟩
  · go_wp2_with fail
    refine (l01Below 65536 _ _ _ _ _ _ _ hM.1 (by omega) (by omega)).mono ?_
    rintro e w2 ⟨x, hx0, hx1, rfl, hM2⟩
    go_wp2_with fail
    refine (l01Below 65536 _ _ _ _ _ _ _ hM2.1 (by omega) (by omega)).mono ?_
    rintro e w3 ⟨y, hy0, hy1, rfl, hM3⟩
    go_wp2_with fail
    refine (l01Below 1000 _ _ _ _ _ _ _ hM3.1 (by omega) (by omega)).mono ?_
    rintro e w4 ⟨z, hz0, hz1, rfl, hM4⟩
    go_wp2
    go_ret
    exact ⟨_, (w64 _).1, (w64 _).2, rfl, ((hM.trans hM2).trans hM3).trans hM4⟩
end Go.Proofs.YtdhpmblhejcehaaDoor
