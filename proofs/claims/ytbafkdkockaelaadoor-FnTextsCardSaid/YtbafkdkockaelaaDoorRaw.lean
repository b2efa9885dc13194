/- The model's drawn numbers: whatever the bytes, some 64-bit integer comes, and memory below the cursor stands. -/
import Derived.Test.YtbafkdkockaelaaDoorCur
namespace Go.Proofs.YtbafkdkockaelaaDoor
set_option linter.unusedVariables false
open Go.ChangeShapes Go.WideShapes Go.ChangeAt Go.RowKit

theorem w64 (n : Int) : -9223372036854775808 ≤ wrap64 n ∧ wrap64 n ≤ 9223372036854775807 := wrap64_range n
theorem l01Raw (B P : Nat) (a : Option Addr) (len cap : Nat) (zs : List Int) (w : World) (hC : Cur B P a len cap zs w) :
    Calls Tryd.prog 18 #[.pointer (some ⟨P, 0, none⟩)] w (Drawn (-9223372036854775808) 9223372036854775807 B P a len cap zs w) := by
  go_enter Tryd.func18, Tryd.ntmps18
  go_wp2_with fail
  refine (l01Below 11 _ _ _ _ _ _ _ hC (by omega) (by omega)).mono ?_
  rintro e w1 ⟨k, hk0, hk1, rfl, hM⟩
  by_cases h4 : k < 4
  · go_wp2_with fail
    refine (l01Below 20 _ _ _ _ _ _ _ hM.1 (by omega) (by omega)).mono ?_
    rintro e w2 ⟨x, hx0, hx1, rfl, hM2⟩
    go_wp2
    go_ret
    exact ⟨_, by omega, by omega, rfl, hM.trans hM2⟩
  by_cases h44 : k = 4
  · go_wp2_with fail
    refine (l01Below 3 _ _ _ _ _ _ _ hM.1 (by omega) (by omega)).mono ?_
    rintro e w2 ⟨x, hx0, hx1, rfl, hM2⟩
    go_wp2
    go_ret
    exact ⟨_, by omega, by omega, rfl, hM.trans hM2⟩
  by_cases h5 : k = 5
  · go_wp2_with fail
    refine (l01Below 3 _ _ _ _ _ _ _ hM.1 (by omega) (by omega)).mono ?_
    rintro e w2 ⟨x, hx0, hx1, rfl, hM2⟩
    go_wp2
    go_ret
    exact ⟨_, by omega, by omega, rfl, hM.trans hM2⟩
  by_cases h6 : k = 6
  · go_wp2_with fail
    refine (l01Below 2 _ _ _ _ _ _ _ hM.1 (by omega) (by omega)).mono ?_
    rintro e w2 ⟨x, hx0, hx1, rfl, hM2⟩
    go_wp2
    go_ret
    exact ⟨_, by omega, by omega, rfl, hM.trans hM2⟩
  by_cases h7 : k = 7
  · go_wp2_with fail
    refine (l01Below 2 _ _ _ _ _ _ _ hM.1 (by omega) (by omega)).mono ?_
    rintro e w2 ⟨x, hx0, hx1, rfl, hM2⟩
    go_wp2
    go_ret
    exact ⟨_, by omega, by omega, rfl, hM.trans hM2⟩
  by_cases h8 : k = 8
  · go_wp2_with fail
    refine (l01Below 63 _ _ _ _ _ _ _ hM.1 (by omega) (by omega)).mono ?_
    rintro e w2 ⟨x, hx0, hx1, rfl, hM2⟩
    go_wp2
    go_ret
    exact ⟨_, (w64 _).1, (w64 _).2, rfl, hM.trans hM2⟩
  · go_wp2_with fail
    refine (l01Below 65536 _ _ _ _ _ _ _ hM.1 (by omega) (by omega)).mono ?_
    rintro e w2 ⟨x, hx0, hx1, rfl, hM2⟩
    go_wp2_with fail
    refine (l01Below 65536 _ _ _ _ _ _ _ hM2.1 (by omega) (by omega)).mono ?_
    rintro e w3 ⟨y, hy0, hy1, rfl, hM3⟩
    go_wp2_with fail
    refine (l01Below 1000 _ _ _ _ _ _ _ hM3.1 (by omega) (by omega)).mono ?_
    rintro e w4 ⟨z, hz0, hz1, rfl, hM4⟩
    go_wp2
    go_ret
    exact ⟨_, (w64 _).1, (w64 _).2, rfl, ((hM.trans hM2).trans hM3).trans hM4⟩

theorem cur_new (a : Option Addr) (len cap : Nat) (zs : List Int) (w : World) (x : Int) (T : TypeId) (hB : Bytes w.heap.size w a len cap zs) :
    Moved w.heap.size w.heap.size a len cap zs w (w.alloc (.cells #[.slice a len cap, .int .i64 0, .int .i64 x] T)) := by
  have hb := (Below.refl w.heap.size w).alloc (Nat.le_refl _) (.cells #[.slice a len cap, .int .i64 0, .int .i64 x] T)
  refine ⟨⟨Nat.le_refl _, by simp, hB.mono fun p hp => hb.cell hp, ?_, ⟨0, Nat.zero_le _, ?_⟩, ⟨x, ?_⟩, fun j => by simp⟩, Only.of_below hb⟩
  · simp
  · simp
  · simp
theorem l01New (a : Option Addr) (len cap : Nat) (zs : List Int) (w : World) (hB : Bytes w.heap.size w a len cap zs) :
    Calls Tryd.prog 17 #[.slice a len cap] w (fun e w' => ∃ P, e = .returned (.pointer (some ⟨P, 0, none⟩)) ∧ Moved w.heap.size P a len cap zs w w') := by
  have hlen := hB.len_le
  go_enter Tryd.func17, Tryd.ntmps17
  go_wp2
  go_loop [3, 4] (fun h i => ∃ k : Nat, ∃ x : Int, k ≤ len ∧ i = .int .i64 k ∧ h = .int .i64 x) (fun _ i => len - (intOf i).toNat)
  case atStart => exact ⟨0, _, by omega, rfl, rfl⟩
  case round =>
    obtain ⟨k, x, hk, rfl, rfl⟩ := hrel
    by_cases hl1 : k < len
    · by_cases hl2 : (k : Int) < 4000
      · rcases hB with ⟨h0, _⟩ | ⟨b, off, rfl, hbB, h3, h4, h5, h6, h7⟩
        · omega
        have hz := h6 k (by omega)
        clear h6 h7
        go_wp2
        go_round
        case rel => exact ⟨k + 1, _, by omega, by go_num, rfl⟩
        case measure => simp [intOf]; omega
      · go_wp2
        go_ret
        exact ⟨w.heap.size, rfl, cur_new _ _ _ _ _ _ _ hB⟩
    · go_wp2
      go_ret
      exact ⟨w.heap.size, rfl, cur_new _ _ _ _ _ _ _ hB⟩

def I64 (x : Int) : Prop := -9223372036854775808 ≤ x ∧ x ≤ 9223372036854775807
/-- A drawn number: some 64-bit integer; memory as it was. -/
def Draw1 (w : World) (e : Ending) (w' : World) : Prop := ∃ x : Int, I64 x ∧ e = .returned (.int .i64 x) ∧ Below w.heap.size w w'
def Draw2 (w : World) (e : Ending) (w' : World) : Prop := ∃ x y : Int, I64 x ∧ I64 y ∧ e = .returned (.tuple #[.int .i64 x, .int .i64 y]) ∧ Below w.heap.size w w'

theorem below_all {P : Nat} {a : Option Addr} {len cap : Nat} {zs : List Int} {w w' : World} (h : Moved w.heap.size P a len cap zs w w') : Below w.heap.size w w' :=
  h.2.below h.1.lt (Nat.le_refl _)
end Go.Proofs.YtbafkdkockaelaaDoor
