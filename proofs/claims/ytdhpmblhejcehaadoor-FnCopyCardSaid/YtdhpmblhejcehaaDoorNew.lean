/- The model's cursor, made new over the bytes that came in. -/
import Derived.Test.YtdhpmblhejcehaaDoorCur
namespace Go.Proofs.YtdhpmblhejcehaaDoor
set_option linter.unusedVariables false
open Go.ChangeShapes Go.WideShapes Go.ChangeAt Go.RowKit

theorem cur_new (a : Option Addr) (len cap : Nat) (zs : List Int) (w : World) (x : Int) (T : TypeId) (hB : Bytes w.heap.size w a len cap zs) :
    Moved w.heap.size w.heap.size a len cap zs w (w.alloc (.cells #[.slice a len cap, .int .i64 0, .int .i64 x] T)) := by
  have hb := (Below.refl w.heap.size w).alloc (Nat.le_refl _) (.cells #[.slice a len cap, .int .i64 0, .int .i64 x] T)
  refine ⟨⟨Nat.le_refl _, by simp, hB.mono fun p hp => hb.cell hp, ?_, ⟨0, Nat.zero_le _, ?_⟩, ⟨x, ?_⟩, fun j => by simp⟩, Only.of_below hb⟩
  · simp
  · simp
  · simp
theorem l01New (a : Option Addr) (len cap : Nat) (zs : List Int) (w : World) (hB : Bytes w.heap.size w a len cap zs) :
    Calls Tryd.prog 18 #[.slice a len cap] w (fun e w' => ∃ P, e = .returned (.pointer (some ⟨P, 0, none⟩)) ∧ Moved w.heap.size P a len cap zs w w') := by
  have hlen := hB.len_le
  go_enter Tryd.func18, Tryd.ntmps18
  go_wp2
  go_loop [3, 4] (fun h i => ∃ k : Nat, ∃ x : Int, k ≤ len ∧ i = .int .i64 k ∧ h = .int .i64 x) (fun _ i => len - (intOf i).toNat)
  case atStart => exact ⟨0, _, by omega, rfl, rfl⟩
  case round =>
    obtain ⟨k, x, hk, rfl, rfl⟩ := hrel
    by_cases hl1 : k < len
    · by_cases hl2 : (k : Int) < 4000
      · rcases hB with ⟨h0, _⟩ | ⟨b, off, rfl, hbB, h3, h4, h5, h6, h7⟩
        · omega
        have hz := h6 k (by omega)
        clear h6 h7
        go_wp2
        go_round
        case rel => exact ⟨k + 1, _, by omega, by go_num, rfl⟩
        case measure => simp [intOf]; omega
      · go_wp2
        go_ret
        exact ⟨w.heap.size, rfl, cur_new _ _ _ _ _ _ _ hB⟩
    · go_wp2
      go_ret
      exact ⟨w.heap.size, rfl, cur_new _ _ _ _ _ _ _ hB⟩

theorem below_all {P : Nat} {a : Option Addr} {len cap : Nat} {zs : List Int} {w w' : World} (h : Moved w.heap.size P a len cap zs w w') : Below w.heap.size w w' :=
  h.2.below h.1.lt (Nat.le_refl _)
end Go.Proofs.YtdhpmblhejcehaaDoor
