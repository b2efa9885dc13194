/- Contracts of the quoting functions of the program and of its model. -/
import Derived.Test.YtdhpmblhejcehaaDoorRows
import Derived.Test.YtdhpmblhejcehaaDoorQuoteMath
import Derived.WalkKit
import Derived.ProofKit
import Derived.OpenShut
namespace Go.Proofs.YtdhpmblhejcehaaDoor
set_option linter.unusedVariables false
open Go.ChangeShapes Go.WideShapes Go.ChangeAt Go.RowKit

theorem info_u8 : (Tryd.prog.info? 5).map (fun i => (i.zero, i.size, i.bytes)) = some (some (.int .u8 0), 1, 1) := by kernel_rfl

theorem l01Hex (d : Int) (w : World) (h : 0 ≤ d ∧ d < 16) :
    Calls Tryd.prog 66 #[.int .i64 d] w fun e w' => e = .returned (.int .u8 (hexI d)) ∧ w = w' := by
  have hc : d = 0 ∨ d = 1 ∨ d = 2 ∨ d = 3 ∨ d = 4 ∨ d = 5 ∨ d = 6 ∨ d = 7 ∨ d = 8 ∨ d = 9 ∨ d = 10 ∨ d = 11 ∨ d = 12 ∨ d = 13 ∨ d = 14 ∨ d = 15 := by omega
  rcases hc with rfl | rfl | rfl | rfl | rfl | rfl | rfl | rfl | rfl | rfl | rfl | rfl | rfl | rfl | rfl | rfl
  all_goals
    go_enter Tryd.func66, Tryd.ntmps66
    go_wp2
    go_ret
    exact ⟨rfl, rfl⟩

theorem byte_bd' (c : UInt8) : 0 ≤ (c.toNat : Int) ∧ (c.toNat : Int) ≤ 255 := by have := c.toNat_lt; omega
theorem own_string {B n : Nat} {w : World} {v : Value} {xs : List Value} {l : List UInt8} (h : w.ownsRow B 5 1 v n xs) (hn : n = l.length) (h0 : 0 < n) (hx : xs = bc l) :
    ∃ g cap, v = .slice (some ⟨g, 0, none⟩) n cap ∧ (convert 22 9 (.slice (some ⟨g, 0, none⟩) n cap)).run Tryd.prog w = .ok (.string ⟨l.toArray⟩) w := by
  obtain ⟨g, cap, rfl, _, _, _, hc, _⟩ := own_shape h h0
  subst hn hx
  refine ⟨g, cap, rfl, run_convert_bytes_back w 22 9 5 ⟨g, 0, none⟩ cap l Tryd.underlying22 Tryd.underlying5 Tryd.underlying9 fun j hj => ?_⟩
  rw [add_zero_off, hc j hj, bc_get l j hj]
set_option maxRecDepth 100000 in
set_option maxHeartbeats 2000000 in
theorem sQuote (s : ByteArray) (w : World) (hs : s.size ≤ 1048576) :
    Calls Tryd.prog 55 #[.string s] w fun e w' => e = .returned (.string ⟨(quoteL s.data.toList).toArray⟩) ∧ Below w.heap.size w w' := by
  obtain ⟨i0, hi, hz0, hz1, hz2⟩ := info_parts info_u8
  go_enter Tryd.func55, Tryd.ntmps55
  go_wp2
  go_loopw [3, 4] (fun v i wr => ∃ k : Nat, k ≤ s.size ∧ i = .int .i64 k ∧ wr.ownsRow w.heap.size 5 1 v (qpre s k).length (bc (qpre s k)) ∧ Below w.heap.size w wr ∧ w.heap.size ≤ wr.heap.size)
    (fun _ i _ => s.size - (intOf i).toNat)
  case atStart => 
    refine ⟨0, Nat.zero_le _, rfl, ?_, (Below.refl _ _).alloc (Nat.le_refl _) _, by simp⟩
    exact World.ownsRow_lit w #[.int .u8 34] 1 (Nat.le_refl _) (by decide) rfl
  case round =>
    obtain ⟨k, hk, rfl, hown, hbel, hBs⟩ := hrel
    have hql := qpre_length s k hk
    by_cases hlt : k < s.size
    · have hq := Lib.hid (qpre_succ s k hlt)
      have hc := byte_bd' s[k]
      by_cases h10 : (s[k].toNat : Int) = 10
      · go_wp2_with (first
          | (at_builtin; refine wpList_append_own _ rfl (.tmp 18) (.tmp 19) 22 rfl w.heap.size 5 i0 (.int .u8 0) 1 1 Tryd.underlying22 hi hz0 hz1 hz2 rfl (by decide) _ (qpre s k).length (bc (qpre s k)) rfl (hown.alloc _) ⟨wr.heap.size, 0, none⟩ 2 2 [.int .u8 92, .int .u8 110] rfl rfl (new_cells _ _ _ _ rfl) (bc_one [92, 110]) (by unfold maxLen; omega) (by omega) (by simp; omega) ?_; intro v' w1 hown' hgrow _))
        have R := own_app hown hbel (Nat.le_refl _) hBs hgrow
        have O := own_bytes rfl rfl (l' := [92, 110]) rfl rfl hown'
        clear hown hown' hgrow hbel
        go_roundw
        case rel => exact ⟨k + 1, by omega, by go_num, by rw [hq.out, qb_ten _ h10]; exact O, R.1, R.2⟩
        case measure => simp [intOf]; omega
      by_cases h34 : (s[k].toNat : Int) = 34 ∨ (s[k].toNat : Int) = 92
      · have H34 := Lib.hid h34
        by_cases h34a : (s[k].toNat : Int) = 34
        all_goals
          first
          | (have t1 : ((s[k].toNat : Int) == 34) = true := by simpa using h34a
             have t1' := Lib.hid h34a
             clear h34a h34)
          | (have t1 : ((s[k].toNat : Int) == 92) = true := by simpa [h34a] using h34
             have t2 : ((s[k].toNat : Int) == 34) = false := by simpa using h34a
             clear h34a h34)
          go_wp2_with (first
            | (at_builtin; refine wpList_append_own _ rfl (.tmp 27) (.tmp 29) 22 rfl w.heap.size 5 i0 (.int .u8 0) 1 1 Tryd.underlying22 hi hz0 hz1 hz2 rfl (by decide) _ (qpre s k).length (bc (qpre s k)) rfl (hown.alloc _) ⟨wr.heap.size, 0, none⟩ 2 2 [.int .u8 92, .int .u8 (s[k].toNat : Int)] rfl rfl (new_cells _ _ _ _ rfl) (bc_one [92, s[k]]) (by unfold maxLen; omega) (by omega) (by simp; omega) ?_; intro v' w1 hown' hgrow _))
          have R := own_app hown hbel (Nat.le_refl _) hBs hgrow
          have O := own_bytes rfl rfl (l' := [92, s[k]]) rfl rfl hown'
          clear hown hown' hgrow hbel
          go_roundw
          case rel => exact ⟨k + 1, by omega, by go_num, by rw [hq.out, qb_esc _ h10 H34.out]; exact O, R.1, R.2⟩
          case measure => simp [intOf]; omega
      have n34 : ((s[k].toNat : Int) == 34) = false := by simpa using fun h => h34 (.inl h)
      have n92 : ((s[k].toNat : Int) == 92) = false := by simpa using fun h => h34 (.inr h)
      have H34 := Lib.hid h34
      clear h34
      by_cases h32 : 32 ≤ (s[k].toNat : Int) ∧ (s[k].toNat : Int) ≤ 126
      · have H32 := Lib.hid h32
        obtain ⟨h32a, h32b⟩ := h32
        go_wp2_with (first
          | (at_builtin; go_loud (refine wpList_append_own _ rfl (.tmp 37) (.tmp 39) 22 rfl w.heap.size 5 i0 (.int .u8 0) 1 1 Tryd.underlying22 hi hz0 hz1 hz2 rfl (by decide) _ (qpre s k).length (bc (qpre s k)) rfl (hown.alloc _) ⟨wr.heap.size, 0, none⟩ 1 1 [.int .u8 (s[k].toNat : Int)] rfl rfl (new_cells _ _ _ _ rfl) (bc_one [s[k]]) (by unfold maxLen; omega) (by omega) (by simp; omega) ?_); intro v' w1 hown' hgrow _))
        have R := own_app hown hbel (Nat.le_refl _) hBs hgrow
        have O := own_bytes rfl rfl (l' := [s[k]]) rfl rfl hown'
        clear hown hown' hgrow hbel
        go_roundw
        case rel => exact ⟨k + 1, by omega, by go_num, by rw [hq.out, qb_self _ h10 H34.out H32.out]; exact O, R.1, R.2⟩
        case measure => simp [intOf]; omega
      have H32 := Lib.hid h32
      by_cases h33 : 32 ≤ (s[k].toNat : Int)
      all_goals
        first | (have n126 : 126 < (s[k].toNat : Int) := by omega
                 clear h32) | clear h32
        go_wp2_with (first
          | (at_builtin; refine wpList_append_own _ rfl (.tmp 41) (.tmp 50) 22 rfl w.heap.size 5 i0 (.int .u8 0) 1 1 Tryd.underlying22 hi hz0 hz1 hz2 rfl (by decide) _ (qpre s k).length (bc (qpre s k)) rfl (hown.alloc _) ⟨wr.heap.size, 0, none⟩ 4 4 [Value.int .u8 92, .int .u8 120, .int .u8 (hexI ((s[k].toNat : Int) / 16)), .int .u8 (hexI ((s[k].toNat : Int) % 16))] rfl rfl (new_cells _ _ _ _ rfl) (by rw [bc_hex]; exact bc_one _) (by unfold maxLen; omega) (by omega) (by simp; omega) ?_; intro v' w1 hown' hgrow _)
          | (go_at_call 66; refine (l01Hex _ _ (by omega)).mono ?_; rintro e w' ⟨rfl, rfl⟩))
        have R := own_app hown hbel (Nat.le_refl _) hBs hgrow
        have O := own_bytes rfl rfl (l' := [92, 120, hexB (s[k].toNat / 16), hexB (s[k].toNat % 16)]) (bc_hex _) rfl hown'
        clear hown hown' hgrow hbel
        go_roundw
        case rel => exact ⟨k + 1, by omega, by go_num, by rw [hq.out, qb_hex _ h10 H34.out H32.out]; exact O, R.1, R.2⟩
        case measure => simp [intOf]; omega
    · obtain rfl : k = s.size := by omega
      have hq := Lib.hid (qpre_end s)
      go_wp2_with (first
        | (at_builtin; refine wpList_append_own _ rfl (.tmp 52) (.tmp 53) 22 rfl w.heap.size 5 i0 (.int .u8 0) 1 1 Tryd.underlying22 hi hz0 hz1 hz2 rfl (by decide) _ (qpre s s.size).length (bc (qpre s s.size)) rfl (hown.alloc _) ⟨wr.heap.size, 0, none⟩ 1 1 [.int .u8 34] rfl rfl (new_cells _ _ _ _ rfl) (bc_one [34]) (by unfold maxLen; omega) (by omega) (by simp; omega) ?_; intro v' w1 hown' hgrow _; obtain ⟨g, cap, rfl, hconv⟩ := own_string (l := qpre s s.size ++ [34]) hown' (by simp) (by simp) (by simp [bc])))
      have R := own_app hown hbel (Nat.le_refl _) hBs hgrow
      go_ret
      exact ⟨by rw [← hq.out]; rfl, R.1⟩
end Go.Proofs.YtdhpmblhejcehaaDoor
