/- The law's look at what it marked, by program (tools/gendeep.py). -/
import Derived.Test.YtdhpmblhejcehaaMkData
import Derived.Test.YtdhpmblhejcehaaRows
import Derived.Deep.RegionHeld3
import Derived.WalkKit
import Derived.WalkSmall
import Derived.ProofKit
import Derived.OpenShut
import Derived.Lib.Hide
import Derived.Lib.SmallJoins
import Derived.StillTailTactics
import Derived.Deep.QuietTactic
import Derived.BigQuiet
import Derived.Outline
namespace Go.Proofs.Ytdhpmblhejcehaa
set_option linter.unusedVariables false
set_option maxRecDepth 100000
open Go.ChangeShapes Go.WideShapes Go.ChangeAt Go.RowKit
theorem heldIntS (l : List Int) (v : Value) (a : Int) (k M : Nat) (w : World) (ha : a = k) (h0 : 0 < k) (hM : M = k + cntL cInt l) (h1 : M ≤ 1000000000000) (hR : RowRd 1 IntEl w v (mkL mkInt cInt l k)) :
    Calls Try.prog 25 #[v, .int .i64 a] w fun e w' => e = .returned (.int .i64 (M : Int)) ∧ Below w.heap.size w w' := by
  subst ha
  obtain ⟨a, cap, rfl, hm, hR⟩ := hR.form
  rw [mkL_len] at *
  have HM := Lib.hid hM
  unfold maxLen at hm
  clear hM
  go_enter Try.func25, Try.ntmps25
  go_wp2
  go_loopw [1, 5] (fun m i wr => ∃ j q : Nat, i = .int .i64 j ∧ m = .int .i64 (q : Int) ∧ q = k + cntL cInt (l.take j) ∧ j ≤ l.length ∧ Below w.heap.size w wr) (fun _ i _ => l.length - (intOf i).toNat)
  case atStart => exact ⟨0, k, rfl, rfl, by simp [cntL], Nat.zero_le _, Below.refl _ _⟩
  case round =>
    obtain ⟨j, m, rfl, rfl, hq, hj, hbel⟩ := hrel
    by_cases hlt : j < l.length
    · have hcnt := cntL_take cInt l j hlt
      have hcle := cntL_le cInt l (j + 1)
      obtain ⟨b, o, rfl, hbw, hc⟩ := hR (by first | omega | (rw [mkL_len]; omega))
      have ex := IntEl.st w wr b _ _ (Kept.of_below hbel) hbw (hc j (by rw [mkL_len]; omega))
      rw [mkL_get mkInt cInt l k j hlt, ← hq] at ex
      have HC := Lib.hid (show k + cntL cInt (l.take (j + 1)) = m + cInt l[j] by omega)
      have HQ := HM.out
      have hb : m + cInt l[j] ≤ 1000000000000 := by omega
      have hm0 : 0 < m := by omega
      clear hcnt hcle hq HQ hc hR
      have hg0 : b < wr.heap.size := Nat.lt_of_lt_of_le hbw hbel.size
      generalize l[j] = x at *
      simp only [mkInt, cInt] at ex hb
      obtain ⟨e0_0, i0⟩ := ex
      rw [Nat.mul_one] at e0_0
      replace e0_0 := e0_0.trans (congrArg some (congrArg (Value.int .i64) (show ((m : Nat) : Int) = (m : Int) from by first | omega | (simp only [cVl]; omega))))
      go_wp2
      go_roundw
      case rel => exact ⟨j + 1, m + cInt x, by go_num, by simp only [cInt]; go_num, HC.out.symm, by omega, hbel⟩
      case measure => simp [intOf]; omega
    · obtain rfl : j = l.length := by omega
      rw [List.take_length] at hq
      obtain rfl : m = M := hq.trans HM.out.symm
      go_wp2
      go_ret
      exact ⟨rfl, hbel⟩
theorem heldValS (l : List Vl) (v : Value) (a : Int) (k M : Nat) (w : World) (ha : a = k) (h0 : 0 < k) (hM : M = k + cntL cVl l) (h1 : M ≤ 1000000000000) (hR : RowRd 3 VlEl w v (mkL mkVl cVl l k)) :
    Calls Try.prog 29 #[v, .int .i64 a] w fun e w' => e = .returned (.int .i64 (M : Int)) ∧ Below w.heap.size w w' := by
  subst ha
  obtain ⟨a, cap, rfl, hm, hR⟩ := hR.form
  rw [mkL_len] at *
  have HM := Lib.hid hM
  unfold maxLen at hm
  clear hM
  go_enter Try.func29, Try.ntmps29
  go_wp2
  go_loopw [1, 5] (fun m i wr => ∃ j q : Nat, i = .int .i64 j ∧ m = .int .i64 (q : Int) ∧ q = k + cntL cVl (l.take j) ∧ j ≤ l.length ∧ Below w.heap.size w wr) (fun _ i _ => l.length - (intOf i).toNat)
  case atStart => exact ⟨0, k, rfl, rfl, by simp [cntL], Nat.zero_le _, Below.refl _ _⟩
  case round =>
    obtain ⟨j, m, rfl, rfl, hq, hj, hbel⟩ := hrel
    by_cases hlt : j < l.length
    · have hcnt := cntL_take cVl l j hlt
      have hcle := cntL_le cVl l (j + 1)
      obtain ⟨b, o, rfl, hbw, hc⟩ := hR (by first | omega | (rw [mkL_len]; omega))
      have ex := VlEl.st w wr b _ _ (Kept.of_below hbel) hbw (hc j (by rw [mkL_len]; omega))
      rw [mkL_get mkVl cVl l k j hlt, ← hq] at ex
      have HC := Lib.hid (show k + cntL cVl (l.take (j + 1)) = m + cVl l[j] by omega)
      have HQ := HM.out
      have hb : m + cVl l[j] ≤ 1000000000000 := by omega
      have hm0 : 0 < m := by omega
      clear hcnt hcle hq HQ hc hR
      have hg0 : b < wr.heap.size := Nat.lt_of_lt_of_le hbw hbel.size
      generalize l[j] = x at *
      simp only [mkVl, cVl] at ex hb
      obtain ⟨⟨e0_0, i0⟩, ⟨e0_1, i1⟩, ⟨e0_2, i2⟩⟩ := ex
      replace e0_0 := e0_0.trans (congrArg some (congrArg (Value.int .i64) (show ((m : Nat) : Int) = (m : Int) from by first | omega | (simp only [cVl]; omega))))
      replace e0_1 := e0_1.trans (congrArg some (congrArg (Value.int .i64) (show ((m + 1 : Nat) : Int) = (m : Int) + 1 from by first | omega | (simp only [cVl]; omega))))
      replace e0_2 := e0_2.trans (congrArg some (congrArg Value.string (show markS (m + 2) = markS (m + 1 + 1) from by first | rfl | (congr 1; omega))))
      have HT2 := fun W => Lib.hid (markTextI ((m : Int) + 1 + 1) (m + 1 + 1) W (by omega) (by omega) (by omega))
      go_wp2_with fail
      go_region_held3 (fun w' => w'.cell? ⟨b, o + j * 3 + 2, none⟩ = some (.string (markS (m + 1 + 1)))) (first | go_keep | (rw [hb3.cell hg0]; assumption)) ((go_at_call 50; refine (HT2 _).out.mono ?_; rintro e w' ⟨rfl, hb3⟩))
      have B3 := (hbel).drew.trans (hb3.mono (hbel).size)
      have hg3 := Nat.lt_of_lt_of_le hg0 hb3.size
      clear e0_0 e0_1 e0_2 hb3
      go_wp2
      go_roundw
      case rel => exact ⟨j + 1, m + cVl x, by go_num, by simp only [cVl]; go_num, HC.out.symm, by omega, B3⟩
      case measure => simp [intOf]; omega
    · obtain rfl : j = l.length := by omega
      rw [List.take_length] at hq
      obtain rfl : m = M := hq.trans HM.out.symm
      go_wp2
      go_ret
      exact ⟨rfl, hbel⟩
theorem heldCellS (l : List Ce) (v : Value) (a : Int) (k M : Nat) (w : World) (ha : a = k) (h0 : 0 < k) (hM : M = k + cntL cCe l) (h1 : M ≤ 1000000000000) (hR : RowRd 9 CeEl w v (mkL mkCe cCe l k)) :
    Calls Try.prog 28 #[v, .int .i64 a] w fun e w' => e = .returned (.int .i64 (M : Int)) ∧ Below w.heap.size w w' := by
  subst ha
  obtain ⟨a, cap, rfl, hm, hR⟩ := hR.form
  rw [mkL_len] at *
  have HM := Lib.hid hM
  unfold maxLen at hm
  clear hM
  go_enter Try.func28, Try.ntmps28
  go_wp2
  go_loopw [1, 5] (fun m i wr => ∃ j q : Nat, i = .int .i64 j ∧ m = .int .i64 (q : Int) ∧ q = k + cntL cCe (l.take j) ∧ j ≤ l.length ∧ Below w.heap.size w wr) (fun _ i _ => l.length - (intOf i).toNat)
  case atStart => exact ⟨0, k, rfl, rfl, by simp [cntL], Nat.zero_le _, Below.refl _ _⟩
  case round =>
    obtain ⟨j, m, rfl, rfl, hq, hj, hbel⟩ := hrel
    by_cases hlt : j < l.length
    · have hcnt := cntL_take cCe l j hlt
      have hcle := cntL_le cCe l (j + 1)
      obtain ⟨b, o, rfl, hbw, hc⟩ := hR (by first | omega | (rw [mkL_len]; omega))
      have ex := CeEl.st w wr b _ _ (Kept.of_below hbel) hbw (hc j (by rw [mkL_len]; omega))
      rw [mkL_get mkCe cCe l k j hlt, ← hq] at ex
      have HC := Lib.hid (show k + cntL cCe (l.take (j + 1)) = m + cCe l[j] by omega)
      have HQ := HM.out
      have hb : m + cCe l[j] ≤ 1000000000000 := by omega
      have hm0 : 0 < m := by omega
      clear hcnt hcle hq HQ hc hR
      have hg0 : b < wr.heap.size := Nat.lt_of_lt_of_le hbw hbel.size
      generalize l[j] = x at *
      simp only [mkCe, mkVl, mkVl, cCe, cVl, cVl] at ex hb
      obtain ⟨⟨e0_0, i0⟩, ⟨e0_1, i1⟩, ⟨e0_2, i2⟩, ⟨⟨e0_3, i3⟩, ⟨e0_4, i4⟩, ⟨e0_5, i5⟩⟩, ⟨⟨e0_6, i6⟩, ⟨e0_7, i7⟩, ⟨e0_8, i8⟩⟩⟩ := ex
      replace e0_0 := e0_0.trans (congrArg some (congrArg (Value.int .i64) (show ((m : Nat) : Int) = (m : Int) from by first | omega | (simp only [cVl]; omega))))
      replace e0_1 := e0_1.trans (congrArg some (congrArg (Value.int .i64) (show ((m + 1 : Nat) : Int) = (m : Int) + 1 from by first | omega | (simp only [cVl]; omega))))
      replace e0_2 := e0_2.trans (congrArg some (congrArg Value.string (show markS (m + 2) = markS (m + 1 + 1) from by first | rfl | (congr 1; omega))))
      replace e0_3 := e0_3.trans (congrArg some (congrArg (Value.int .i64) (show ((m + 3 : Nat) : Int) = (m : Int) + 1 + 1 + 1 from by first | omega | (simp only [cVl]; omega))))
      replace e0_4 := e0_4.trans (congrArg some (congrArg (Value.int .i64) (show ((m + 3 + 1 : Nat) : Int) = (m : Int) + 1 + 1 + 1 + 1 from by first | omega | (simp only [cVl]; omega))))
      replace e0_5 := e0_5.trans (congrArg some (congrArg Value.string (show markS (m + 3 + 2) = markS (m + 1 + 1 + 1 + 1 + 1) from by first | rfl | (congr 1; omega))))
      replace e0_6 := e0_6.trans (congrArg some (congrArg (Value.int .i64) (show ((m + 3 + cVl x.a : Nat) : Int) = (m : Int) + 1 + 1 + 1 + 1 + 1 + 1 from by first | omega | (simp only [cVl]; omega))))
      replace e0_7 := e0_7.trans (congrArg some (congrArg (Value.int .i64) (show ((m + 3 + cVl x.a + 1 : Nat) : Int) = (m : Int) + 1 + 1 + 1 + 1 + 1 + 1 + 1 from by first | omega | (simp only [cVl]; omega))))
      replace e0_8 := e0_8.trans (congrArg some (congrArg Value.string (show markS (m + 3 + cVl x.a + 2) = markS (m + 1 + 1 + 1 + 1 + 1 + 1 + 1 + 1) from by first | rfl | (congr 1; omega))))
      have HT2 := fun W => Lib.hid (markTextI ((m : Int) + 1 + 1) (m + 1 + 1) W (by omega) (by omega) (by omega))
      have HT5 := fun W => Lib.hid (markTextI ((m : Int) + 1 + 1 + 1 + 1 + 1) (m + 1 + 1 + 1 + 1 + 1) W (by omega) (by omega) (by omega))
      have HT8 := fun W => Lib.hid (markTextI ((m : Int) + 1 + 1 + 1 + 1 + 1 + 1 + 1 + 1) (m + 1 + 1 + 1 + 1 + 1 + 1 + 1 + 1) W (by omega) (by omega) (by omega))
      go_wp2_with fail
      go_region_held3 (fun w' => w'.cell? ⟨b, o + j * 9 + 2, none⟩ = some (.string (markS (m + 1 + 1)))) (first | go_keep | (rw [hb3.cell hg0]; assumption)) ((go_at_call 50; refine (HT2 _).out.mono ?_; rintro e w' ⟨rfl, hb3⟩))
      have B3 := (hbel).drew.trans (hb3.mono (hbel).size)
      have hg3 := Nat.lt_of_lt_of_le hg0 hb3.size
      have e3_3 := (hb3.cell (p := ⟨b, o + j * 9 + 3, none⟩) hg0).trans e0_3
      have e3_4 := (hb3.cell (p := ⟨b, o + j * 9 + 4, none⟩) hg0).trans e0_4
      have e3_5 := (hb3.cell (p := ⟨b, o + j * 9 + 5, none⟩) hg0).trans e0_5
      have e3_6 := (hb3.cell (p := ⟨b, o + j * 9 + 6, none⟩) hg0).trans e0_6
      have e3_7 := (hb3.cell (p := ⟨b, o + j * 9 + 7, none⟩) hg0).trans e0_7
      have e3_8 := (hb3.cell (p := ⟨b, o + j * 9 + 8, none⟩) hg0).trans e0_8
      clear e0_0 e0_1 e0_2 e0_3 e0_4 e0_5 e0_6 e0_7 e0_8 hb3
      go_wp2_with fail
      go_region_held3 (fun w' => w'.cell? ⟨b, o + j * 9 + 5, none⟩ = some (.string (markS (m + 1 + 1 + 1 + 1 + 1)))) (first | go_keep | (rw [hb6.cell hg3]; assumption)) ((go_at_call 50; refine (HT5 _).out.mono ?_; rintro e w' ⟨rfl, hb6⟩))
      have B6 := (B3).drew.trans (hb6.mono (B3).size)
      have hg6 := Nat.lt_of_lt_of_le hg3 hb6.size
      have e6_6 := (hb6.cell (p := ⟨b, o + j * 9 + 6, none⟩) hg3).trans e3_6
      have e6_7 := (hb6.cell (p := ⟨b, o + j * 9 + 7, none⟩) hg3).trans e3_7
      have e6_8 := (hb6.cell (p := ⟨b, o + j * 9 + 8, none⟩) hg3).trans e3_8
      clear e3_5 e3_6 e3_7 e3_8 hb6
      go_wp2_with fail
      go_region_held3 (fun w' => w'.cell? ⟨b, o + j * 9 + 8, none⟩ = some (.string (markS (m + 1 + 1 + 1 + 1 + 1 + 1 + 1 + 1)))) (first | go_keep | (rw [hb9.cell hg6]; assumption)) ((go_at_call 50; refine (HT8 _).out.mono ?_; rintro e w' ⟨rfl, hb9⟩))
      have B9 := (B6).drew.trans (hb9.mono (B6).size)
      have hg9 := Nat.lt_of_lt_of_le hg6 hb9.size
      clear e6_8 hb9
      go_wp2
      go_roundw
      case rel => exact ⟨j + 1, m + cCe x, by go_num, by simp only [cCe, cVl, cVl]; go_num, HC.out.symm, by omega, B9⟩
      case measure => simp [intOf]; omega
    · obtain rfl : j = l.length := by omega
      rw [List.take_length] at hq
      obtain rfl : m = M := hq.trans HM.out.symm
      go_wp2
      go_ret
      exact ⟨rfl, hbel⟩
end Go.Proofs.Ytdhpmblhejcehaa
