/- The law's look at what it marked, by program (tools/gendeep.py). -/
import Derived.Test.YtkalkmgnjlohnaaMkData
import Derived.Test.YtkalkmgnjlohnaaRows
import Derived.Deep.RegionHeld3
import Derived.WalkKit
import Derived.WalkSmall
import Derived.ProofKit
import Derived.OpenShut
import Derived.Lib.Hide
import Derived.Lib.SmallJoins
import Derived.StillTailTactics
import Derived.Deep.QuietTactic
import Derived.BigQuiet
import Derived.Outline
namespace Go.Proofs.Ytkalkmgnjlohnaa
set_option linter.unusedVariables false
set_option maxRecDepth 100000
open Go.ChangeShapes Go.WideShapes Go.ChangeAt Go.RowKit
theorem heldIntS (l : List Int) (v : Value) (a : Int) (k M : Nat) (w : World) (ha : a = k) (h0 : 0 < k) (hM : M = k + cntL cInt l) (h1 : M ≤ 1000000000000) (hR : RowRd 1 IntEl w v (mkL mkInt cInt l k)) :
    Calls Try.prog 70 #[v, .int .i64 a] w fun e w' => e = .returned (.int .i64 (M : Int)) ∧ Below w.heap.size w w' := by
  subst ha
  obtain ⟨a, cap, rfl, hm, hR⟩ := hR.form
  rw [mkL_len] at *
  have HM := Lib.hid hM
  unfold maxLen at hm
  clear hM
  go_enter Try.func70, Try.ntmps70
  go_wp2
  go_loopw [1, 5] (fun m i wr => ∃ j q : Nat, i = .int .i64 j ∧ m = .int .i64 (q : Int) ∧ q = k + cntL cInt (l.take j) ∧ j ≤ l.length ∧ Below w.heap.size w wr) (fun _ i _ => l.length - (intOf i).toNat)
  case atStart => exact ⟨0, k, rfl, rfl, by simp [cntL], Nat.zero_le _, Below.refl _ _⟩
  case round =>
    obtain ⟨j, m, rfl, rfl, hq, hj, hbel⟩ := hrel
    by_cases hlt : j < l.length
    · have hcnt := cntL_take cInt l j hlt
      have hcle := cntL_le cInt l (j + 1)
      obtain ⟨b, o, rfl, hbw, hc⟩ := hR (by first | omega | (rw [mkL_len]; omega))
      have ex := IntEl.st w wr b _ _ (Kept.of_below hbel) hbw (hc j (by rw [mkL_len]; omega))
      rw [mkL_get mkInt cInt l k j hlt, ← hq] at ex
      have HC := Lib.hid (show k + cntL cInt (l.take (j + 1)) = m + cInt l[j] by omega)
      have HQ := HM.out
      have hb : m + cInt l[j] ≤ 1000000000000 := by omega
      have hm0 : 0 < m := by omega
      clear hcnt hcle hq HQ hc hR
      have hg0 : b < wr.heap.size := Nat.lt_of_lt_of_le hbw hbel.size
      generalize l[j] = x at *
      simp only [mkInt, cInt] at ex hb
      obtain ⟨e0_0, i0⟩ := ex
      rw [Nat.mul_one] at e0_0
      replace e0_0 := e0_0.trans (congrArg some (congrArg (Value.int .i64) (show ((m : Nat) : Int) = (m : Int) from by omega)))
      go_wp2
      go_roundw
      case rel => exact ⟨j + 1, m + cInt x, by go_num, by simp only [cInt]; go_num, HC.out.symm, by omega, hbel⟩
      case measure => simp [intOf]; omega
    · obtain rfl : j = l.length := by omega
      rw [List.take_length] at hq
      obtain rfl : m = M := hq.trans HM.out.symm
      go_wp2
      go_ret
      exact ⟨rfl, hbel⟩
theorem heldDNodeS (l : List DN) (v : Value) (a : Int) (k M : Nat) (w : World) (ha : a = k) (h0 : 0 < k) (hM : M = k + cntL cDN l) (h1 : M ≤ 1000000000000) (hR : RowRd 4 DNEl w v (mkL mkDN cDN l k)) :
    Calls Try.prog 44 #[v, .int .i64 a] w fun e w' => e = .returned (.int .i64 (M : Int)) ∧ Below w.heap.size w w' := by
  subst ha
  obtain ⟨a, cap, rfl, hm, hR⟩ := hR.form
  rw [mkL_len] at *
  have HM := Lib.hid hM
  unfold maxLen at hm
  clear hM
  go_enter Try.func44, Try.ntmps44
  go_wp2
  go_loopw [1, 5] (fun m i wr => ∃ j q : Nat, i = .int .i64 j ∧ m = .int .i64 (q : Int) ∧ q = k + cntL cDN (l.take j) ∧ j ≤ l.length ∧ Below w.heap.size w wr) (fun _ i _ => l.length - (intOf i).toNat)
  case atStart => exact ⟨0, k, rfl, rfl, by simp [cntL], Nat.zero_le _, Below.refl _ _⟩
  case round =>
    obtain ⟨j, m, rfl, rfl, hq, hj, hbel⟩ := hrel
    by_cases hlt : j < l.length
    · have hcnt := cntL_take cDN l j hlt
      have hcle := cntL_le cDN l (j + 1)
      obtain ⟨b, o, rfl, hbw, hc⟩ := hR (by first | omega | (rw [mkL_len]; omega))
      have ex := DNEl.st w wr b _ _ (Kept.of_below hbel) hbw (hc j (by rw [mkL_len]; omega))
      rw [mkL_get mkDN cDN l k j hlt, ← hq] at ex
      have HC := Lib.hid (show k + cntL cDN (l.take (j + 1)) = m + cDN l[j] by omega)
      have HQ := HM.out
      have hb : m + cDN l[j] ≤ 1000000000000 := by omega
      have hm0 : 0 < m := by omega
      clear hcnt hcle hq HQ hc hR
      have hg0 : b < wr.heap.size := Nat.lt_of_lt_of_le hbw hbel.size
      generalize l[j] = x at *
      simp only [mkDN, cDN] at ex hb
      obtain ⟨⟨e0_0, i0⟩, ⟨e0_1, i1⟩, ⟨e0_2, i2⟩, ⟨v3, e0_3, r3⟩⟩ := ex
      obtain ⟨a3, ca3, rfl, -, -⟩ := r3.form
      rw [mkL_len] at r3 e0_3
      obtain ⟨M3, hM3⟩ : ∃ M, M = m + 1 + 1 + 1 + cntL cInt x.kids := ⟨_, rfl⟩
      have HM3 := Lib.hid hM3
      replace e0_0 := e0_0.trans (congrArg some (congrArg (Value.int .i64) (show ((m : Nat) : Int) = (m : Int) from by have z3 := HM3.out; omega)))
      replace e0_1 := e0_1.trans (congrArg some (congrArg (Value.int .i64) (show ((m + 1 : Nat) : Int) = (m : Int) + 1 from by have z3 := HM3.out; omega)))
      replace e0_2 := e0_2.trans (congrArg some (congrArg Value.string (show markS (m + 2) = markS (m + 1 + 1) from by have z3 := HM3.out; first | rfl | (congr 1; omega))))
      clear hM3
      have HT2 := fun W => Lib.hid (markTextI ((m : Int) + 1 + 1) (m + 1 + 1) W (by omega) (by have z3 := HM3.out; omega) (by have z3 := HM3.out; omega))
      go_wp2_with fail
      go_region_held3 (fun w' => w'.cell? ⟨b, o + j * 4 + 2, none⟩ = some (.string (markS (m + 1 + 1)))) (first | go_keep | (rw [hb3.cell hg0]; assumption)) ((go_at_call 68; refine (HT2 _).out.mono ?_; rintro e w' ⟨rfl, hb3⟩))
      have B3 := (hbel).drew.trans (hb3.mono (hbel).size)
      have hg3 := Nat.lt_of_lt_of_le hg0 hb3.size
      have e3_3 := (hb3.cell (p := ⟨b, o + j * 4 + 3, none⟩) hg0).trans e0_3
      have r3_3 := r3.kept IntEl.st ((Kept.drew _).trans (Kept.of_below hb3))
      clear e0_0 e0_1 e0_2 e0_3 hb3
      go_wp2_with fail
      have rq3 := r3_3
      rw [show m + 3 = m + 1 + 1 + 1 from by have z3 := HM3.out; omega] at rq3
      refine (heldIntS x.kids _ _ (m + 1 + 1 + 1) M3 _ (by omega) (by have z3 := HM3.out; omega) HM3.out (by have z3 := HM3.out; omega) rq3).mono ?_
      rintro e w4 ⟨rfl, hb4⟩
      have B4 := (B3).trans (hb4.mono (B3).size)
      have hg4 := Nat.lt_of_lt_of_le hg3 hb4.size
      clear e3_3 hb4
      go_wp2
      go_roundw
      case rel => exact ⟨j + 1, m + cDN x, by go_num, by simp only [cDN]; have z3 := HM3.out; go_num, HC.out.symm, by omega, B4⟩
      case measure => simp [intOf]; omega
    · obtain rfl : j = l.length := by omega
      rw [List.take_length] at hq
      obtain rfl : m = M := hq.trans HM.out.symm
      go_wp2
      go_ret
      exact ⟨rfl, hbel⟩
theorem heldDataS (l : List (List DN)) (v : Value) (a : Int) (k M : Nat) (w : World) (ha : a = k) (h0 : 0 < k) (hM : M = k + cntL cData l) (h1 : M ≤ 1000000000000) (hR : RowRd 1 DataEl w v (mkL mkData cData l k)) :
    Calls Try.prog 20 #[v, .int .i64 a] w fun e w' => e = .returned (.int .i64 (M : Int)) ∧ Below w.heap.size w w' := by
  subst ha
  obtain ⟨a, cap, rfl, hm, hR⟩ := hR.form
  rw [mkL_len] at *
  have HM := Lib.hid hM
  unfold maxLen at hm
  clear hM
  go_enter Try.func20, Try.ntmps20
  go_wp2
  go_loopw [1, 5] (fun m i wr => ∃ j q : Nat, i = .int .i64 j ∧ m = .int .i64 (q : Int) ∧ q = k + cntL cData (l.take j) ∧ j ≤ l.length ∧ Below w.heap.size w wr) (fun _ i _ => l.length - (intOf i).toNat)
  case atStart => exact ⟨0, k, rfl, rfl, by simp [cntL], Nat.zero_le _, Below.refl _ _⟩
  case round =>
    obtain ⟨j, m, rfl, rfl, hq, hj, hbel⟩ := hrel
    by_cases hlt : j < l.length
    · have hcnt := cntL_take cData l j hlt
      have hcle := cntL_le cData l (j + 1)
      obtain ⟨b, o, rfl, hbw, hc⟩ := hR (by first | omega | (rw [mkL_len]; omega))
      have ex := DataEl.st w wr b _ _ (Kept.of_below hbel) hbw (hc j (by rw [mkL_len]; omega))
      rw [mkL_get mkData cData l k j hlt, ← hq] at ex
      have HC := Lib.hid (show k + cntL cData (l.take (j + 1)) = m + cData l[j] by omega)
      have HQ := HM.out
      have hb : m + cData l[j] ≤ 1000000000000 := by omega
      have hm0 : 0 < m := by omega
      clear hcnt hcle hq HQ hc hR
      have hg0 : b < wr.heap.size := Nat.lt_of_lt_of_le hbw hbel.size
      generalize l[j] = x at *
      simp only [mkData, cData] at ex hb
      obtain ⟨v0, e0_0, r0⟩ := ex
      rw [Nat.mul_one] at e0_0
      obtain ⟨a0, ca0, rfl, -, -⟩ := r0.form
      rw [mkL_len] at r0 e0_0
      obtain ⟨M0, hM0⟩ : ∃ M, M = m + cntL cDN x := ⟨_, rfl⟩
      have HM0 := Lib.hid hM0
      clear hM0
      go_wp2_with fail
      have rq0 := r0
      refine (heldDNodeS x _ _ (m) M0 _ (by omega) (by have z0 := HM0.out; omega) HM0.out (by have z0 := HM0.out; omega) rq0).mono ?_
      rintro e w1 ⟨rfl, hb1⟩
      have B1 := (hbel).trans (hb1.mono (hbel).size)
      have hg1 := Nat.lt_of_lt_of_le hg0 hb1.size
      clear e0_0 hb1
      go_wp2
      go_roundw
      case rel => exact ⟨j + 1, m + cData x, by go_num, by simp only [cData]; have z0 := HM0.out; go_num, HC.out.symm, by omega, B1⟩
      case measure => simp [intOf]; omega
    · obtain rfl : j = l.length := by omega
      rw [List.take_length] at hq
      obtain rfl : m = M := hq.trans HM.out.symm
      go_wp2
      go_ret
      exact ⟨rfl, hbel⟩
end Go.Proofs.Ytkalkmgnjlohnaa
