/- The law's look at what it marked, by program (tools/gendeep.py). -/
import Derived.Test.YtciohamonmmciaaMkData
import Derived.Test.YtciohamonmmciaaRows
import Derived.Deep.RegionHeld3
import Derived.WalkKit
import Derived.WalkSmall
import Derived.ProofKit
import Derived.OpenShut
import Derived.Lib.Hide
import Derived.Lib.SmallJoins
import Derived.StillTailTactics
import Derived.Deep.QuietTactic
import Derived.BigQuiet
import Derived.Outline
namespace Go.Proofs.Ytciohamonmmciaa
set_option linter.unusedVariables false
set_option maxRecDepth 100000
open Go.ChangeShapes Go.WideShapes Go.ChangeAt Go.RowKit
theorem heldTyItemS (l : List TyI) (v : Value) (a : Int) (k M : Nat) (w : World) (ha : a = k) (h0 : 0 < k) (hM : M = k + cntL cTyI l) (h1 : M ≤ 1000000000000) (hR : RowRd 3 TyIEl w v (mkL mkTyI cTyI l k)) :
    Calls Try.prog 28 #[v, .int .i64 a] w fun e w' => e = .returned (.int .i64 (M : Int)) ∧ Below w.heap.size w w' := by
  subst ha
  obtain ⟨a, cap, rfl, hm, hR⟩ := hR.form
  rw [mkL_len] at *
  have HM := Lib.hid hM
  unfold maxLen at hm
  clear hM
  go_enter Try.func28, Try.ntmps28
  go_wp2
  go_loopw [1, 5] (fun m i wr => ∃ j q : Nat, i = .int .i64 j ∧ m = .int .i64 (q : Int) ∧ q = k + cntL cTyI (l.take j) ∧ j ≤ l.length ∧ Below w.heap.size w wr) (fun _ i _ => l.length - (intOf i).toNat)
  case atStart => exact ⟨0, k, rfl, rfl, by simp [cntL], Nat.zero_le _, Below.refl _ _⟩
  case round =>
    obtain ⟨j, m, rfl, rfl, hq, hj, hbel⟩ := hrel
    by_cases hlt : j < l.length
    · have hcnt := cntL_take cTyI l j hlt
      have hcle := cntL_le cTyI l (j + 1)
      obtain ⟨b, o, rfl, hbw, hc⟩ := hR (by first | omega | (rw [mkL_len]; omega))
      have ex := TyIEl.st w wr b _ _ (Kept.of_below hbel) hbw (hc j (by rw [mkL_len]; omega))
      rw [mkL_get mkTyI cTyI l k j hlt, ← hq] at ex
      have HC := Lib.hid (show k + cntL cTyI (l.take (j + 1)) = m + cTyI l[j] by omega)
      have HQ := HM.out
      have hb : m + cTyI l[j] ≤ 1000000000000 := by omega
      have hm0 : 0 < m := by omega
      clear hcnt hcle hq HQ hc hR
      have hg0 : b < wr.heap.size := Nat.lt_of_lt_of_le hbw hbel.size
      generalize l[j] = x at *
      simp only [mkTyI, cTyI] at ex hb
      obtain ⟨⟨e0_0, i0⟩, ⟨e0_1, i1⟩, ⟨e0_2, i2⟩⟩ := ex
      replace e0_0 := e0_0.trans (congrArg some (congrArg (Value.int .i64) (show ((m : Nat) : Int) = (m : Int) from by omega)))
      replace e0_1 := e0_1.trans (congrArg some (congrArg Value.string (show markS (m + 1) = markS (m + 1) from by first | rfl | (congr 1; omega))))
      replace e0_2 := e0_2.trans (congrArg some (congrArg (Value.int .i64) (show ((m + 2 : Nat) : Int) = (m : Int) + 1 + 1 from by omega)))
      have HT1 := fun W => Lib.hid (markTextI ((m : Int) + 1) (m + 1) W (by omega) (by omega) (by omega))
      go_wp2_with fail
      go_region_held3 (fun w' => w'.cell? ⟨b, o + j * 3 + 1, none⟩ = some (.string (markS (m + 1)))) (first | go_keep | (rw [hb2.cell hg0]; assumption)) ((go_at_call 47; refine (HT1 _).out.mono ?_; rintro e w' ⟨rfl, hb2⟩))
      have B2 := (hbel).drew.trans (hb2.mono (hbel).size)
      have hg2 := Nat.lt_of_lt_of_le hg0 hb2.size
      have e2_2 := (hb2.cell (p := ⟨b, o + j * 3 + 2, none⟩) hg0).trans e0_2
      clear e0_0 e0_1 e0_2 hb2
      go_wp2
      go_roundw
      case rel => exact ⟨j + 1, m + cTyI x, by go_num, by simp only [cTyI]; go_num, HC.out.symm, by omega, B2⟩
      case measure => simp [intOf]; omega
    · obtain rfl : j = l.length := by omega
      rw [List.take_length] at hq
      obtain rfl : m = M := hq.trans HM.out.symm
      go_wp2
      go_ret
      exact ⟨rfl, hbel⟩
theorem heldTy (x : List TyI) (v0 : Value) (k : Nat) (w : World) (h0 : 0 < k) (M0 : Nat) (hM0 : M0 = k + cntL cTyI x) (h1 : M0 ≤ 1000000000000) (r0 : RowRd 3 TyIEl w v0 (mkL mkTyI cTyI x k)) :
    Calls Try.prog 11 #[.agg #[v0], .int .i64 (k : Int)] w fun e w' => e = .returned (.int .i64 (M0 : Int)) ∧ Below w.heap.size w w' := by
  obtain ⟨a0, ca0, e0, -, -⟩ := r0.form
  subst e0
  rw [mkL_len] at r0 ⊢
  have HM0 := Lib.hid hM0
  clear hM0
  go_enter Try.func11, Try.ntmps11
  go_wp2_with fail
  refine (heldTyItemS x _ _ k M0 _ rfl (by have z0 := HM0.out; omega) HM0.out (by have z0 := HM0.out; omega) (r0.kept TyIEl.st (Kept.alloc _ _))).mono ?_
  rintro e w1 ⟨rfl, hb1⟩
  go_wp2
  go_ret
  exact ⟨rfl, below_tr (Joins.below_alloc1 w _) hb1⟩
end Go.Proofs.Ytciohamonmmciaa
