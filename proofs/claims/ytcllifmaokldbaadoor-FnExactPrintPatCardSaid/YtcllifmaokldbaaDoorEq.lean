/- The law's comparisons, at equal data, by program (tools/gendeep.py). -/
import Derived.Test.YtcllifmaokldbaaDoorData
import Derived.Test.YtcllifmaokldbaaDoorRows
import Derived.WalkKit
import Derived.WalkSmall
import Derived.ProofKit
import Derived.OpenShut
import Derived.Lib.Hide
import Derived.Lib.SmallJoins
import Derived.StillTailTactics
import Derived.Deep.QuietTactic
import Derived.BigQuiet
import Derived.Outline
namespace Go.Proofs.YtcllifmaokldbaaDoor
set_option linter.unusedVariables false
set_option maxRecDepth 100000
open Go.ChangeShapes Go.WideShapes Go.ChangeAt Go.RowKit
theorem eqIntS (l : List Int) (v v' : Value) (w : World) (ha : RowRd 1 IntEl w v l) (hb : RowRd 1 IntEl w v' l) :
    Calls Tryd.prog 56 #[v, v'] w fun e w' => e = .returned (.bool true) ∧ Below w.heap.size w w' := by
  obtain ⟨a, cap, rfl, hm, ha⟩ := ha.form
  obtain ⟨b, cap', rfl, _, hb⟩ := hb.form
  unfold maxLen at hm
  go_enter Tryd.func56, Tryd.ntmps56
  go_wp2
  go_loopw [5] (fun i wr => ∃ j : Nat, i = .int .i64 j ∧ j ≤ l.length ∧ Below w.heap.size w wr) (fun i _ => l.length - (intOf i).toNat)
  case atStart => exact ⟨0, rfl, Nat.zero_le _, Below.refl _ _⟩
  case round =>
    obtain ⟨j, rfl, hj, hbel⟩ := hrel
    by_cases hlt : j < l.length
    · obtain ⟨ba, oa, rfl, hba, hca⟩ := ha (by omega)
      obtain ⟨bb, ob, rfl, hbb, hcb⟩ := hb (by omega)
      have hKr := Kept.of_below hbel
      have ea := IntEl.st w wr ba _ _ hKr hba (hca j hlt)
      have eb := IntEl.st w wr bb _ _ hKr hbb (hcb j hlt)
      clear hca hcb ha hb
      generalize l[j] = x at *
      obtain ⟨a0, ia⟩ := ea
      obtain ⟨b0, ib⟩ := eb
      rw [Nat.mul_one] at a0 b0
      go_wp2_with fail
      go_quiet (fail)
      go_wp2
      go_roundw
      case rel => exact ⟨j + 1, by go_num, by omega, below_drewN hbel _⟩
      case measure => simp [intOf]; omega
    · go_wp2
      go_ret
      exact ⟨rfl, hbel⟩
theorem eqPNode (x : PN) (v3 u3 : Value) (w : World) (ra3 : RowRd 1 IntEl w v3 x.kids) (rb3 : RowRd 1 IntEl w u3 x.kids) :
    Calls Tryd.prog 39 #[.agg #[.int .i64 x.kind, .int .i64 x.n, .string x.s, v3], .agg #[.int .i64 x.kind, .int .i64 x.n, .string x.s, u3]] w fun e w' => e = .returned (.bool true) ∧ Below w.heap.size w w' := by
  obtain ⟨a3, ca3, rfl, -, -⟩ := ra3.form
  obtain ⟨b3, cb3, rfl, -, -⟩ := rb3.form
  go_enter Tryd.func39, Tryd.ntmps39
  go_wp2_with fail
  refine (eqIntS _ _ _ _ (ra3.kept IntEl.st (Kept.al2 _ _ _)) (rb3.kept IntEl.st (Kept.al2 _ _ _))).mono ?_
  rintro e w1 ⟨rfl, hb1⟩
  go_wp2
  go_ret
  exact ⟨rfl, below_tr (Joins.below_alloc2 w _ _) hb1⟩
theorem eqPNodeS (l : List PN) (v v' : Value) (w : World) (ha : RowRd 4 PNEl w v l) (hb : RowRd 4 PNEl w v' l) :
    Calls Tryd.prog 19 #[v, v'] w fun e w' => e = .returned (.bool true) ∧ Below w.heap.size w w' := by
  obtain ⟨a, cap, rfl, hm, ha⟩ := ha.form
  obtain ⟨b, cap', rfl, _, hb⟩ := hb.form
  unfold maxLen at hm
  go_enter Tryd.func19, Tryd.ntmps19
  go_wp2
  go_loopw [5] (fun i wr => ∃ j : Nat, i = .int .i64 j ∧ j ≤ l.length ∧ Below w.heap.size w wr) (fun i _ => l.length - (intOf i).toNat)
  case atStart => exact ⟨0, rfl, Nat.zero_le _, Below.refl _ _⟩
  case round =>
    obtain ⟨j, rfl, hj, hbel⟩ := hrel
    by_cases hlt : j < l.length
    · obtain ⟨ba, oa, rfl, hba, hca⟩ := ha (by omega)
      obtain ⟨bb, ob, rfl, hbb, hcb⟩ := hb (by omega)
      have hKr := Kept.of_below hbel
      have ea := PNEl.st w wr ba _ _ hKr hba (hca j hlt)
      have eb := PNEl.st w wr bb _ _ hKr hbb (hcb j hlt)
      clear hca hcb ha hb
      generalize l[j] = x at *
      obtain ⟨⟨pc0, pi0⟩, ⟨pc1, pi1⟩, ⟨pc2, pi2⟩, ⟨pv3, pc3, pr3⟩⟩ := ea
      obtain ⟨⟨qc0, qi0⟩, ⟨qc1, qi1⟩, ⟨qc2, qi2⟩, ⟨qv3, qc3, qr3⟩⟩ := eb
      obtain ⟨pa3, pc103, rfl, -, -⟩ := pr3.form
      obtain ⟨qa3, qc103, rfl, -, -⟩ := qr3.form
      go_wp2_with fail
      go_still_tail 8, (by kernel_rfl)
      change wpList _ _ _ _ _ wr.drew
      have hbd : Below w.heap.size w wr.drew := hbel.drew
      replace pr3 := pr3.kept IntEl.st (Kept.drew wr)
      replace qr3 := qr3.kept IntEl.st (Kept.drew wr)
      generalize wr.drew = w2 at *
      clear hbel hKr pc0 qc0 pc1 qc1 pc2 qc2 pc3 qc3
      go_wp2_with fail
      refine (eqPNode _ _ _ _ pr3 qr3).mono ?_
      rintro e w' ⟨rfl, hb1⟩
      go_wp2
      go_roundw
      case rel => exact ⟨j + 1, by go_num, by omega, hbd.trans (hb1.mono hbd.size)⟩
      case measure => simp [intOf]; omega
    · go_wp2
      go_ret
      exact ⟨rfl, hbel⟩
theorem eqPat (x : List PN) (v0 u0 : Value) (w : World) (ra0 : RowRd 4 PNEl w v0 x) (rb0 : RowRd 4 PNEl w u0 x) :
    Calls Tryd.prog 8 #[.agg #[v0], .agg #[u0]] w fun e w' => e = .returned (.bool true) ∧ Below w.heap.size w w' := by
  obtain ⟨a0, ca0, rfl, -, -⟩ := ra0.form
  obtain ⟨b0, cb0, rfl, -, -⟩ := rb0.form
  go_enter Tryd.func8, Tryd.ntmps8
  go_wp2_with fail
  refine (eqPNodeS _ _ _ _ (ra0.kept PNEl.st (Kept.al2 _ _ _)) (rb0.kept PNEl.st (Kept.al2 _ _ _))).mono ?_
  rintro e w1 ⟨rfl, hb1⟩
  go_wp2
  go_ret
  exact ⟨rfl, below_tr (Joins.below_alloc2 w _ _) hb1⟩
end Go.Proofs.YtcllifmaokldbaaDoor
