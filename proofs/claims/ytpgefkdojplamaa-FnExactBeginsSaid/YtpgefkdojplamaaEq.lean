/- The law's comparisons, at equal data, by program (tools/gendeep.py). -/
import Derived.Test.YtpgefkdojplamaaData
import Derived.Test.YtpgefkdojplamaaRows
import Derived.WalkKit
import Derived.WalkSmall
import Derived.ProofKit
import Derived.OpenShut
import Derived.Lib.Hide
import Derived.Lib.SmallJoins
import Derived.StillTailTactics
import Derived.Deep.QuietTactic
import Derived.BigQuiet
import Derived.Outline
namespace Go.Proofs.Ytpgefkdojplamaa
set_option linter.unusedVariables false
set_option maxRecDepth 100000
open Go.ChangeShapes Go.WideShapes Go.ChangeAt Go.RowKit
theorem eqStringS (l : List ByteArray) (v v' : Value) (w : World) (ha : RowRd 1 StrEl w v l) (hb : RowRd 1 StrEl w v' l) :
    Calls Try.prog 15 #[v, v'] w fun e w' => e = .returned (.bool true) ∧ Below w.heap.size w w' := by
  obtain ⟨a, cap, rfl, hm, ha⟩ := ha.form
  obtain ⟨b, cap', rfl, _, hb⟩ := hb.form
  unfold maxLen at hm
  go_enter Try.func15, Try.ntmps15
  go_wp2
  go_loopw [5] (fun i wr => ∃ j : Nat, i = .int .i64 j ∧ j ≤ l.length ∧ Below w.heap.size w wr) (fun i _ => l.length - (intOf i).toNat)
  case atStart => exact ⟨0, rfl, Nat.zero_le _, Below.refl _ _⟩
  case round =>
    obtain ⟨j, rfl, hj, hbel⟩ := hrel
    by_cases hlt : j < l.length
    · obtain ⟨ba, oa, rfl, hba, hca⟩ := ha (by omega)
      obtain ⟨bb, ob, rfl, hbb, hcb⟩ := hb (by omega)
      have hKr := Kept.of_below hbel
      have ea := StrEl.st w wr ba _ _ hKr hba (hca j hlt)
      have eb := StrEl.st w wr bb _ _ hKr hbb (hcb j hlt)
      clear hca hcb ha hb
      generalize l[j] = x at *
      obtain ⟨a0, ia⟩ := ea
      obtain ⟨b0, ib⟩ := eb
      rw [Nat.mul_one] at a0 b0
      go_wp2_with fail
      go_quiet (fail)
      go_wp2
      go_roundw
      case rel => exact ⟨j + 1, by go_num, by omega, below_drewN hbel _⟩
      case measure => simp [intOf]; omega
    · go_wp2
      go_ret
      exact ⟨rfl, hbel⟩
theorem eqOutcome (x : Oc) (v2 u2 : Value) (w : World) (ra2 : RowRd 1 StrEl w v2 x.trace) (rb2 : RowRd 1 StrEl w u2 x.trace) :
    Calls Try.prog 9 #[.agg #[.int .i64 x.kind, .int .i64 x.n, v2, .int .i64 x.steps], .agg #[.int .i64 x.kind, .int .i64 x.n, u2, .int .i64 x.steps]] w fun e w' => e = .returned (.bool true) ∧ Below w.heap.size w w' := by
  obtain ⟨a2, ca2, rfl, -, -⟩ := ra2.form
  obtain ⟨b2, cb2, rfl, -, -⟩ := rb2.form
  go_enter Try.func9, Try.ntmps9
  go_wp2_with fail
  refine (eqStringS _ _ _ _ (ra2.kept StrEl.st (Kept.al2 _ _ _)) (rb2.kept StrEl.st (Kept.al2 _ _ _))).mono ?_
  rintro e w1 ⟨rfl, hb1⟩
  obtain ⟨hc1, hf1⟩ := bcell hb1
  go_wp2
  go_ret
  exact ⟨rfl, below_tr (Joins.below_alloc2 w _ _) hb1⟩
end Go.Proofs.Ytpgefkdojplamaa
