/- The law's comparisons, at equal data, by program (tools/gendeep.py). -/
import Derived.Test.YtdhpmblhejcehaaDoorData
import Derived.Test.YtdhpmblhejcehaaDoorRows
import Derived.WalkKit
import Derived.WalkSmall
import Derived.ProofKit
import Derived.OpenShut
import Derived.Lib.Hide
import Derived.Lib.SmallJoins
import Derived.StillTailTactics
import Derived.Deep.QuietTactic
import Derived.BigQuiet
import Derived.Outline
namespace Go.Proofs.YtdhpmblhejcehaaDoor
set_option linter.unusedVariables false
set_option maxRecDepth 100000
open Go.ChangeShapes Go.WideShapes Go.ChangeAt Go.RowKit
theorem eqVal (x : Vl) (w : World) :
    Calls Tryd.prog 56 #[.agg #[.int .i64 x.kind, .int .i64 x.n, .string x.s], .agg #[.int .i64 x.kind, .int .i64 x.n, .string x.s]] w fun e w' => e = .returned (.bool true) ∧ Below w.heap.size w w' := by
  go_enter Tryd.func56, Tryd.ntmps56
  go_wp2
  go_ret
  exact ⟨rfl, Joins.below_alloc2 w _ _⟩
theorem eqCell (x : Ce) (w : World) :
    Calls Tryd.prog 36 #[.agg #[.int .i64 x.kind, .int .i64 x.n, .string x.s, .int .i64 x.a.kind, .int .i64 x.a.n, .string x.a.s, .int .i64 x.b.kind, .int .i64 x.b.n, .string x.b.s], .agg #[.int .i64 x.kind, .int .i64 x.n, .string x.s, .int .i64 x.a.kind, .int .i64 x.a.n, .string x.a.s, .int .i64 x.b.kind, .int .i64 x.b.n, .string x.b.s]] w fun e w' => e = .returned (.bool true) ∧ Below w.heap.size w w' := by
  go_enter Tryd.func36, Tryd.ntmps36
  go_wp2_with fail
  refine (eqVal x.a _).mono ?_
  rintro e w1 ⟨rfl, hb1⟩
  obtain ⟨hc1, hf1⟩ := bcell hb1
  go_wp2_with fail
  refine (eqVal x.b _).mono ?_
  rintro e w2 ⟨rfl, hb2⟩
  go_wp2
  go_ret
  exact ⟨rfl, below_tr (below_tr (Joins.below_alloc2 w _ _) hb1) hb2⟩
theorem eqCellS (l : List Ce) (v v' : Value) (w : World) (ha : RowRd 9 CeEl w v l) (hb : RowRd 9 CeEl w v' l) :
    Calls Tryd.prog 17 #[v, v'] w fun e w' => e = .returned (.bool true) ∧ Below w.heap.size w w' := by
  obtain ⟨a, cap, rfl, hm, ha⟩ := ha.form
  obtain ⟨b, cap', rfl, _, hb⟩ := hb.form
  unfold maxLen at hm
  go_enter Tryd.func17, Tryd.ntmps17
  go_wp2
  go_loopw [5] (fun i wr => ∃ j : Nat, i = .int .i64 j ∧ j ≤ l.length ∧ Below w.heap.size w wr) (fun i _ => l.length - (intOf i).toNat)
  case atStart => exact ⟨0, rfl, Nat.zero_le _, Below.refl _ _⟩
  case round =>
    obtain ⟨j, rfl, hj, hbel⟩ := hrel
    by_cases hlt : j < l.length
    · obtain ⟨ba, oa, rfl, hba, hca⟩ := ha (by omega)
      obtain ⟨bb, ob, rfl, hbb, hcb⟩ := hb (by omega)
      have hKr := Kept.of_below hbel
      have ea := CeEl.st w wr ba _ _ hKr hba (hca j hlt)
      have eb := CeEl.st w wr bb _ _ hKr hbb (hcb j hlt)
      clear hca hcb ha hb
      generalize l[j] = x at *
      obtain ⟨⟨pc0, pi0⟩, ⟨pc1, pi1⟩, ⟨pc2, pi2⟩, ⟨⟨pc3, pi3⟩, ⟨pc4, pi4⟩, ⟨pc5, pi5⟩⟩, ⟨⟨pc6, pi6⟩, ⟨pc7, pi7⟩, ⟨pc8, pi8⟩⟩⟩ := ea
      obtain ⟨⟨qc0, qi0⟩, ⟨qc1, qi1⟩, ⟨qc2, qi2⟩, ⟨⟨qc3, qi3⟩, ⟨qc4, qi4⟩, ⟨qc5, qi5⟩⟩, ⟨⟨qc6, qi6⟩, ⟨qc7, qi7⟩, ⟨qc8, qi8⟩⟩⟩ := eb
      go_wp2_with fail
      go_still_tail 8, (by kernel_rfl)
      change wpList _ _ _ _ _ wr.drew
      have hbd : Below w.heap.size w wr.drew := hbel.drew
      generalize wr.drew = w2 at *
      clear hbel hKr pc0 qc0 pc1 qc1 pc2 qc2 pc3 qc3 pc4 qc4 pc5 qc5 pc6 qc6 pc7 qc7 pc8 qc8
      go_wp2_with fail
      refine (eqCell _ _).mono ?_
      rintro e w' ⟨rfl, hb1⟩
      go_wp2
      go_roundw
      case rel => exact ⟨j + 1, by go_num, by omega, hbd.trans (hb1.mono hbd.size)⟩
      case measure => simp [intOf]; omega
    · go_wp2
      go_ret
      exact ⟨rfl, hbel⟩
end Go.Proofs.YtdhpmblhejcehaaDoor
