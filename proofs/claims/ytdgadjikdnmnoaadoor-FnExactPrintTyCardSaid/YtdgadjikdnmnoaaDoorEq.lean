/- The law's comparisons, at equal data, by program (tools/gendeep.py). -/
import Derived.Test.YtdgadjikdnmnoaaDoorData
import Derived.Test.YtdgadjikdnmnoaaDoorRows
import Derived.WalkKit
import Derived.WalkSmall
import Derived.ProofKit
import Derived.OpenShut
import Derived.Lib.Hide
import Derived.Lib.SmallJoins
import Derived.StillTailTactics
import Derived.Deep.QuietTactic
import Derived.BigQuiet
import Derived.Outline
namespace Go.Proofs.YtdgadjikdnmnoaaDoor
set_option linter.unusedVariables false
set_option maxRecDepth 100000
open Go.ChangeShapes Go.WideShapes Go.ChangeAt Go.RowKit
theorem eqTyItem (x : TyI) (w : World) :
    Calls Tryd.prog 32 #[.agg #[.int .i64 x.var, .string x.name, .int .i64 x.arity], .agg #[.int .i64 x.var, .string x.name, .int .i64 x.arity]] w fun e w' => e = .returned (.bool true) ∧ Below w.heap.size w w' := by
  go_enter Tryd.func32, Tryd.ntmps32
  go_wp2
  go_ret
  exact ⟨rfl, Joins.below_alloc2 w _ _⟩
theorem eqTyItemS (l : List TyI) (v v' : Value) (w : World) (ha : RowRd 3 TyIEl w v l) (hb : RowRd 3 TyIEl w v' l) :
    Calls Tryd.prog 17 #[v, v'] w fun e w' => e = .returned (.bool true) ∧ Below w.heap.size w w' := by
  obtain ⟨a, cap, rfl, hm, ha⟩ := ha.form
  obtain ⟨b, cap', rfl, _, hb⟩ := hb.form
  unfold maxLen at hm
  go_enter Tryd.func17, Tryd.ntmps17
  go_wp2
  go_loopw [5] (fun i wr => ∃ j : Nat, i = .int .i64 j ∧ j ≤ l.length ∧ Below w.heap.size w wr) (fun i _ => l.length - (intOf i).toNat)
  case atStart => exact ⟨0, rfl, Nat.zero_le _, Below.refl _ _⟩
  case round =>
    obtain ⟨j, rfl, hj, hbel⟩ := hrel
    by_cases hlt : j < l.length
    · obtain ⟨ba, oa, rfl, hba, hca⟩ := ha (by omega)
      obtain ⟨bb, ob, rfl, hbb, hcb⟩ := hb (by omega)
      have hKr := Kept.of_below hbel
      have ea := TyIEl.st w wr ba _ _ hKr hba (hca j hlt)
      have eb := TyIEl.st w wr bb _ _ hKr hbb (hcb j hlt)
      clear hca hcb ha hb
      generalize l[j] = x at *
      obtain ⟨⟨pc0, pi0⟩, ⟨pc1, pi1⟩, ⟨pc2, pi2⟩⟩ := ea
      obtain ⟨⟨qc0, qi0⟩, ⟨qc1, qi1⟩, ⟨qc2, qi2⟩⟩ := eb
      go_wp2_with fail
      go_still_tail 8, (by kernel_rfl)
      change wpList _ _ _ _ _ wr.drew
      have hbd : Below w.heap.size w wr.drew := hbel.drew
      generalize wr.drew = w2 at *
      clear hbel hKr pc0 qc0 pc1 qc1 pc2 qc2
      go_wp2_with fail
      refine (eqTyItem _ _).mono ?_
      rintro e w' ⟨rfl, hb1⟩
      go_wp2
      go_roundw
      case rel => exact ⟨j + 1, by go_num, by omega, hbd.trans (hb1.mono hbd.size)⟩
      case measure => simp [intOf]; omega
    · go_wp2
      go_ret
      exact ⟨rfl, hbel⟩
theorem eqTy (x : List TyI) (v0 u0 : Value) (w : World) (ra0 : RowRd 3 TyIEl w v0 x) (rb0 : RowRd 3 TyIEl w u0 x) :
    Calls Tryd.prog 8 #[.agg #[v0], .agg #[u0]] w fun e w' => e = .returned (.bool true) ∧ Below w.heap.size w w' := by
  obtain ⟨a0, ca0, rfl, -, -⟩ := ra0.form
  obtain ⟨b0, cb0, rfl, -, -⟩ := rb0.form
  go_enter Tryd.func8, Tryd.ntmps8
  go_wp2_with fail
  refine (eqTyItemS _ _ _ _ (ra0.kept TyIEl.st (Kept.al2 _ _ _)) (rb0.kept TyIEl.st (Kept.al2 _ _ _))).mono ?_
  rintro e w1 ⟨rfl, hb1⟩
  go_wp2
  go_ret
  exact ⟨rfl, below_tr (Joins.below_alloc2 w _ _) hb1⟩
end Go.Proofs.YtdgadjikdnmnoaaDoor
