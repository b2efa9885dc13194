/- The law's comparisons, at equal data, by program (tools/gendeep.py). -/
import Derived.Test.YtilincaedjhnpaaGreatData
import Derived.Test.YtilincaedjhnpaaGreatRows
import Derived.WalkKit
import Derived.WalkSmall
import Derived.ProofKit
import Derived.OpenShut
import Derived.Lib.Hide
import Derived.Lib.SmallJoins
import Derived.StillTailTactics
import Derived.Deep.QuietTactic
import Derived.BigQuiet
import Derived.Outline
namespace Go.Proofs.YtilincaedjhnpaaGreat
set_option linter.unusedVariables false
set_option maxRecDepth 100000
open Go.ChangeShapes Go.WideShapes Go.ChangeAt Go.RowKit
theorem eqIntS (l : List Int) (v v' : Value) (w : World) (ha : RowRd 1 IntEl w v l) (hb : RowRd 1 IntEl w v' l) :
    Calls Tryz.prog 59 #[v, v'] w fun e w' => e = .returned (.bool true) ∧ Below w.heap.size w w' := by
  obtain ⟨a, cap, rfl, hm, ha⟩ := ha.form
  obtain ⟨b, cap', rfl, _, hb⟩ := hb.form
  unfold maxLen at hm
  go_enter Tryz.func59, Tryz.ntmps59
  go_wp2
  go_loopw [5] (fun i wr => ∃ j : Nat, i = .int .i64 j ∧ j ≤ l.length ∧ Below w.heap.size w wr) (fun i _ => l.length - (intOf i).toNat)
  case atStart => exact ⟨0, rfl, Nat.zero_le _, Below.refl _ _⟩
  case round =>
    obtain ⟨j, rfl, hj, hbel⟩ := hrel
    by_cases hlt : j < l.length
    · obtain ⟨ba, oa, rfl, hba, hca⟩ := ha (by omega)
      obtain ⟨bb, ob, rfl, hbb, hcb⟩ := hb (by omega)
      have hKr := Kept.of_below hbel
      have ea := IntEl.st w wr ba _ _ hKr hba (hca j hlt)
      have eb := IntEl.st w wr bb _ _ hKr hbb (hcb j hlt)
      clear hca hcb ha hb
      generalize l[j] = x at *
      obtain ⟨a0, ia⟩ := ea
      obtain ⟨b0, ib⟩ := eb
      rw [Nat.mul_one] at a0 b0
      go_wp2_with fail
      go_quiet (fail)
      go_wp2
      go_roundw
      case rel => exact ⟨j + 1, by go_num, by omega, below_drewN hbel _⟩
      case measure => simp [intOf]; omega
    · go_wp2
      go_ret
      exact ⟨rfl, hbel⟩
theorem eqTyItem (x : TyI) (w : World) :
    Calls Tryz.prog 148 #[.agg #[.int .i64 x.var, .string x.name, .int .i64 x.arity], .agg #[.int .i64 x.var, .string x.name, .int .i64 x.arity]] w fun e w' => e = .returned (.bool true) ∧ Below w.heap.size w w' := by
  go_enter Tryz.func148, Tryz.ntmps148
  go_wp2
  go_ret
  exact ⟨rfl, Joins.below_alloc2 w _ _⟩
theorem eqTyItemS (l : List TyI) (v v' : Value) (w : World) (ha : RowRd 3 TyIEl w v l) (hb : RowRd 3 TyIEl w v' l) :
    Calls Tryz.prog 134 #[v, v'] w fun e w' => e = .returned (.bool true) ∧ Below w.heap.size w w' := by
  obtain ⟨a, cap, rfl, hm, ha⟩ := ha.form
  obtain ⟨b, cap', rfl, _, hb⟩ := hb.form
  unfold maxLen at hm
  go_enter Tryz.func134, Tryz.ntmps134
  go_wp2
  go_loopw [5] (fun i wr => ∃ j : Nat, i = .int .i64 j ∧ j ≤ l.length ∧ Below w.heap.size w wr) (fun i _ => l.length - (intOf i).toNat)
  case atStart => exact ⟨0, rfl, Nat.zero_le _, Below.refl _ _⟩
  case round =>
    obtain ⟨j, rfl, hj, hbel⟩ := hrel
    by_cases hlt : j < l.length
    · obtain ⟨ba, oa, rfl, hba, hca⟩ := ha (by omega)
      obtain ⟨bb, ob, rfl, hbb, hcb⟩ := hb (by omega)
      have hKr := Kept.of_below hbel
      have ea := TyIEl.st w wr ba _ _ hKr hba (hca j hlt)
      have eb := TyIEl.st w wr bb _ _ hKr hbb (hcb j hlt)
      clear hca hcb ha hb
      generalize l[j] = x at *
      obtain ⟨⟨pc0, pi0⟩, ⟨pc1, pi1⟩, ⟨pc2, pi2⟩⟩ := ea
      obtain ⟨⟨qc0, qi0⟩, ⟨qc1, qi1⟩, ⟨qc2, qi2⟩⟩ := eb
      go_wp2_with fail
      go_still_tail 8, (by kernel_rfl)
      change wpList _ _ _ _ _ wr.drew
      have hbd : Below w.heap.size w wr.drew := hbel.drew
      generalize wr.drew = w2 at *
      clear hbel hKr pc0 qc0 pc1 qc1 pc2 qc2
      go_wp2_with fail
      refine (eqTyItem _ _).mono ?_
      rintro e w' ⟨rfl, hb1⟩
      go_wp2
      go_roundw
      case rel => exact ⟨j + 1, by go_num, by omega, hbd.trans (hb1.mono hbd.size)⟩
      case measure => simp [intOf]; omega
    · go_wp2
      go_ret
      exact ⟨rfl, hbel⟩
theorem eqTy (x : List TyI) (v0 u0 : Value) (w : World) (ra0 : RowRd 3 TyIEl w v0 x) (rb0 : RowRd 3 TyIEl w u0 x) :
    Calls Tryz.prog 111 #[.agg #[v0], .agg #[u0]] w fun e w' => e = .returned (.bool true) ∧ Below w.heap.size w w' := by
  obtain ⟨a0, ca0, rfl, -, -⟩ := ra0.form
  obtain ⟨b0, cb0, rfl, -, -⟩ := rb0.form
  go_enter Tryz.func111, Tryz.ntmps111
  go_wp2_with fail
  refine (eqTyItemS _ _ _ _ (ra0.kept TyIEl.st (Kept.al2 _ _ _)) (rb0.kept TyIEl.st (Kept.al2 _ _ _))).mono ?_
  rintro e w1 ⟨rfl, hb1⟩
  go_wp2
  go_ret
  exact ⟨rfl, below_tr (Joins.below_alloc2 w _ _) hb1⟩
theorem eqPNode (x : PN) (v3 u3 : Value) (w : World) (ra3 : RowRd 1 IntEl w v3 x.kids) (rb3 : RowRd 1 IntEl w u3 x.kids) :
    Calls Tryz.prog 135 #[.agg #[.int .i64 x.kind, .int .i64 x.n, .string x.s, v3], .agg #[.int .i64 x.kind, .int .i64 x.n, .string x.s, u3]] w fun e w' => e = .returned (.bool true) ∧ Below w.heap.size w w' := by
  obtain ⟨a3, ca3, rfl, -, -⟩ := ra3.form
  obtain ⟨b3, cb3, rfl, -, -⟩ := rb3.form
  go_enter Tryz.func135, Tryz.ntmps135
  go_wp2_with fail
  refine (eqIntS _ _ _ _ (ra3.kept IntEl.st (Kept.al2 _ _ _)) (rb3.kept IntEl.st (Kept.al2 _ _ _))).mono ?_
  rintro e w1 ⟨rfl, hb1⟩
  go_wp2
  go_ret
  exact ⟨rfl, below_tr (Joins.below_alloc2 w _ _) hb1⟩
theorem eqPNodeS (l : List PN) (v v' : Value) (w : World) (ha : RowRd 4 PNEl w v l) (hb : RowRd 4 PNEl w v' l) :
    Calls Tryz.prog 112 #[v, v'] w fun e w' => e = .returned (.bool true) ∧ Below w.heap.size w w' := by
  obtain ⟨a, cap, rfl, hm, ha⟩ := ha.form
  obtain ⟨b, cap', rfl, _, hb⟩ := hb.form
  unfold maxLen at hm
  go_enter Tryz.func112, Tryz.ntmps112
  go_wp2
  go_loopw [5] (fun i wr => ∃ j : Nat, i = .int .i64 j ∧ j ≤ l.length ∧ Below w.heap.size w wr) (fun i _ => l.length - (intOf i).toNat)
  case atStart => exact ⟨0, rfl, Nat.zero_le _, Below.refl _ _⟩
  case round =>
    obtain ⟨j, rfl, hj, hbel⟩ := hrel
    by_cases hlt : j < l.length
    · obtain ⟨ba, oa, rfl, hba, hca⟩ := ha (by omega)
      obtain ⟨bb, ob, rfl, hbb, hcb⟩ := hb (by omega)
      have hKr := Kept.of_below hbel
      have ea := PNEl.st w wr ba _ _ hKr hba (hca j hlt)
      have eb := PNEl.st w wr bb _ _ hKr hbb (hcb j hlt)
      clear hca hcb ha hb
      generalize l[j] = x at *
      obtain ⟨⟨pc0, pi0⟩, ⟨pc1, pi1⟩, ⟨pc2, pi2⟩, ⟨pv3, pc3, pr3⟩⟩ := ea
      obtain ⟨⟨qc0, qi0⟩, ⟨qc1, qi1⟩, ⟨qc2, qi2⟩, ⟨qv3, qc3, qr3⟩⟩ := eb
      obtain ⟨pa3, pc103, rfl, -, -⟩ := pr3.form
      obtain ⟨qa3, qc103, rfl, -, -⟩ := qr3.form
      go_wp2_with fail
      go_still_tail 8, (by kernel_rfl)
      change wpList _ _ _ _ _ wr.drew
      have hbd : Below w.heap.size w wr.drew := hbel.drew
      replace pr3 := pr3.kept IntEl.st (Kept.drew wr)
      replace qr3 := qr3.kept IntEl.st (Kept.drew wr)
      generalize wr.drew = w2 at *
      clear hbel hKr pc0 qc0 pc1 qc1 pc2 qc2 pc3 qc3
      go_wp2_with fail
      refine (eqPNode _ _ _ _ pr3 qr3).mono ?_
      rintro e w' ⟨rfl, hb1⟩
      go_wp2
      go_roundw
      case rel => exact ⟨j + 1, by go_num, by omega, hbd.trans (hb1.mono hbd.size)⟩
      case measure => simp [intOf]; omega
    · go_wp2
      go_ret
      exact ⟨rfl, hbel⟩
theorem eqPat (x : List PN) (v0 u0 : Value) (w : World) (ra0 : RowRd 4 PNEl w v0 x) (rb0 : RowRd 4 PNEl w u0 x) :
    Calls Tryz.prog 90 #[.agg #[v0], .agg #[u0]] w fun e w' => e = .returned (.bool true) ∧ Below w.heap.size w w' := by
  obtain ⟨a0, ca0, rfl, -, -⟩ := ra0.form
  obtain ⟨b0, cb0, rfl, -, -⟩ := rb0.form
  go_enter Tryz.func90, Tryz.ntmps90
  go_wp2_with fail
  refine (eqPNodeS _ _ _ _ (ra0.kept PNEl.st (Kept.al2 _ _ _)) (rb0.kept PNEl.st (Kept.al2 _ _ _))).mono ?_
  rintro e w1 ⟨rfl, hb1⟩
  go_wp2
  go_ret
  exact ⟨rfl, below_tr (Joins.below_alloc2 w _ _) hb1⟩
theorem eqPatS (l : List (List PN)) (v v' : Value) (w : World) (ha : RowRd 1 PatEl w v l) (hb : RowRd 1 PatEl w v' l) :
    Calls Tryz.prog 60 #[v, v'] w fun e w' => e = .returned (.bool true) ∧ Below w.heap.size w w' := by
  obtain ⟨a, cap, rfl, hm, ha⟩ := ha.form
  obtain ⟨b, cap', rfl, _, hb⟩ := hb.form
  unfold maxLen at hm
  go_enter Tryz.func60, Tryz.ntmps60
  go_wp2
  go_loopw [5] (fun i wr => ∃ j : Nat, i = .int .i64 j ∧ j ≤ l.length ∧ Below w.heap.size w wr) (fun i _ => l.length - (intOf i).toNat)
  case atStart => exact ⟨0, rfl, Nat.zero_le _, Below.refl _ _⟩
  case round =>
    obtain ⟨j, rfl, hj, hbel⟩ := hrel
    by_cases hlt : j < l.length
    · obtain ⟨ba, oa, rfl, hba, hca⟩ := ha (by omega)
      obtain ⟨bb, ob, rfl, hbb, hcb⟩ := hb (by omega)
      have hKr := Kept.of_below hbel
      have ea := PatEl.st w wr ba _ _ hKr hba (hca j hlt)
      have eb := PatEl.st w wr bb _ _ hKr hbb (hcb j hlt)
      clear hca hcb ha hb
      generalize l[j] = x at *
      obtain ⟨pv0, pc0, pr0⟩ := ea
      obtain ⟨qv0, qc0, qr0⟩ := eb
      obtain ⟨pa0, pc100, rfl, -, -⟩ := pr0.form
      obtain ⟨qa0, qc100, rfl, -, -⟩ := qr0.form
      rw [Nat.mul_one] at pc0 qc0
      go_wp2_with fail
      go_still_tail 8, (by kernel_rfl)
      change wpList _ _ _ _ _ wr.drew
      have hbd : Below w.heap.size w wr.drew := hbel.drew
      replace pr0 := pr0.kept PNEl.st (Kept.drew wr)
      replace qr0 := qr0.kept PNEl.st (Kept.drew wr)
      generalize wr.drew = w2 at *
      clear hbel hKr pc0 qc0
      go_wp2_with fail
      refine (eqPat _ _ _ _ pr0 qr0).mono ?_
      rintro e w' ⟨rfl, hb1⟩
      go_wp2
      go_roundw
      case rel => exact ⟨j + 1, by go_num, by omega, hbd.trans (hb1.mono hbd.size)⟩
      case measure => simp [intOf]; omega
    · go_wp2
      go_ret
      exact ⟨rfl, hbel⟩
theorem eqCon (x : Cn) (v2 u2 : Value) (w : World) (ra2 : RowRd 3 TyIEl w v2 x.arg) (rb2 : RowRd 3 TyIEl w u2 x.arg) :
    Calls Tryz.prog 89 #[.agg #[.string x.name, .bool x.has, v2], .agg #[.string x.name, .bool x.has, u2]] w fun e w' => e = .returned (.bool true) ∧ Below w.heap.size w w' := by
  obtain ⟨a2, ca2, rfl, -, -⟩ := ra2.form
  obtain ⟨b2, cb2, rfl, -, -⟩ := rb2.form
  go_enter Tryz.func89, Tryz.ntmps89
  go_wp2_with fail
  refine (eqTy x.arg _ _ _ (ra2.kept TyIEl.st (Kept.al2 _ _ _)) (rb2.kept TyIEl.st (Kept.al2 _ _ _))).mono ?_
  rintro e w1 ⟨rfl, hb1⟩
  go_wp2
  go_ret
  exact ⟨rfl, below_tr (Joins.below_alloc2 w _ _) hb1⟩
theorem eqConS (l : List Cn) (v v' : Value) (w : World) (ha : RowRd 3 CnEl w v l) (hb : RowRd 3 CnEl w v' l) :
    Calls Tryz.prog 58 #[v, v'] w fun e w' => e = .returned (.bool true) ∧ Below w.heap.size w w' := by
  obtain ⟨a, cap, rfl, hm, ha⟩ := ha.form
  obtain ⟨b, cap', rfl, _, hb⟩ := hb.form
  unfold maxLen at hm
  go_enter Tryz.func58, Tryz.ntmps58
  go_wp2
  go_loopw [5] (fun i wr => ∃ j : Nat, i = .int .i64 j ∧ j ≤ l.length ∧ Below w.heap.size w wr) (fun i _ => l.length - (intOf i).toNat)
  case atStart => exact ⟨0, rfl, Nat.zero_le _, Below.refl _ _⟩
  case round =>
    obtain ⟨j, rfl, hj, hbel⟩ := hrel
    by_cases hlt : j < l.length
    · obtain ⟨ba, oa, rfl, hba, hca⟩ := ha (by omega)
      obtain ⟨bb, ob, rfl, hbb, hcb⟩ := hb (by omega)
      have hKr := Kept.of_below hbel
      have ea := CnEl.st w wr ba _ _ hKr hba (hca j hlt)
      have eb := CnEl.st w wr bb _ _ hKr hbb (hcb j hlt)
      clear hca hcb ha hb
      generalize l[j] = x at *
      obtain ⟨⟨pc0, pi0⟩, pc1, ⟨pv2, pc2, pr2⟩⟩ := ea
      obtain ⟨⟨qc0, qi0⟩, qc1, ⟨qv2, qc2, qr2⟩⟩ := eb
      obtain ⟨pa2, pc102, rfl, -, -⟩ := pr2.form
      obtain ⟨qa2, qc102, rfl, -, -⟩ := qr2.form
      unfold BoolEl at pc1 qc1
      go_wp2_with fail
      go_still_tail 8, (by kernel_rfl)
      change wpList _ _ _ _ _ wr.drew
      have hbd : Below w.heap.size w wr.drew := hbel.drew
      replace pr2 := pr2.kept TyIEl.st (Kept.drew wr)
      replace qr2 := qr2.kept TyIEl.st (Kept.drew wr)
      generalize wr.drew = w2 at *
      clear hbel hKr pc0 qc0 pc1 qc1 pc2 qc2
      go_wp2_with fail
      refine (eqCon _ _ _ _ pr2 qr2).mono ?_
      rintro e w' ⟨rfl, hb1⟩
      go_wp2
      go_roundw
      case rel => exact ⟨j + 1, by go_num, by omega, hbd.trans (hb1.mono hbd.size)⟩
      case measure => simp [intOf]; omega
    · go_wp2
      go_ret
      exact ⟨rfl, hbel⟩
theorem eqType (x : Tp) (v2 u2 : Value) (w : World) (ra2 : RowRd 3 CnEl w v2 x.cons) (rb2 : RowRd 3 CnEl w u2 x.cons) :
    Calls Tryz.prog 33 #[.agg #[.string x.name, .int .i64 x.params, v2], .agg #[.string x.name, .int .i64 x.params, u2]] w fun e w' => e = .returned (.bool true) ∧ Below w.heap.size w w' := by
  obtain ⟨a2, ca2, rfl, -, -⟩ := ra2.form
  obtain ⟨b2, cb2, rfl, -, -⟩ := rb2.form
  go_enter Tryz.func33, Tryz.ntmps33
  go_wp2_with fail
  refine (eqConS _ _ _ _ (ra2.kept CnEl.st (Kept.al2 _ _ _)) (rb2.kept CnEl.st (Kept.al2 _ _ _))).mono ?_
  rintro e w1 ⟨rfl, hb1⟩
  go_wp2
  go_ret
  exact ⟨rfl, below_tr (Joins.below_alloc2 w _ _) hb1⟩
theorem eqTypeS (l : List Tp) (v v' : Value) (w : World) (ha : RowRd 3 TpEl w v l) (hb : RowRd 3 TpEl w v' l) :
    Calls Tryz.prog 20 #[v, v'] w fun e w' => e = .returned (.bool true) ∧ Below w.heap.size w w' := by
  obtain ⟨a, cap, rfl, hm, ha⟩ := ha.form
  obtain ⟨b, cap', rfl, _, hb⟩ := hb.form
  unfold maxLen at hm
  go_enter Tryz.func20, Tryz.ntmps20
  go_wp2
  go_loopw [5] (fun i wr => ∃ j : Nat, i = .int .i64 j ∧ j ≤ l.length ∧ Below w.heap.size w wr) (fun i _ => l.length - (intOf i).toNat)
  case atStart => exact ⟨0, rfl, Nat.zero_le _, Below.refl _ _⟩
  case round =>
    obtain ⟨j, rfl, hj, hbel⟩ := hrel
    by_cases hlt : j < l.length
    · obtain ⟨ba, oa, rfl, hba, hca⟩ := ha (by omega)
      obtain ⟨bb, ob, rfl, hbb, hcb⟩ := hb (by omega)
      have hKr := Kept.of_below hbel
      have ea := TpEl.st w wr ba _ _ hKr hba (hca j hlt)
      have eb := TpEl.st w wr bb _ _ hKr hbb (hcb j hlt)
      clear hca hcb ha hb
      generalize l[j] = x at *
      obtain ⟨⟨pc0, pi0⟩, ⟨pc1, pi1⟩, ⟨pv2, pc2, pr2⟩⟩ := ea
      obtain ⟨⟨qc0, qi0⟩, ⟨qc1, qi1⟩, ⟨qv2, qc2, qr2⟩⟩ := eb
      obtain ⟨pa2, pc102, rfl, -, -⟩ := pr2.form
      obtain ⟨qa2, qc102, rfl, -, -⟩ := qr2.form
      go_wp2_with fail
      go_still_tail 8, (by kernel_rfl)
      change wpList _ _ _ _ _ wr.drew
      have hbd : Below w.heap.size w wr.drew := hbel.drew
      replace pr2 := pr2.kept CnEl.st (Kept.drew wr)
      replace qr2 := qr2.kept CnEl.st (Kept.drew wr)
      generalize wr.drew = w2 at *
      clear hbel hKr pc0 qc0 pc1 qc1 pc2 qc2
      go_wp2_with fail
      refine (eqType _ _ _ _ pr2 qr2).mono ?_
      rintro e w' ⟨rfl, hb1⟩
      go_wp2
      go_roundw
      case rel => exact ⟨j + 1, by go_num, by omega, hbd.trans (hb1.mono hbd.size)⟩
      case measure => simp [intOf]; omega
    · go_wp2
      go_ret
      exact ⟨rfl, hbel⟩
theorem eqNode (x : Nd) (v4 u4 : Value) (v5 u5 : Value) (w : World) (ra4 : RowRd 1 IntEl w v4 x.kids) (rb4 : RowRd 1 IntEl w u4 x.kids) (ra5 : RowRd 1 PatEl w v5 x.pats) (rb5 : RowRd 1 PatEl w u5 x.pats) :
    Calls Tryz.prog 34 #[.agg #[.int .i64 x.kind, .int .i64 x.at_, .int .i64 x.n, .string x.s, v4, v5], .agg #[.int .i64 x.kind, .int .i64 x.at_, .int .i64 x.n, .string x.s, u4, u5]] w fun e w' => e = .returned (.bool true) ∧ Below w.heap.size w w' := by
  obtain ⟨a4, ca4, rfl, -, -⟩ := ra4.form
  obtain ⟨b4, cb4, rfl, -, -⟩ := rb4.form
  obtain ⟨a5, ca5, rfl, -, -⟩ := ra5.form
  obtain ⟨b5, cb5, rfl, -, -⟩ := rb5.form
  go_enter Tryz.func34, Tryz.ntmps34
  go_wp2_with fail
  refine (eqIntS _ _ _ _ (ra4.kept IntEl.st (Kept.al2 _ _ _)) (rb4.kept IntEl.st (Kept.al2 _ _ _))).mono ?_
  rintro e w1 ⟨rfl, hb1⟩
  obtain ⟨hc1, hf1⟩ := bcell hb1
  go_wp2_with fail
  refine (eqPatS _ _ _ _ (ra5.kept PatEl.st ((Kept.al2 _ _ _).trans (Kept.of_below hb1))) (rb5.kept PatEl.st ((Kept.al2 _ _ _).trans (Kept.of_below hb1)))).mono ?_
  rintro e w2 ⟨rfl, hb2⟩
  go_wp2
  go_ret
  exact ⟨rfl, below_tr (below_tr (Joins.below_alloc2 w _ _) hb1) hb2⟩
theorem eqNodeS (l : List Nd) (v v' : Value) (w : World) (ha : RowRd 6 NdEl w v l) (hb : RowRd 6 NdEl w v' l) :
    Calls Tryz.prog 21 #[v, v'] w fun e w' => e = .returned (.bool true) ∧ Below w.heap.size w w' := by
  obtain ⟨a, cap, rfl, hm, ha⟩ := ha.form
  obtain ⟨b, cap', rfl, _, hb⟩ := hb.form
  unfold maxLen at hm
  go_enter Tryz.func21, Tryz.ntmps21
  go_wp2
  go_loopw [5] (fun i wr => ∃ j : Nat, i = .int .i64 j ∧ j ≤ l.length ∧ Below w.heap.size w wr) (fun i _ => l.length - (intOf i).toNat)
  case atStart => exact ⟨0, rfl, Nat.zero_le _, Below.refl _ _⟩
  case round =>
    obtain ⟨j, rfl, hj, hbel⟩ := hrel
    by_cases hlt : j < l.length
    · obtain ⟨ba, oa, rfl, hba, hca⟩ := ha (by omega)
      obtain ⟨bb, ob, rfl, hbb, hcb⟩ := hb (by omega)
      have hKr := Kept.of_below hbel
      have ea := NdEl.st w wr ba _ _ hKr hba (hca j hlt)
      have eb := NdEl.st w wr bb _ _ hKr hbb (hcb j hlt)
      clear hca hcb ha hb
      generalize l[j] = x at *
      obtain ⟨⟨pc0, pi0⟩, ⟨pc1, pi1⟩, ⟨pc2, pi2⟩, ⟨pc3, pi3⟩, ⟨pv4, pc4, pr4⟩, ⟨pv5, pc5, pr5⟩⟩ := ea
      obtain ⟨⟨qc0, qi0⟩, ⟨qc1, qi1⟩, ⟨qc2, qi2⟩, ⟨qc3, qi3⟩, ⟨qv4, qc4, qr4⟩, ⟨qv5, qc5, qr5⟩⟩ := eb
      obtain ⟨pa4, pc104, rfl, -, -⟩ := pr4.form
      obtain ⟨qa4, qc104, rfl, -, -⟩ := qr4.form
      obtain ⟨pa5, pc105, rfl, -, -⟩ := pr5.form
      obtain ⟨qa5, qc105, rfl, -, -⟩ := qr5.form
      go_wp2_with fail
      go_still_tail 8, (by kernel_rfl)
      change wpList _ _ _ _ _ wr.drew
      have hbd : Below w.heap.size w wr.drew := hbel.drew
      replace pr4 := pr4.kept IntEl.st (Kept.drew wr)
      replace qr4 := qr4.kept IntEl.st (Kept.drew wr)
      replace pr5 := pr5.kept PatEl.st (Kept.drew wr)
      replace qr5 := qr5.kept PatEl.st (Kept.drew wr)
      generalize wr.drew = w2 at *
      clear hbel hKr pc0 qc0 pc1 qc1 pc2 qc2 pc3 qc3 pc4 qc4 pc5 qc5
      go_wp2_with fail
      refine (eqNode _ _ _ _ _ _ pr4 qr4 pr5 qr5).mono ?_
      rintro e w' ⟨rfl, hb1⟩
      go_wp2
      go_roundw
      case rel => exact ⟨j + 1, by go_num, by omega, hbd.trans (hb1.mono hbd.size)⟩
      case measure => simp [intOf]; omega
    · go_wp2
      go_ret
      exact ⟨rfl, hbel⟩
theorem eqProgram (x : Pg) (v0 u0 : Value) (v1 u1 : Value) (w : World) (ra0 : RowRd 3 TpEl w v0 x.types) (rb0 : RowRd 3 TpEl w u0 x.types) (ra1 : RowRd 6 NdEl w v1 x.nodes) (rb1 : RowRd 6 NdEl w u1 x.nodes) :
    Calls Tryz.prog 9 #[.agg #[v0, v1], .agg #[u0, u1]] w fun e w' => e = .returned (.bool true) ∧ Below w.heap.size w w' := by
  obtain ⟨a0, ca0, rfl, -, -⟩ := ra0.form
  obtain ⟨b0, cb0, rfl, -, -⟩ := rb0.form
  obtain ⟨a1, ca1, rfl, -, -⟩ := ra1.form
  obtain ⟨b1, cb1, rfl, -, -⟩ := rb1.form
  go_enter Tryz.func9, Tryz.ntmps9
  go_wp2_with fail
  refine (eqTypeS _ _ _ _ (ra0.kept TpEl.st (Kept.al2 _ _ _)) (rb0.kept TpEl.st (Kept.al2 _ _ _))).mono ?_
  rintro e w1 ⟨rfl, hb1⟩
  obtain ⟨hc1, hf1⟩ := bcell hb1
  go_wp2_with fail
  refine (eqNodeS _ _ _ _ (ra1.kept NdEl.st ((Kept.al2 _ _ _).trans (Kept.of_below hb1))) (rb1.kept NdEl.st ((Kept.al2 _ _ _).trans (Kept.of_below hb1)))).mono ?_
  rintro e w2 ⟨rfl, hb2⟩
  go_wp2
  go_ret
  exact ⟨rfl, below_tr (below_tr (Joins.below_alloc2 w _ _) hb1) hb2⟩
end Go.Proofs.YtilincaedjhnpaaGreat
