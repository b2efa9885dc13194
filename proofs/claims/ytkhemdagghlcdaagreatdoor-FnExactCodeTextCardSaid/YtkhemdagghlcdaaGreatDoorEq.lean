/- The law's comparisons, at equal data, by program (tools/gendeep.py). -/
import Derived.Test.YtkhemdagghlcdaaGreatDoorData
import Derived.Test.YtkhemdagghlcdaaGreatDoorRows
import Derived.WalkKit
import Derived.WalkSmall
import Derived.ProofKit
import Derived.OpenShut
import Derived.Lib.Hide
import Derived.Lib.SmallJoins
import Derived.StillTailTactics
import Derived.Deep.QuietTactic
import Derived.BigQuiet
import Derived.Outline
namespace Go.Proofs.YtkhemdagghlcdaaGreatDoor
set_option linter.unusedVariables false
set_option maxRecDepth 100000
open Go.ChangeShapes Go.WideShapes Go.ChangeAt Go.RowKit
theorem eqIntS (l : List Int) (v v' : Value) (w : World) (ha : RowRd 1 IntEl w v l) (hb : RowRd 1 IntEl w v' l) :
    Calls Tryz.prog 112 #[v, v'] w fun e w' => e = .returned (.bool true) ∧ Below w.heap.size w w' := by
  obtain ⟨a, cap, rfl, hm, ha⟩ := ha.form
  obtain ⟨b, cap', rfl, _, hb⟩ := hb.form
  unfold maxLen at hm
  go_enter Tryz.func112, Tryz.ntmps112
  go_wp2
  go_loopw [5] (fun i wr => ∃ j : Nat, i = .int .i64 j ∧ j ≤ l.length ∧ Below w.heap.size w wr) (fun i _ => l.length - (intOf i).toNat)
  case atStart => exact ⟨0, rfl, Nat.zero_le _, Below.refl _ _⟩
  case round =>
    obtain ⟨j, rfl, hj, hbel⟩ := hrel
    by_cases hlt : j < l.length
    · obtain ⟨ba, oa, rfl, hba, hca⟩ := ha (by omega)
      obtain ⟨bb, ob, rfl, hbb, hcb⟩ := hb (by omega)
      have hKr := Kept.of_below hbel
      have ea := IntEl.st w wr ba _ _ hKr hba (hca j hlt)
      have eb := IntEl.st w wr bb _ _ hKr hbb (hcb j hlt)
      clear hca hcb ha hb
      generalize l[j] = x at *
      obtain ⟨a0, ia⟩ := ea
      obtain ⟨b0, ib⟩ := eb
      rw [Nat.mul_one] at a0 b0
      go_wp2_with fail
      go_quiet (fail)
      go_wp2
      go_roundw
      case rel => exact ⟨j + 1, by go_num, by omega, below_drewN hbel _⟩
      case measure => simp [intOf]; omega
    · go_wp2
      go_ret
      exact ⟨rfl, hbel⟩
theorem eqPNode (x : PN) (v3 u3 : Value) (w : World) (ra3 : RowRd 1 IntEl w v3 x.kids) (rb3 : RowRd 1 IntEl w u3 x.kids) :
    Calls Tryz.prog 96 #[.agg #[.int .i64 x.kind, .int .i64 x.n, .string x.s, v3], .agg #[.int .i64 x.kind, .int .i64 x.n, .string x.s, u3]] w fun e w' => e = .returned (.bool true) ∧ Below w.heap.size w w' := by
  obtain ⟨a3, ca3, rfl, -, -⟩ := ra3.form
  obtain ⟨b3, cb3, rfl, -, -⟩ := rb3.form
  go_enter Tryz.func96, Tryz.ntmps96
  go_wp2_with fail
  refine (eqIntS _ _ _ _ (ra3.kept IntEl.st (Kept.al2 _ _ _)) (rb3.kept IntEl.st (Kept.al2 _ _ _))).mono ?_
  rintro e w1 ⟨rfl, hb1⟩
  go_wp2
  go_ret
  exact ⟨rfl, below_tr (Joins.below_alloc2 w _ _) hb1⟩
theorem eqPNodeS (l : List PN) (v v' : Value) (w : World) (ha : RowRd 4 PNEl w v l) (hb : RowRd 4 PNEl w v' l) :
    Calls Tryz.prog 75 #[v, v'] w fun e w' => e = .returned (.bool true) ∧ Below w.heap.size w w' := by
  obtain ⟨a, cap, rfl, hm, ha⟩ := ha.form
  obtain ⟨b, cap', rfl, _, hb⟩ := hb.form
  unfold maxLen at hm
  go_enter Tryz.func75, Tryz.ntmps75
  go_wp2
  go_loopw [5] (fun i wr => ∃ j : Nat, i = .int .i64 j ∧ j ≤ l.length ∧ Below w.heap.size w wr) (fun i _ => l.length - (intOf i).toNat)
  case atStart => exact ⟨0, rfl, Nat.zero_le _, Below.refl _ _⟩
  case round =>
    obtain ⟨j, rfl, hj, hbel⟩ := hrel
    by_cases hlt : j < l.length
    · obtain ⟨ba, oa, rfl, hba, hca⟩ := ha (by omega)
      obtain ⟨bb, ob, rfl, hbb, hcb⟩ := hb (by omega)
      have hKr := Kept.of_below hbel
      have ea := PNEl.st w wr ba _ _ hKr hba (hca j hlt)
      have eb := PNEl.st w wr bb _ _ hKr hbb (hcb j hlt)
      clear hca hcb ha hb
      generalize l[j] = x at *
      obtain ⟨⟨pc0, pi0⟩, ⟨pc1, pi1⟩, ⟨pc2, pi2⟩, ⟨pv3, pc3, pr3⟩⟩ := ea
      obtain ⟨⟨qc0, qi0⟩, ⟨qc1, qi1⟩, ⟨qc2, qi2⟩, ⟨qv3, qc3, qr3⟩⟩ := eb
      obtain ⟨pa3, pc103, rfl, -, -⟩ := pr3.form
      obtain ⟨qa3, qc103, rfl, -, -⟩ := qr3.form
      go_wp2_with fail
      go_still_tail 8, (by kernel_rfl)
      change wpList _ _ _ _ _ wr.drew
      have hbd : Below w.heap.size w wr.drew := hbel.drew
      replace pr3 := pr3.kept IntEl.st (Kept.drew wr)
      replace qr3 := qr3.kept IntEl.st (Kept.drew wr)
      generalize wr.drew = w2 at *
      clear hbel hKr pc0 qc0 pc1 qc1 pc2 qc2 pc3 qc3
      go_wp2_with fail
      refine (eqPNode _ _ _ _ pr3 qr3).mono ?_
      rintro e w' ⟨rfl, hb1⟩
      go_wp2
      go_roundw
      case rel => exact ⟨j + 1, by go_num, by omega, hbd.trans (hb1.mono hbd.size)⟩
      case measure => simp [intOf]; omega
    · go_wp2
      go_ret
      exact ⟨rfl, hbel⟩
theorem eqPat (x : List PN) (v0 u0 : Value) (w : World) (ra0 : RowRd 4 PNEl w v0 x) (rb0 : RowRd 4 PNEl w u0 x) :
    Calls Tryz.prog 47 #[.agg #[v0], .agg #[u0]] w fun e w' => e = .returned (.bool true) ∧ Below w.heap.size w w' := by
  obtain ⟨a0, ca0, rfl, -, -⟩ := ra0.form
  obtain ⟨b0, cb0, rfl, -, -⟩ := rb0.form
  go_enter Tryz.func47, Tryz.ntmps47
  go_wp2_with fail
  refine (eqPNodeS _ _ _ _ (ra0.kept PNEl.st (Kept.al2 _ _ _)) (rb0.kept PNEl.st (Kept.al2 _ _ _))).mono ?_
  rintro e w1 ⟨rfl, hb1⟩
  go_wp2
  go_ret
  exact ⟨rfl, below_tr (Joins.below_alloc2 w _ _) hb1⟩
theorem eqPatS (l : List (List PN)) (v v' : Value) (w : World) (ha : RowRd 1 PatEl w v l) (hb : RowRd 1 PatEl w v' l) :
    Calls Tryz.prog 23 #[v, v'] w fun e w' => e = .returned (.bool true) ∧ Below w.heap.size w w' := by
  obtain ⟨a, cap, rfl, hm, ha⟩ := ha.form
  obtain ⟨b, cap', rfl, _, hb⟩ := hb.form
  unfold maxLen at hm
  go_enter Tryz.func23, Tryz.ntmps23
  go_wp2
  go_loopw [5] (fun i wr => ∃ j : Nat, i = .int .i64 j ∧ j ≤ l.length ∧ Below w.heap.size w wr) (fun i _ => l.length - (intOf i).toNat)
  case atStart => exact ⟨0, rfl, Nat.zero_le _, Below.refl _ _⟩
  case round =>
    obtain ⟨j, rfl, hj, hbel⟩ := hrel
    by_cases hlt : j < l.length
    · obtain ⟨ba, oa, rfl, hba, hca⟩ := ha (by omega)
      obtain ⟨bb, ob, rfl, hbb, hcb⟩ := hb (by omega)
      have hKr := Kept.of_below hbel
      have ea := PatEl.st w wr ba _ _ hKr hba (hca j hlt)
      have eb := PatEl.st w wr bb _ _ hKr hbb (hcb j hlt)
      clear hca hcb ha hb
      generalize l[j] = x at *
      obtain ⟨pv0, pc0, pr0⟩ := ea
      obtain ⟨qv0, qc0, qr0⟩ := eb
      obtain ⟨pa0, pc100, rfl, -, -⟩ := pr0.form
      obtain ⟨qa0, qc100, rfl, -, -⟩ := qr0.form
      rw [Nat.mul_one] at pc0 qc0
      go_wp2_with fail
      go_still_tail 8, (by kernel_rfl)
      change wpList _ _ _ _ _ wr.drew
      have hbd : Below w.heap.size w wr.drew := hbel.drew
      replace pr0 := pr0.kept PNEl.st (Kept.drew wr)
      replace qr0 := qr0.kept PNEl.st (Kept.drew wr)
      generalize wr.drew = w2 at *
      clear hbel hKr pc0 qc0
      go_wp2_with fail
      refine (eqPat _ _ _ _ pr0 qr0).mono ?_
      rintro e w' ⟨rfl, hb1⟩
      go_wp2
      go_roundw
      case rel => exact ⟨j + 1, by go_num, by omega, hbd.trans (hb1.mono hbd.size)⟩
      case measure => simp [intOf]; omega
    · go_wp2
      go_ret
      exact ⟨rfl, hbel⟩
theorem eqIns (x : Ins_) (w : World) :
    Calls Tryz.prog 46 #[.agg #[.int .i64 x.op, .int .i64 x.a, .int .i64 x.b, .string x.s], .agg #[.int .i64 x.op, .int .i64 x.a, .int .i64 x.b, .string x.s]] w fun e w' => e = .returned (.bool true) ∧ Below w.heap.size w w' := by
  go_enter Tryz.func46, Tryz.ntmps46
  go_wp2
  go_ret
  exact ⟨rfl, Joins.below_alloc2 w _ _⟩
theorem eqInsS (l : List Ins_) (v v' : Value) (w : World) (ha : RowRd 4 InsEl w v l) (hb : RowRd 4 InsEl w v' l) :
    Calls Tryz.prog 22 #[v, v'] w fun e w' => e = .returned (.bool true) ∧ Below w.heap.size w w' := by
  obtain ⟨a, cap, rfl, hm, ha⟩ := ha.form
  obtain ⟨b, cap', rfl, _, hb⟩ := hb.form
  unfold maxLen at hm
  go_enter Tryz.func22, Tryz.ntmps22
  go_wp2
  go_loopw [5] (fun i wr => ∃ j : Nat, i = .int .i64 j ∧ j ≤ l.length ∧ Below w.heap.size w wr) (fun i _ => l.length - (intOf i).toNat)
  case atStart => exact ⟨0, rfl, Nat.zero_le _, Below.refl _ _⟩
  case round =>
    obtain ⟨j, rfl, hj, hbel⟩ := hrel
    by_cases hlt : j < l.length
    · obtain ⟨ba, oa, rfl, hba, hca⟩ := ha (by omega)
      obtain ⟨bb, ob, rfl, hbb, hcb⟩ := hb (by omega)
      have hKr := Kept.of_below hbel
      have ea := InsEl.st w wr ba _ _ hKr hba (hca j hlt)
      have eb := InsEl.st w wr bb _ _ hKr hbb (hcb j hlt)
      clear hca hcb ha hb
      generalize l[j] = x at *
      obtain ⟨⟨pc0, pi0⟩, ⟨pc1, pi1⟩, ⟨pc2, pi2⟩, ⟨pc3, pi3⟩⟩ := ea
      obtain ⟨⟨qc0, qi0⟩, ⟨qc1, qi1⟩, ⟨qc2, qi2⟩, ⟨qc3, qi3⟩⟩ := eb
      go_wp2_with fail
      go_still_tail 8, (by kernel_rfl)
      change wpList _ _ _ _ _ wr.drew
      have hbd : Below w.heap.size w wr.drew := hbel.drew
      generalize wr.drew = w2 at *
      clear hbel hKr pc0 qc0 pc1 qc1 pc2 qc2 pc3 qc3
      go_wp2_with fail
      refine (eqIns _ _).mono ?_
      rintro e w' ⟨rfl, hb1⟩
      go_wp2
      go_roundw
      case rel => exact ⟨j + 1, by go_num, by omega, hbd.trans (hb1.mono hbd.size)⟩
      case measure => simp [intOf]; omega
    · go_wp2
      go_ret
      exact ⟨rfl, hbel⟩
theorem eqCode (x : Cd) (v0 u0 : Value) (v1 u1 : Value) (w : World) (ra0 : RowRd 4 InsEl w v0 x.ins) (rb0 : RowRd 4 InsEl w u0 x.ins) (ra1 : RowRd 1 PatEl w v1 x.pats) (rb1 : RowRd 1 PatEl w u1 x.pats) :
    Calls Tryz.prog 8 #[.agg #[v0, v1], .agg #[u0, u1]] w fun e w' => e = .returned (.bool true) ∧ Below w.heap.size w w' := by
  obtain ⟨a0, ca0, rfl, -, -⟩ := ra0.form
  obtain ⟨b0, cb0, rfl, -, -⟩ := rb0.form
  obtain ⟨a1, ca1, rfl, -, -⟩ := ra1.form
  obtain ⟨b1, cb1, rfl, -, -⟩ := rb1.form
  go_enter Tryz.func8, Tryz.ntmps8
  go_wp2_with fail
  refine (eqInsS _ _ _ _ (ra0.kept InsEl.st (Kept.al2 _ _ _)) (rb0.kept InsEl.st (Kept.al2 _ _ _))).mono ?_
  rintro e w1 ⟨rfl, hb1⟩
  obtain ⟨hc1, hf1⟩ := bcell hb1
  go_wp2_with fail
  refine (eqPatS _ _ _ _ (ra1.kept PatEl.st ((Kept.al2 _ _ _).trans (Kept.of_below hb1))) (rb1.kept PatEl.st ((Kept.al2 _ _ _).trans (Kept.of_below hb1)))).mono ?_
  rintro e w2 ⟨rfl, hb2⟩
  go_wp2
  go_ret
  exact ⟨rfl, below_tr (below_tr (Joins.below_alloc2 w _ _) hb1) hb2⟩
end Go.Proofs.YtkhemdagghlcdaaGreatDoor
