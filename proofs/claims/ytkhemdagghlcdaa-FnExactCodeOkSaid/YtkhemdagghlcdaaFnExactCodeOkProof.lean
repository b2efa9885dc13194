/- The law FnExactCodeOk of this commit's code returns true for every input and leaves its arguments as they were: no conditions. -/
/-
  THE SHELL OF A PROOF OF 'Rows.FnExactCodeOkSaid' ('loop.example/g00395/laws.FnExactCodeOk'), for parameters of whatever type.
-/
import Derived.Test.YtkhemdagghlcdaaRows
import Derived.Test.YtkhemdagghlcdaaArgs
import Derived.Test.YtkhemdagghlcdaaSz
import Derived.Test.YtkhemdagghlcdaaTo
import Derived.Test.YtkhemdagghlcdaaEq
import Derived.Test.YtkhemdagghlcdaaCdT
import Derived.Test.YtkhemdagghlcdaaCdK
import Derived.Deep.RegionHeld3
import Derived.WalkKit
import Derived.ProofKit
import Derived.OpenShut
import Derived.ShutString
import Derived.ChangeOld
import Derived.Below
namespace Go.Proofs.Ytkhemdagghlcdaa.fnExactCodeOk
open Go.ChangeShapes Go.WideShapes Go.ChangeAt Go.RowKit
open Go.ChangeMaps (open_string shut_string)
set_option linter.unusedVariables false

theorem own : ownKnob Try.prog.godebug = none := by kernel_rfl
theorem laidOut : laidOutB Try.prog = true := by kernel_rfl

/-! ### STEP 1: THE WALK -/
set_option maxHeartbeats 1000000 in
set_option maxRecDepth 100000 in
theorem walk (v0 : Value) (w : World) (w0 : ArgIn Try.prog 25 w v0) :
    Calls Try.prog 3 #[v0] w fun e w' => e = .returned (.bool true) ∧ Below w.heap.size w w' := by
  obtain ⟨x, v0, v1, rfl, r0, r1⟩ := open_Code w0
  have s0 := r0
  have s1 := r1
  obtain ⟨a0, ca0, a_e0, -, -⟩ := (r0).form
  subst a_e0
  obtain ⟨a1, ca1, a_e1, -, -⟩ := (r1).form
  subst a_e1
  go_enter Try.func3, Try.ntmps3
  go_wp2_with fail
  refine (szCode x _ _ 1048576 _ (by omega) (s0.kept InsEl.st (Kept.alloc _ _)) (s1.kept PatEl.st (Kept.alloc _ _))).mono ?_
  rintro e w1 ⟨hb1, ⟨rfl, _⟩ | ⟨q, rfl, hq⟩⟩
  · go_wp2
    go_ret
    exact ⟨rfl, below_tr (Joins.below_alloc1 w _) hb1⟩
  have hzb : bCd x ≤ 1048576 := by omega
  obtain ⟨hc1, hf1⟩ := bcell hb1
  have K1 : Kept w w1 := (Kept.alloc _ _).trans (Kept.of_below hb1)
  have B1 : Below w.heap.size w w1 := below_tr (Joins.below_alloc1 w _) hb1
  have c1_0 : w1.cell? ⟨w.heap.size, 0, none⟩ = some (.slice a0 x.ins.length ca0) := by rw [hc1 _ _ (by simp)]; simp
  have c1_1 : w1.cell? ⟨w.heap.size, 1, none⟩ = some (.slice a1 x.pats.length ca1) := by rw [hc1 _ _ (by simp)]; simp
  have hs1 : w.heap.size < w1.heap.size := by have := hb1.size; simp at this; omega
  clear hc1 hf1 hb1 hq
  go_wp2_with fail
  refine (toCode x _ _ _ (s0.kept InsEl.st K1) (s1.kept PatEl.st K1) hzb).mono ?_
  rintro e w2 ⟨up0, up1, Fp0, Fp1, rfl, rop0, rop1, -, -, hb2⟩
  have tp0 := rop0.reads InsOwn.reads
  have tp1 := rop1.reads PatOwn.reads
  obtain ⟨ap0, cp0, ap_e0, -, -⟩ := (tp0).form
  subst ap_e0
  obtain ⟨ap1, cp1, ap_e1, -, -⟩ := (tp1).form
  subst ap_e1
  have c2_0 := (hb2.cell (p := ⟨w.heap.size, 0, none⟩) hs1).trans c1_0
  have c2_1 := (hb2.cell (p := ⟨w.heap.size, 1, none⟩) hs1).trans c1_1
  have hs2 := Nat.lt_of_lt_of_le hs1 hb2.size
  have K2 := K1.trans (Kept.of_below hb2)
  have B2 := below_tr B1 hb2 (by omega)
  clear c1_0 c1_1
  clear rop0 rop1
  go_wp2_with fail
  refine (sCodeOkC x _ _ _ tp0 tp1 hzb).mono ?_
  rintro e w3 ⟨rfl, hb3⟩
  have c3_0 := (hb3.cell (p := ⟨w.heap.size, 0, none⟩) hs2).trans c2_0
  have c3_1 := (hb3.cell (p := ⟨w.heap.size, 1, none⟩) hs2).trans c2_1
  have hs3 := Nat.lt_of_lt_of_le hs2 hb3.size
  have K3 := K2.trans (Kept.of_below hb3)
  have B3 := below_tr B2 hb3 (by omega)
  clear c2_0 c2_1
  clear tp0 tp1
  go_wp2_with fail
  refine (toCode x _ _ _ (s0.kept InsEl.st K3) (s1.kept PatEl.st K3) hzb).mono ?_
  rintro e w4 ⟨uq0, uq1, Fq0, Fq1, rfl, roq0, roq1, -, -, hb4⟩
  have tq0 := roq0.reads InsOwn.reads
  have tq1 := roq1.reads PatOwn.reads
  obtain ⟨aq0, cq0, aq_e0, -, -⟩ := (tq0).form
  subst aq_e0
  obtain ⟨aq1, cq1, aq_e1, -, -⟩ := (tq1).form
  subst aq_e1
  have c4_0 := (hb4.cell (p := ⟨w.heap.size, 0, none⟩) hs3).trans c3_0
  have c4_1 := (hb4.cell (p := ⟨w.heap.size, 1, none⟩) hs3).trans c3_1
  have hs4 := Nat.lt_of_lt_of_le hs3 hb4.size
  have K4 := K3.trans (Kept.of_below hb4)
  have B4 := below_tr B3 hb4 (by omega)
  clear c3_0 c3_1
  clear roq0 roq1
  go_wp2_with fail
  refine (iCodeOkC x _ _ _ (tq0.kept InsEl.st (Kept.alloc _ _)) (tq1.kept PatEl.st (Kept.alloc _ _)) hzb).mono ?_
  rintro e w5 ⟨rfl, hb5⟩
  have hb5q : Below w4.heap.size w4 w5 := below_tr (Joins.below_alloc1 w4 _) hb5
  have c5_0 := (hb5q.cell (p := ⟨w.heap.size, 0, none⟩) hs4).trans c4_0
  have c5_1 := (hb5q.cell (p := ⟨w.heap.size, 1, none⟩) hs4).trans c4_1
  have hs5 := Nat.lt_of_lt_of_le hs4 hb5q.size
  have K5 := K4.trans (Kept.of_below hb5q)
  have B5 := below_tr B4 hb5q (by omega)
  clear c4_0 c4_1
  have x5_0 : w5.cell? ⟨w4.heap.size, 0, none⟩ = some (.slice aq0 x.ins.length cq0) := by rw [hb5.cell (p := ⟨w4.heap.size, 0, none⟩) (by simp)]; simp
  have x5_1 : w5.cell? ⟨w4.heap.size, 1, none⟩ = some (.slice aq1 x.pats.length cq1) := by rw [hb5.cell (p := ⟨w4.heap.size, 1, none⟩) (by simp)]; simp
  have t5_0 := tq0.kept InsEl.st (Kept.of_below hb5q)
  have t5_1 := tq1.kept PatEl.st (Kept.of_below hb5q)
  have hx5 : w4.heap.size < w5.heap.size := by have := hb5.size; simp at this; omega
  clear tq0 tq1 hb5 hb5q hb4 hb3 hb2
  have HT := fun W (hK : Kept w5 W) => Lib.hid (toCode x _ _ W (s0.kept InsEl.st (K5.trans hK)) (s1.kept PatEl.st (K5.trans hK)) hzb)
  go_wp2_with fail
  go_region_held3 (fun w' => w'.cell? ⟨w.heap.size, 0, none⟩ = some (.slice a0 x.ins.length ca0) ∧ w'.cell? ⟨w.heap.size, 1, none⟩ = some (.slice a1 x.pats.length ca1) ∧ w'.cell? ⟨w4.heap.size, 0, none⟩ = some (.slice aq0 x.ins.length cq0) ∧ w'.cell? ⟨w4.heap.size, 1, none⟩ = some (.slice aq1 x.pats.length cq1) ∧ Kept w5 w') (first | (exact ⟨c5_0, c5_1, x5_0, x5_1, Kept.refl _⟩) | (exact ⟨c5_0, c5_1, x5_0, x5_1, Kept.drew _⟩) | (exact ⟨(hb6.cell (p := ⟨w.heap.size, 0, none⟩) hs5).trans c5_0, (hb6.cell (p := ⟨w.heap.size, 1, none⟩) hs5).trans c5_1, (hb6.cell (p := ⟨w4.heap.size, 0, none⟩) hx5).trans x5_0, (hb6.cell (p := ⟨w4.heap.size, 1, none⟩) hx5).trans x5_1, (Kept.drew _).trans (Kept.of_below hb6)⟩) | (exact ⟨(hb7.cell (p := ⟨w.heap.size, 0, none⟩) (Nat.lt_of_lt_of_le hs5 hb6.size)).trans ((hb6.cell (p := ⟨w.heap.size, 0, none⟩) hs5).trans c5_0), (hb7.cell (p := ⟨w.heap.size, 1, none⟩) (Nat.lt_of_lt_of_le hs5 hb6.size)).trans ((hb6.cell (p := ⟨w.heap.size, 1, none⟩) hs5).trans c5_1), (hb7.cell (p := ⟨w4.heap.size, 0, none⟩) (Nat.lt_of_lt_of_le hx5 hb6.size)).trans ((hb6.cell (p := ⟨w4.heap.size, 0, none⟩) hx5).trans x5_0), (hb7.cell (p := ⟨w4.heap.size, 1, none⟩) (Nat.lt_of_lt_of_le hx5 hb6.size)).trans ((hb6.cell (p := ⟨w4.heap.size, 1, none⟩) hx5).trans x5_1), ((Kept.drew _).trans (Kept.of_below hb6)).trans (Kept.of_below hb7)⟩)) (first | (go_at_call 6; refine (HT _ (by first | exact Kept.drew _ | exact Kept.refl _)).out.mono ?_; rintro e w6 ⟨uz0, uz1, Fz0, Fz1, rfl, roz0, roz1, _, _, hb6⟩; obtain ⟨az0, cz0, ez0, _, _⟩ := (roz0.reads InsOwn.reads).form; subst ez0; obtain ⟨az1, cz1, ez1, _, _⟩ := (roz1.reads PatOwn.reads).form; subst ez1) | (go_at_call 8; refine (eqCode x _ _ _ _ _ (t5_0.kept InsEl.st ((Kept.drew _).trans (Kept.of_below hb6))) (roz0.reads InsOwn.reads) (t5_1.kept PatEl.st ((Kept.drew _).trans (Kept.of_below hb6))) (roz1.reads PatOwn.reads)).mono ?_; rintro e w7 ⟨rfl, hb7⟩))
  go_wp2
  go_ret
  exact ⟨rfl, B5.drew.trans ((hb6.trans (hb7.mono hb6.size)).mono B5.size)⟩

/-! ### THE ROW's STEP: WRITTEN OUT: LEAVE IT -/
set_option maxRecDepth 100000 in
theorem lifted (os : Os) (started : os.Started) (H : Type) (enc : TypeId × Value → H) :
    ReturnsInHanded {} Try.checked os 3 .any (Rows.fnExactCodeOkSpec.pre6 enc Try.prog Try.f3 Rows.fnExactCodeOkRow.domain false) (Rows.fnExactCodeOkSpec.post enc Try.prog Try.f3 false true false false) := by
  refine returnsInHanded_of_change (C := Try.checked) own started (by kernel_rfl) Try.func3
    (ChangeSpec.witness6 (enc := enc) (C := Try.checked) false ⟨#[], #[.agg #[.slice none 0 0, .slice none 0 0]], []⟩ 8 (by kernel_rfl) (by kernel_rfl) (by kernel_rfl) (by kernel_rfl)) ?_
  intro W base args ds gs before hval0 hW hcnd _
  have hval : ∀ (j : Nat) t v, Try.f3.params[j]? = some t → args[j]? = some v → Value.okWide Try.prog W .any base t v := hval0
  have hW' := hW
  obtain ⟨p, q, hA0, hV, rfl, hfz, hnd⟩ := hW
  have hA : DataW.TrodAll enc Try.prog W 0 (fun _ => true) true Try.f3.params.toList args.toList ds p := hA0
  rw [Try.params3] at hA hval
  obtain ⟨v0, vs0, d0, ds0, p0, q0, hargs, rfl, rfl, h0, r0⟩ := trodAll_cons hA
  obtain ⟨rfl, rfl, rfl⟩ := trodAll_nil r0
  obtain rfl : args = #[v0] := by cases args; simp_all
  obtain ⟨rfl, rfl⟩ := trodVars_none hV
  have lt0 : ∀ x ∈ p0, x.block < W.heap.size := by have k0 := h0; obtain ⟨m, hm⟩ := k0; exact DataW.trod_lt m _ _ _ hm
  clear hA0 hval0
  refine (walk v0 W ⟨H, enc, base, d0, p0, hval 0 25 v0 rfl rfl, h0⟩).mono fun e W' ⟨he, bel⟩ => ?_
  subst he
  exact ⟨_, rfl, _, _, _, [], _, [], hW', trodAll_mk1 (shut_bool Try.underlying4 _), (trodAll_cons_mk (Below.trod laidOut (by kernel_rfl) (of_decide_eq_true (by kernel_rfl)) h0 bel lt0) trodAll_mk0), rfl, bel.frame _, fun h => by cases h⟩

theorem over : Rows.fnExactCodeOkRow.holds Try.pinned (OpenSpec.ofChange Rows.fnExactCodeOkSpec) :=
  OpenClaim.holds_of_wide 3 Try.f3 rfl rfl rfl rfl rfl rfl rfl ⟨rfl, rfl, rfl, rfl, rfl⟩ rfl rfl rfl rfl rfl (by kernel_rfl) Try.func3 (by kernel_rfl)
    (of_decide_eq_true (by kernel_rfl)) (by unfold Func.isWrapper; first | (rw [if_pos (by decide +kernel)]; kernel_rfl) | (rw [if_neg (by decide +kernel)]; exact ⟨rfl, rfl⟩))
    (fun os started H enc _ => lifted os started H enc)

/-- ████ THE STATEMENT ████ -/
theorem proved : Rows.FnExactCodeOkSaid := over
#print axioms proved
end Go.Proofs.Ytkhemdagghlcdaa.fnExactCodeOk
