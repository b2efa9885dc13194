/- The law FnExactTyPut of this commit's code returns true for every input and leaves its arguments as they were: no conditions. -/
/-
  THE SHELL OF A PROOF OF 'Rows.FnExactTyPutSaid' ('loop.example/g00395/laws.FnExactTyPut'), for parameters of whatever type.
-/
import Derived.Test.YtciohamonmmciaaRows
import Derived.Test.YtciohamonmmciaaArgs
import Derived.Test.YtciohamonmmciaaSz
import Derived.Test.YtciohamonmmciaaTo
import Derived.Test.YtciohamonmmciaaEq
import Derived.Test.YtciohamonmmciaaMark
import Derived.Test.YtciohamonmmciaaHeld
import Derived.Test.YtciohamonmmciaaPutK
import Derived.Test.YtciohamonmmciaaPutU
import Derived.Deep.RegionHeld3
import Derived.WalkKit
import Derived.ProofKit
import Derived.OpenShut
import Derived.ShutString
import Derived.ChangeOld
import Derived.Below
namespace Go.Proofs.Ytciohamonmmciaa.fnExactTyPut
open Go.ChangeShapes Go.WideShapes Go.ChangeAt Go.RowKit
open Go.ChangeMaps (open_string shut_string)
set_option linter.unusedVariables false

theorem own : ownKnob Try.prog.godebug = none := by kernel_rfl
theorem laidOut : laidOutB Try.prog = true := by kernel_rfl

/-! ### STEP 1: THE WALK -/
set_option maxHeartbeats 4000000 in
set_option maxRecDepth 100000 in
theorem walk (v0 : Value) (v1 : Value) (w : World) (w0 : ArgIn Try.prog 24 w v0) (w1 : ArgIn Try.prog 34 w v1) :
    Calls Try.prog 4 #[v0, v1] w fun e w' => e = .returned (.bool true) ∧ Below w.heap.size w w' := by
  obtain ⟨x1, v1_0, rfl, r1_0⟩ := open_Ty w0
  have s1_0 := r1_0
  obtain ⟨a1_0, ca1_0, e_a1_0, -, -⟩ := r1_0.form
  subst e_a1_0
  obtain ⟨x2, r2_0⟩ := open_SubS w1
  have s2_0 := r2_0
  obtain ⟨a2_0, ca2_0, e_a2_0, -, -⟩ := r2_0.form
  subst e_a2_0
  go_enter Try.func4, Try.ntmps4
  go_wp2_with fail
  refine (szTy x1 _ 1048576 _ (by omega) (s1_0.kept TyIEl.st (Kept.alloc _ _))).mono ?_
  rintro e w1 ⟨hb1, ⟨rfl, _⟩ | ⟨q1, rfl, hq_1⟩⟩
  · go_wp2
    go_ret
    exact ⟨rfl, below_tr (Joins.below_alloc1 w _) hb1⟩
  have hz1 : bTy x1 ≤ 1048576 := by omega
  have B1 : Below w.heap.size w w1 := below_tr (Joins.below_alloc1 w _) hb1
  have z1 : w.heap.size + 1 ≤ w1.heap.size := by have := hb1.size; simp at this; omega
  have c1_A1_0 : w1.cell? ⟨w.heap.size, 0, none⟩ = some (.slice a1_0 x1.length ca1_0) := by rw [hb1.cell (p := ⟨w.heap.size, 0, none⟩) (by simp)]; simp
  go_wp2_with fail
  refine (szSubS x2 _ q1 _ (by omega) (s2_0.kept SbEl.st (Kept.of_below B1))).mono ?_
  rintro e w2 ⟨hb2, ⟨rfl, _⟩ | ⟨q2, rfl, hq_2⟩⟩
  · go_wp2
    go_ret
    exact ⟨rfl, below_tr B1 hb2⟩
  have hz2 : bulkL bSb x2 ≤ 1048576 := by omega
  have z2 := hb2.size
  have c2_A1_0 := (hb2.cell (p := ⟨w.heap.size, 0, none⟩) (by show w.heap.size < _; omega)).trans c1_A1_0
  have B2 := below_tr B1 hb2 (by omega)
  clear c1_A1_0
  have hl2 : x2.length ≤ 1048576 := Nat.le_trans (bulkL_len _ _) hz2
  clear hq_1 hq_2
  have hC1 : cntL cTyI x1 ≤ 20000000 := by have hzb := hz1; simp only [bTy] at hzb; have h0 := cntL_bulk _ _ cb_TyI x1; omega
  obtain ⟨MX1_0, hMX1_0⟩ : ∃ M, M = 1 + cntL cTyI x1 := ⟨_, rfl⟩
  have hbX1 : MX1_0 ≤ 20000001 := by omega
  have hpX1 : 0 < MX1_0 := by omega
  have hC2 : cntL cSb x2 ≤ 20000000 := by have hzb := hz2; skip; have h0 := cntL_bulk _ _ cb_Sb x2; omega
  obtain ⟨MX2_0, hMX2_0⟩ : ∃ M, M = MX1_0 + cntL cSb x2 := ⟨_, rfl⟩
  have hbX2 : MX2_0 ≤ 40000002 := by omega
  have hpX2 : 0 < MX2_0 := by omega
  have HMX1_0 := Lib.hid hMX1_0
  have HMX2_0 := Lib.hid hMX2_0
  clear hMX1_0 hMX2_0 hC1 hC2
  obtain ⟨MG_0, hMG_0⟩ : ∃ M, M = 1 + cntL cTyI ((resTyPut x1 x2).1) := ⟨_, rfl⟩
  have hbG : MG_0 ≤ 1000000000000 := by have := TyPut_cnt x1 x2 hz1 hz2; omega
  have hpG : 0 < MG_0 := by omega
  have HMG_0 := Lib.hid hMG_0
  clear hMG_0
  go_wp2_with fail
  refine (toTy x1 _ _ (s1_0.kept TyIEl.st (Kept.of_below B2)) hz1).mono ?_
  rintro e w3 ⟨up1_0, Fp1_0, rfl, tp1_0, zl_p1, nd_p1, hb3⟩
  obtain ⟨ap1_0, cp1_0, e_p1_0, -, -⟩ := (tp1_0.reads TyIOwn.reads).form
  subst e_p1_0
  have zf_p1 : ∀ g ∈ Fp1_0, w2.heap.size ≤ g ∧ g < w3.heap.size := fun g hg => ⟨zl_p1 g hg, tp1_0.sized TyIOwn.sized g hg⟩
  clear zl_p1
  have z3 := hb3.size
  have c3_A1_0 := (hb3.cell (p := ⟨w.heap.size, 0, none⟩) (by show w.heap.size < _; omega)).trans c2_A1_0
  have B3 := below_tr B2 hb3 (by omega)
  clear c2_A1_0
  go_wp2_with fail
  refine (toSubS x2 _ _ (s2_0.kept SbEl.st (Kept.of_below B3)) hl2 hz2).mono ?_
  rintro e w4 ⟨up2_0, Fp2_0, rfl, tp2_0, zl_p2, nd_p2, hb4⟩
  obtain ⟨ap2_0, cp2_0, e_p2_0, -, -⟩ := (tp2_0.reads SbOwn.reads).form
  subst e_p2_0
  have zf_p2 : ∀ g ∈ Fp2_0, w3.heap.size ≤ g ∧ g < w4.heap.size := fun g hg => ⟨zl_p2 g hg, tp2_0.sized SbOwn.sized g hg⟩
  clear zl_p2
  have z4 := hb4.size
  have c4_A1_0 := (hb4.cell (p := ⟨w.heap.size, 0, none⟩) (by show w.heap.size < _; omega)).trans c3_A1_0
  have o4_p1_0 := tp1_0.kept TyIOwn.loc TyIOwn.sized hb4
  have B4 := below_tr B3 hb4 (by omega)
  clear c3_A1_0 tp1_0
  go_wp2_with fail
  refine (sTyPutC x1 x2 _ _ _ (o4_p1_0.reads TyIOwn.reads) (tp2_0.reads SbOwn.reads) hz1 hz2).mono ?_
  rintro e w5 ⟨uw_0, Gw_0, rfl, tw_0, zl_w, nd_w, hb5⟩
  obtain ⟨aw_0, cw_0, e_w_0, -, -⟩ := (tw_0.reads TyIOwn.reads).form
  subst e_w_0
  have zf_w : ∀ g ∈ Gw_0, w4.heap.size ≤ g ∧ g < w5.heap.size := fun g hg => ⟨zl_w g hg, tw_0.sized TyIOwn.sized g hg⟩
  clear zl_w
  have z5 := hb5.size
  have c5_A1_0 := (hb5.cell (p := ⟨w.heap.size, 0, none⟩) (by show w.heap.size < _; omega)).trans c4_A1_0
  have o5_p1_0 := o4_p1_0.kept TyIOwn.loc TyIOwn.sized hb5
  have o5_p2_0 := tp2_0.kept SbOwn.loc SbOwn.sized hb5
  have B5 := below_tr B4 hb5 (by omega)
  clear c4_A1_0 o4_p1_0 tp2_0
  clear o5_p1_0
  clear o5_p2_0
  have ln5_A1_0 : w.heap.size < w5.heap.size := by omega
  have nn5_A1_0 : w.heap.size ≠ w5.heap.size := by omega
  go_wp2_with fail
  refine (toTy x1 _ _ (s1_0.kept TyIEl.st ((Kept.of_below B5).trans (Kept.alloc _ _))) hz1).mono ?_
  rintro e w6 ⟨ux1_0, Fx1_0, rfl, tx1_0, zl_x1, nd_x1, hb6⟩
  obtain ⟨ax1_0, cx1_0, e_x1_0, -, -⟩ := (tx1_0.reads TyIOwn.reads).form
  subst e_x1_0
  have zl2_x1 : ∀ g ∈ Fx1_0, w5.heap.size + 1 ≤ g := fun g hg => by have := zl_x1 g hg; simpa using this
  have zf_x1 : ∀ g ∈ Fx1_0, w5.heap.size + 1 ≤ g ∧ g < w6.heap.size := fun g hg => ⟨zl2_x1 g hg, tx1_0.sized TyIOwn.sized g hg⟩
  clear zl_x1 zl2_x1
  have hq6 : Below w5.heap.size w5 w6 := below_tr (Joins.below_alloc1 w5 _) hb6
  have z6 : w5.heap.size + 1 ≤ w6.heap.size := by have := hb6.size; simp at this; omega
  have c6_A1_0 := (hq6.cell (p := ⟨w.heap.size, 0, none⟩) (by show w.heap.size < _; omega)).trans c5_A1_0
  have c6_W_0 : w6.cell? ⟨w5.heap.size, 0, none⟩ = some (.slice aw_0 (((resTyPut x1 x2).1)).length cw_0) := by rw [hb6.cell (p := ⟨w5.heap.size, 0, none⟩) (by simp)]; simp
  have o6_w_0 := tw_0.kept TyIOwn.loc TyIOwn.sized hq6
  have B6 := below_tr B5 hq6 (by omega)
  clear c5_A1_0 tw_0
  have ln6_A1_0 : w.heap.size < w6.heap.size := by omega
  have nn6_A1_0 : w.heap.size ≠ w6.heap.size := by omega
  have ln6_W_0 : w5.heap.size < w6.heap.size := by omega
  have nn6_W_0 : w5.heap.size ≠ w6.heap.size := by omega
  go_wp2_with fail
  refine (toSubS x2 _ _ (s2_0.kept SbEl.st ((Kept.of_below B6).trans (Kept.alloc _ _))) hl2 hz2).mono ?_
  rintro e w7 ⟨ux2_0, Fx2_0, rfl, tx2_0, zl_x2, nd_x2, hb7⟩
  obtain ⟨ax2_0, cx2_0, e_x2_0, -, -⟩ := (tx2_0.reads SbOwn.reads).form
  subst e_x2_0
  have zl2_x2 : ∀ g ∈ Fx2_0, w6.heap.size + 1 ≤ g := fun g hg => by have := zl_x2 g hg; simpa using this
  have zf_x2 : ∀ g ∈ Fx2_0, w6.heap.size + 1 ≤ g ∧ g < w7.heap.size := fun g hg => ⟨zl2_x2 g hg, tx2_0.sized SbOwn.sized g hg⟩
  clear zl_x2 zl2_x2
  have hq7 : Below w6.heap.size w6 w7 := below_tr (Joins.below_alloc1 w6 _) hb7
  have z7 : w6.heap.size + 1 ≤ w7.heap.size := by have := hb7.size; simp at this; omega
  have c7_A1_0 := (hq7.cell (p := ⟨w.heap.size, 0, none⟩) (by show w.heap.size < _; omega)).trans c6_A1_0
  have c7_W_0 := (hq7.cell (p := ⟨w5.heap.size, 0, none⟩) (by show w5.heap.size < _; omega)).trans c6_W_0
  have c7_X1_0 : w7.cell? ⟨w6.heap.size, 0, none⟩ = some (.slice ax1_0 x1.length cx1_0) := by rw [hb7.cell (p := ⟨w6.heap.size, 0, none⟩) (by simp)]; simp
  have o7_w_0 := o6_w_0.kept TyIOwn.loc TyIOwn.sized hq7
  have o7_x1_0 := tx1_0.kept TyIOwn.loc TyIOwn.sized hq7
  have B7 := below_tr B6 hq7 (by omega)
  clear c6_A1_0 c6_W_0 o6_w_0 tx1_0
  go_wp2_with fail
  refine (iTyPutC x1 x2 _ _ _ (o7_x1_0.reads TyIOwn.reads) (tx2_0.reads SbOwn.reads) hz1 hz2).mono ?_
  rintro e w8 ⟨ug_0, Gg_0, rfl, tg_0, zl_g, nd_g, hb8⟩
  obtain ⟨ag_0, cg_0, e_g_0, -, -⟩ := (tg_0.reads TyIOwn.reads).form
  subst e_g_0
  have zf_g : ∀ g ∈ Gg_0, w7.heap.size ≤ g ∧ g < w8.heap.size := fun g hg => ⟨zl_g g hg, tg_0.sized TyIOwn.sized g hg⟩
  clear zl_g
  have z8 := hb8.size
  have c8_A1_0 := (hb8.cell (p := ⟨w.heap.size, 0, none⟩) (by show w.heap.size < _; omega)).trans c7_A1_0
  have c8_W_0 := (hb8.cell (p := ⟨w5.heap.size, 0, none⟩) (by show w5.heap.size < _; omega)).trans c7_W_0
  have c8_X1_0 := (hb8.cell (p := ⟨w6.heap.size, 0, none⟩) (by show w6.heap.size < _; omega)).trans c7_X1_0
  have o8_w_0 := o7_w_0.kept TyIOwn.loc TyIOwn.sized hb8
  have o8_x1_0 := o7_x1_0.kept TyIOwn.loc TyIOwn.sized hb8
  have o8_x2_0 := tx2_0.kept SbOwn.loc SbOwn.sized hb8
  have B8 := below_tr B7 hb8 (by omega)
  clear c7_A1_0 c7_W_0 c7_X1_0 o7_w_0 o7_x1_0 tx2_0
  have ln8_A1_0 : w.heap.size < w8.heap.size := by omega
  have nn8_A1_0 : w.heap.size ≠ w8.heap.size := by omega
  have ln8_W_0 : w5.heap.size < w8.heap.size := by omega
  have nn8_W_0 : w5.heap.size ≠ w8.heap.size := by omega
  have ln8_X1_0 : w6.heap.size < w8.heap.size := by omega
  have nn8_X1_0 : w6.heap.size ≠ w8.heap.size := by omega
  go_wp2_with fail
  refine (eqTy ((resTyPut x1 x2).1) _ _ _ ((tg_0.kept TyIOwn.loc TyIOwn.sized (Joins.below_alloc1 w8 _)).reads TyIOwn.reads) ((o8_w_0.kept TyIOwn.loc TyIOwn.sized (Joins.below_alloc1 w8 _)).reads TyIOwn.reads)).mono ?_
  rintro e w9 ⟨rfl, hb9⟩
  have hq9 : Below w8.heap.size w8 w9 := below_tr (Joins.below_alloc1 w8 _) hb9
  have z9 : w8.heap.size + 1 ≤ w9.heap.size := by have := hb9.size; simp at this; omega
  have c9_A1_0 := (hq9.cell (p := ⟨w.heap.size, 0, none⟩) (by show w.heap.size < _; omega)).trans c8_A1_0
  have c9_W_0 := (hq9.cell (p := ⟨w5.heap.size, 0, none⟩) (by show w5.heap.size < _; omega)).trans c8_W_0
  have c9_X1_0 := (hq9.cell (p := ⟨w6.heap.size, 0, none⟩) (by show w6.heap.size < _; omega)).trans c8_X1_0
  have c9_G_0 : w9.cell? ⟨w8.heap.size, 0, none⟩ = some (.slice ag_0 (((resTyPut x1 x2).1)).length cg_0) := by rw [hb9.cell (p := ⟨w8.heap.size, 0, none⟩) (by simp)]; simp
  have o9_w_0 := o8_w_0.kept TyIOwn.loc TyIOwn.sized hq9
  have o9_x1_0 := o8_x1_0.kept TyIOwn.loc TyIOwn.sized hq9
  have o9_x2_0 := o8_x2_0.kept SbOwn.loc SbOwn.sized hq9
  have o9_g_0 := tg_0.kept TyIOwn.loc TyIOwn.sized hq9
  have B9 := below_tr B8 hq9 (by omega)
  clear c8_A1_0 c8_W_0 c8_X1_0 o8_w_0 o8_x1_0 o8_x2_0 tg_0
  have HT := fun W (hK : Kept w9 W) => Lib.hid (toTy x1 _ W (s1_0.kept TyIEl.st ((Kept.of_below B9).trans hK)) hz1)
  go_wp2_with fail
  have lt_A1 : w.heap.size < w9.heap.size := by omega
  have lt_X1 : w6.heap.size < w9.heap.size := by omega
  go_region_held3 (fun w' => w'.cell? ⟨w.heap.size, 0, none⟩ = some (.slice a1_0 x1.length ca1_0) ∧ w'.cell? ⟨w6.heap.size, 0, none⟩ = some (.slice ax1_0 x1.length cx1_0) ∧ Kept w9 w') (first | (exact ⟨c9_A1_0, c9_X1_0, Kept.refl _⟩) | (exact ⟨c9_A1_0, c9_X1_0, Kept.drew _⟩) | (exact ⟨(hbt.cell (p := ⟨w.heap.size, 0, none⟩) lt_A1).trans c9_A1_0, (hbt.cell (p := ⟨w6.heap.size, 0, none⟩) lt_X1).trans c9_X1_0, (Kept.drew _).trans (Kept.of_below hbt)⟩) | (exact ⟨(hbe.cell (p := ⟨w.heap.size, 0, none⟩) (Nat.lt_of_lt_of_le lt_A1 hbt.size)).trans ((hbt.cell (p := ⟨w.heap.size, 0, none⟩) lt_A1).trans c9_A1_0), (hbe.cell (p := ⟨w6.heap.size, 0, none⟩) (Nat.lt_of_lt_of_le lt_X1 hbt.size)).trans ((hbt.cell (p := ⟨w6.heap.size, 0, none⟩) lt_X1).trans c9_X1_0), ((Kept.drew _).trans (Kept.of_below hbt)).trans (Kept.of_below hbe)⟩)) (first | (go_at_call 7; refine (HT _ (by first | exact Kept.drew _ | exact Kept.refl _)).out.mono ?_; rintro e wt ⟨uz0, Fz0, rfl, roz0, _, _, hbt⟩; obtain ⟨az0, cz0, ez0, _, _⟩ := (roz0.reads TyIOwn.reads).form; subst ez0) | (go_at_call 9; refine (eqTy x1 _ _ _ ((o9_x1_0.reads TyIOwn.reads).kept TyIEl.st ((Kept.drew _).trans (Kept.of_below hbt))) (roz0.reads TyIOwn.reads)).mono ?_; rintro e we ⟨rfl, hbe⟩))
  have hbx : Below w9.heap.size w9 we := ((Below.refl _ _).drew).trans (hbt.trans (hbe.mono hbt.size))
  clear hbt hbe HT
  generalize we = w10 at *
  have z10 := hbx.size
  have c10_A1_0 := (hbx.cell (p := ⟨w.heap.size, 0, none⟩) (by show w.heap.size < _; omega)).trans c9_A1_0
  have c10_W_0 := (hbx.cell (p := ⟨w5.heap.size, 0, none⟩) (by show w5.heap.size < _; omega)).trans c9_W_0
  have c10_X1_0 := (hbx.cell (p := ⟨w6.heap.size, 0, none⟩) (by show w6.heap.size < _; omega)).trans c9_X1_0
  have c10_G_0 := (hbx.cell (p := ⟨w8.heap.size, 0, none⟩) (by show w8.heap.size < _; omega)).trans c9_G_0
  have o10_w_0 := o9_w_0.kept TyIOwn.loc TyIOwn.sized hbx
  have o10_x1_0 := o9_x1_0.kept TyIOwn.loc TyIOwn.sized hbx
  have o10_x2_0 := o9_x2_0.kept SbOwn.loc SbOwn.sized hbx
  have o10_g_0 := o9_g_0.kept TyIOwn.loc TyIOwn.sized hbx
  have B10 := below_tr B9 hbx (by omega)
  clear c9_A1_0 c9_W_0 c9_X1_0 c9_G_0 o9_w_0 o9_x1_0 o9_x2_0 o9_g_0
  go_wp2_with fail
  refine (toSubS x2 _ _ (s2_0.kept SbEl.st (Kept.of_below B10)) hl2 hz2).mono ?_
  rintro e w11 ⟨uz2_0, Fz2_0, rfl, tz2_0, zl_z2, nd_z2, hb11⟩
  obtain ⟨az2_0, cz2_0, e_z2_0, -, -⟩ := (tz2_0.reads SbOwn.reads).form
  subst e_z2_0
  have zf_z2 : ∀ g ∈ Fz2_0, w10.heap.size ≤ g ∧ g < w11.heap.size := fun g hg => ⟨zl_z2 g hg, tz2_0.sized SbOwn.sized g hg⟩
  clear zl_z2
  have z11 := hb11.size
  have c11_A1_0 := (hb11.cell (p := ⟨w.heap.size, 0, none⟩) (by show w.heap.size < _; omega)).trans c10_A1_0
  have c11_W_0 := (hb11.cell (p := ⟨w5.heap.size, 0, none⟩) (by show w5.heap.size < _; omega)).trans c10_W_0
  have c11_X1_0 := (hb11.cell (p := ⟨w6.heap.size, 0, none⟩) (by show w6.heap.size < _; omega)).trans c10_X1_0
  have c11_G_0 := (hb11.cell (p := ⟨w8.heap.size, 0, none⟩) (by show w8.heap.size < _; omega)).trans c10_G_0
  have o11_w_0 := o10_w_0.kept TyIOwn.loc TyIOwn.sized hb11
  have o11_x1_0 := o10_x1_0.kept TyIOwn.loc TyIOwn.sized hb11
  have o11_x2_0 := o10_x2_0.kept SbOwn.loc SbOwn.sized hb11
  have o11_g_0 := o10_g_0.kept TyIOwn.loc TyIOwn.sized hb11
  have B11 := below_tr B10 hb11 (by omega)
  clear c10_A1_0 c10_W_0 c10_X1_0 c10_G_0 o10_w_0 o10_x1_0 o10_x2_0 o10_g_0
  go_wp2_with fail
  refine (eqSubS x2 _ _ _ (o11_x2_0.reads SbOwn.reads) (tz2_0.reads SbOwn.reads)).mono ?_
  rintro e w12 ⟨rfl, hb12⟩
  have z12 := hb12.size
  have c12_A1_0 := (hb12.cell (p := ⟨w.heap.size, 0, none⟩) (by show w.heap.size < _; omega)).trans c11_A1_0
  have c12_W_0 := (hb12.cell (p := ⟨w5.heap.size, 0, none⟩) (by show w5.heap.size < _; omega)).trans c11_W_0
  have c12_X1_0 := (hb12.cell (p := ⟨w6.heap.size, 0, none⟩) (by show w6.heap.size < _; omega)).trans c11_X1_0
  have c12_G_0 := (hb12.cell (p := ⟨w8.heap.size, 0, none⟩) (by show w8.heap.size < _; omega)).trans c11_G_0
  have o12_w_0 := o11_w_0.kept TyIOwn.loc TyIOwn.sized hb12
  have o12_x1_0 := o11_x1_0.kept TyIOwn.loc TyIOwn.sized hb12
  have o12_x2_0 := o11_x2_0.kept SbOwn.loc SbOwn.sized hb12
  have o12_g_0 := o11_g_0.kept TyIOwn.loc TyIOwn.sized hb12
  have o12_z2_0 := tz2_0.kept SbOwn.loc SbOwn.sized hb12
  have B12 := below_tr B11 hb12 (by omega)
  clear c11_A1_0 c11_W_0 c11_X1_0 c11_G_0 o11_w_0 o11_x1_0 o11_x2_0 o11_g_0 tz2_0
  clear o12_z2_0
  go_wp2_with fail
  refine (markTy x1 _ Fx1_0 1 _ (by omega) MX1_0 HMX1_0.out (by omega) o12_x1_0 nd_x1).mono ?_
  rintro e w13 ⟨rfl, mx1_0, hb13⟩
  have z13 := hb13.size
  have c13_A1_0 := (World.cell?_of_block (a := ⟨w.heap.size, 0, none⟩) (hb13.block w.heap.size (by omega) (fun h => by have := zf_x1 _ h; omega))).trans c12_A1_0
  have c13_W_0 := (World.cell?_of_block (a := ⟨w5.heap.size, 0, none⟩) (hb13.block w5.heap.size (by omega) (fun h => by have := zf_x1 _ h; omega))).trans c12_W_0
  have c13_X1_0 := (World.cell?_of_block (a := ⟨w6.heap.size, 0, none⟩) (hb13.block w6.heap.size (by omega) (fun h => by have := zf_x1 _ h; omega))).trans c12_X1_0
  have c13_G_0 := (World.cell?_of_block (a := ⟨w8.heap.size, 0, none⟩) (hb13.block w8.heap.size (by omega) (fun h => by have := zf_x1 _ h; omega))).trans c12_G_0
  have o13_w_0 := o12_w_0.but TyIOwn.loc TyIOwn.sized hb13 (fun g hg h => by have h1 := zf_w g hg; have h2 := zf_x1 g h; omega)
  have o13_x2_0 := o12_x2_0.but SbOwn.loc SbOwn.sized hb13 (fun g hg h => by have h1 := zf_x2 g hg; have h2 := zf_x1 g h; omega)
  have o13_g_0 := o12_g_0.but TyIOwn.loc TyIOwn.sized hb13 (fun g hg h => by have h1 := zf_g g hg; have h2 := zf_x1 g h; omega)
  have B13 := B12.trans (hb13.bel (fun g hg => by have := zf_x1 g hg; omega) (by omega))
  clear c12_A1_0 c12_W_0 c12_X1_0 c12_G_0 o12_w_0 o12_x2_0 o12_g_0
  go_wp2_with fail
  refine (markSubS x2 _ Fx2_0 _ MX1_0 MX2_0 _ rfl (by omega) HMX2_0.out (by omega) o13_x2_0 nd_x2).mono ?_
  rintro e w14 ⟨rfl, mx2_0, hb14⟩
  have z14 := hb14.size
  have c14_A1_0 := (World.cell?_of_block (a := ⟨w.heap.size, 0, none⟩) (hb14.block w.heap.size (by omega) (fun h => by have := zf_x2 _ h; omega))).trans c13_A1_0
  have c14_W_0 := (World.cell?_of_block (a := ⟨w5.heap.size, 0, none⟩) (hb14.block w5.heap.size (by omega) (fun h => by have := zf_x2 _ h; omega))).trans c13_W_0
  have c14_X1_0 := (World.cell?_of_block (a := ⟨w6.heap.size, 0, none⟩) (hb14.block w6.heap.size (by omega) (fun h => by have := zf_x2 _ h; omega))).trans c13_X1_0
  have c14_G_0 := (World.cell?_of_block (a := ⟨w8.heap.size, 0, none⟩) (hb14.block w8.heap.size (by omega) (fun h => by have := zf_x2 _ h; omega))).trans c13_G_0
  have o14_w_0 := o13_w_0.but TyIOwn.loc TyIOwn.sized hb14 (fun g hg h => by have h1 := zf_w g hg; have h2 := zf_x2 g h; omega)
  have o14_x1_0 := mx1_0.but TyIOwn.loc TyIOwn.sized hb14 (fun g hg h => by have h1 := zf_x1 g hg; have h2 := zf_x2 g h; omega)
  have o14_g_0 := o13_g_0.but TyIOwn.loc TyIOwn.sized hb14 (fun g hg h => by have h1 := zf_g g hg; have h2 := zf_x2 g h; omega)
  have B14 := B13.trans (hb14.bel (fun g hg => by have := zf_x2 g hg; omega) (by omega))
  clear c13_A1_0 c13_W_0 c13_X1_0 c13_G_0 o13_w_0 mx1_0 o13_g_0
  go_wp2_with fail
  refine (eqTy ((resTyPut x1 x2).1) _ _ _ (o14_g_0.reads TyIOwn.reads) (o14_w_0.reads TyIOwn.reads)).mono ?_
  rintro e w15 ⟨rfl, hb15⟩
  have z15 := hb15.size
  have c15_A1_0 := (hb15.cell (p := ⟨w.heap.size, 0, none⟩) (by show w.heap.size < _; omega)).trans c14_A1_0
  have c15_W_0 := (hb15.cell (p := ⟨w5.heap.size, 0, none⟩) (by show w5.heap.size < _; omega)).trans c14_W_0
  have c15_X1_0 := (hb15.cell (p := ⟨w6.heap.size, 0, none⟩) (by show w6.heap.size < _; omega)).trans c14_X1_0
  have c15_G_0 := (hb15.cell (p := ⟨w8.heap.size, 0, none⟩) (by show w8.heap.size < _; omega)).trans c14_G_0
  have o15_w_0 := o14_w_0.kept TyIOwn.loc TyIOwn.sized hb15
  have o15_x1_0 := o14_x1_0.kept TyIOwn.loc TyIOwn.sized hb15
  have o15_x2_0 := mx2_0.kept SbOwn.loc SbOwn.sized hb15
  have o15_g_0 := o14_g_0.kept TyIOwn.loc TyIOwn.sized hb15
  have B15 := below_tr B14 hb15 (by omega)
  clear c14_A1_0 c14_W_0 c14_X1_0 c14_G_0 o14_w_0 o14_x1_0 mx2_0 o14_g_0
  go_wp2_with fail
  refine (markTy ((resTyPut x1 x2).1) _ Gg_0 1 _ (by omega) MG_0 HMG_0.out (by omega) o15_g_0 nd_g).mono ?_
  rintro e w16 ⟨rfl, mg_0, hb16⟩
  have z16 := hb16.size
  have c16_A1_0 := (World.cell?_of_block (a := ⟨w.heap.size, 0, none⟩) (hb16.block w.heap.size (by omega) (fun h => by have := zf_g _ h; omega))).trans c15_A1_0
  have c16_W_0 := (World.cell?_of_block (a := ⟨w5.heap.size, 0, none⟩) (hb16.block w5.heap.size (by omega) (fun h => by have := zf_g _ h; omega))).trans c15_W_0
  have c16_X1_0 := (World.cell?_of_block (a := ⟨w6.heap.size, 0, none⟩) (hb16.block w6.heap.size (by omega) (fun h => by have := zf_g _ h; omega))).trans c15_X1_0
  have c16_G_0 := (World.cell?_of_block (a := ⟨w8.heap.size, 0, none⟩) (hb16.block w8.heap.size (by omega) (fun h => by have := zf_g _ h; omega))).trans c15_G_0
  have o16_w_0 := o15_w_0.but TyIOwn.loc TyIOwn.sized hb16 (fun g hg h => by have h1 := zf_w g hg; have h2 := zf_g g h; omega)
  have o16_x1_0 := o15_x1_0.but TyIOwn.loc TyIOwn.sized hb16 (fun g hg h => by have h1 := zf_x1 g hg; have h2 := zf_g g h; omega)
  have o16_x2_0 := o15_x2_0.but SbOwn.loc SbOwn.sized hb16 (fun g hg h => by have h1 := zf_x2 g hg; have h2 := zf_g g h; omega)
  have B16 := B15.trans (hb16.bel (fun g hg => by have := zf_g g hg; omega) (by omega))
  clear c15_A1_0 c15_W_0 c15_X1_0 c15_G_0 o15_w_0 o15_x1_0 o15_x2_0
  go_wp2_with fail
  refine (heldTy ((resTyPut x1 x2).1) _ 1 _ (by omega) MG_0 HMG_0.out hbG (mg_0.reads TyIOwn.reads)).mono ?_
  rintro e w17 ⟨rfl, hb17⟩
  have z17 := hb17.size
  have c17_A1_0 := (hb17.cell (p := ⟨w.heap.size, 0, none⟩) (by show w.heap.size < _; omega)).trans c16_A1_0
  have c17_W_0 := (hb17.cell (p := ⟨w5.heap.size, 0, none⟩) (by show w5.heap.size < _; omega)).trans c16_W_0
  have c17_X1_0 := (hb17.cell (p := ⟨w6.heap.size, 0, none⟩) (by show w6.heap.size < _; omega)).trans c16_X1_0
  have c17_G_0 := (hb17.cell (p := ⟨w8.heap.size, 0, none⟩) (by show w8.heap.size < _; omega)).trans c16_G_0
  have o17_w_0 := o16_w_0.kept TyIOwn.loc TyIOwn.sized hb17
  have o17_x1_0 := o16_x1_0.kept TyIOwn.loc TyIOwn.sized hb17
  have o17_x2_0 := o16_x2_0.kept SbOwn.loc SbOwn.sized hb17
  have o17_g_0 := mg_0.kept TyIOwn.loc TyIOwn.sized hb17
  have B17 := below_tr B16 hb17 (by omega)
  clear c16_A1_0 c16_W_0 c16_X1_0 c16_G_0 o16_w_0 o16_x1_0 o16_x2_0 mg_0
  go_wp2_with fail
  refine (toTy x1 _ _ (s1_0.kept TyIEl.st (Kept.of_below B17)) hz1).mono ?_
  rintro e w18 ⟨uy1_0, Fy1_0, rfl, ty1_0, zl_y1, nd_y1, hb18⟩
  obtain ⟨ay1_0, cy1_0, e_y1_0, -, -⟩ := (ty1_0.reads TyIOwn.reads).form
  subst e_y1_0
  have zf_y1 : ∀ g ∈ Fy1_0, w17.heap.size ≤ g ∧ g < w18.heap.size := fun g hg => ⟨zl_y1 g hg, ty1_0.sized TyIOwn.sized g hg⟩
  clear zl_y1
  have z18 := hb18.size
  have c18_A1_0 := (hb18.cell (p := ⟨w.heap.size, 0, none⟩) (by show w.heap.size < _; omega)).trans c17_A1_0
  have c18_W_0 := (hb18.cell (p := ⟨w5.heap.size, 0, none⟩) (by show w5.heap.size < _; omega)).trans c17_W_0
  have c18_X1_0 := (hb18.cell (p := ⟨w6.heap.size, 0, none⟩) (by show w6.heap.size < _; omega)).trans c17_X1_0
  have c18_G_0 := (hb18.cell (p := ⟨w8.heap.size, 0, none⟩) (by show w8.heap.size < _; omega)).trans c17_G_0
  have o18_w_0 := o17_w_0.kept TyIOwn.loc TyIOwn.sized hb18
  have o18_x1_0 := o17_x1_0.kept TyIOwn.loc TyIOwn.sized hb18
  have o18_x2_0 := o17_x2_0.kept SbOwn.loc SbOwn.sized hb18
  have o18_g_0 := o17_g_0.kept TyIOwn.loc TyIOwn.sized hb18
  have B18 := below_tr B17 hb18 (by omega)
  clear c17_A1_0 c17_W_0 c17_X1_0 c17_G_0 o17_w_0 o17_x1_0 o17_x2_0 o17_g_0
  go_wp2_with fail
  refine (toSubS x2 _ _ (s2_0.kept SbEl.st (Kept.of_below B18)) hl2 hz2).mono ?_
  rintro e w19 ⟨uy2_0, Fy2_0, rfl, ty2_0, zl_y2, nd_y2, hb19⟩
  obtain ⟨ay2_0, cy2_0, e_y2_0, -, -⟩ := (ty2_0.reads SbOwn.reads).form
  subst e_y2_0
  have zf_y2 : ∀ g ∈ Fy2_0, w18.heap.size ≤ g ∧ g < w19.heap.size := fun g hg => ⟨zl_y2 g hg, ty2_0.sized SbOwn.sized g hg⟩
  clear zl_y2
  have z19 := hb19.size
  have c19_A1_0 := (hb19.cell (p := ⟨w.heap.size, 0, none⟩) (by show w.heap.size < _; omega)).trans c18_A1_0
  have c19_W_0 := (hb19.cell (p := ⟨w5.heap.size, 0, none⟩) (by show w5.heap.size < _; omega)).trans c18_W_0
  have c19_X1_0 := (hb19.cell (p := ⟨w6.heap.size, 0, none⟩) (by show w6.heap.size < _; omega)).trans c18_X1_0
  have c19_G_0 := (hb19.cell (p := ⟨w8.heap.size, 0, none⟩) (by show w8.heap.size < _; omega)).trans c18_G_0
  have o19_w_0 := o18_w_0.kept TyIOwn.loc TyIOwn.sized hb19
  have o19_x1_0 := o18_x1_0.kept TyIOwn.loc TyIOwn.sized hb19
  have o19_x2_0 := o18_x2_0.kept SbOwn.loc SbOwn.sized hb19
  have o19_g_0 := o18_g_0.kept TyIOwn.loc TyIOwn.sized hb19
  have o19_y1_0 := ty1_0.kept TyIOwn.loc TyIOwn.sized hb19
  have B19 := below_tr B18 hb19 (by omega)
  clear c18_A1_0 c18_W_0 c18_X1_0 c18_G_0 o18_w_0 o18_x1_0 o18_x2_0 o18_g_0 ty1_0
  go_wp2_with fail
  refine (iTyPutC x1 x2 _ _ _ (o19_y1_0.reads TyIOwn.reads) (ty2_0.reads SbOwn.reads) hz1 hz2).mono ?_
  rintro e w20 ⟨uh_0, Gh_0, rfl, th_0, zl_h, nd_h, hb20⟩
  obtain ⟨ah_0, ch_0, e_h_0, -, -⟩ := (th_0.reads TyIOwn.reads).form
  subst e_h_0
  have zf_h : ∀ g ∈ Gh_0, w19.heap.size ≤ g ∧ g < w20.heap.size := fun g hg => ⟨zl_h g hg, th_0.sized TyIOwn.sized g hg⟩
  clear zl_h
  have z20 := hb20.size
  have c20_A1_0 := (hb20.cell (p := ⟨w.heap.size, 0, none⟩) (by show w.heap.size < _; omega)).trans c19_A1_0
  have c20_W_0 := (hb20.cell (p := ⟨w5.heap.size, 0, none⟩) (by show w5.heap.size < _; omega)).trans c19_W_0
  have c20_X1_0 := (hb20.cell (p := ⟨w6.heap.size, 0, none⟩) (by show w6.heap.size < _; omega)).trans c19_X1_0
  have c20_G_0 := (hb20.cell (p := ⟨w8.heap.size, 0, none⟩) (by show w8.heap.size < _; omega)).trans c19_G_0
  have o20_w_0 := o19_w_0.kept TyIOwn.loc TyIOwn.sized hb20
  have o20_x1_0 := o19_x1_0.kept TyIOwn.loc TyIOwn.sized hb20
  have o20_x2_0 := o19_x2_0.kept SbOwn.loc SbOwn.sized hb20
  have o20_g_0 := o19_g_0.kept TyIOwn.loc TyIOwn.sized hb20
  have o20_y1_0 := o19_y1_0.kept TyIOwn.loc TyIOwn.sized hb20
  have o20_y2_0 := ty2_0.kept SbOwn.loc SbOwn.sized hb20
  have B20 := below_tr B19 hb20 (by omega)
  clear c19_A1_0 c19_W_0 c19_X1_0 c19_G_0 o19_w_0 o19_x1_0 o19_x2_0 o19_g_0 o19_y1_0 ty2_0
  have ln20_A1_0 : w.heap.size < w20.heap.size := by omega
  have nn20_A1_0 : w.heap.size ≠ w20.heap.size := by omega
  have ln20_G_0 : w8.heap.size < w20.heap.size := by omega
  have nn20_G_0 : w8.heap.size ≠ w20.heap.size := by omega
  have ln20_W_0 : w5.heap.size < w20.heap.size := by omega
  have nn20_W_0 : w5.heap.size ≠ w20.heap.size := by omega
  have ln20_X1_0 : w6.heap.size < w20.heap.size := by omega
  have nn20_X1_0 : w6.heap.size ≠ w20.heap.size := by omega
  go_wp2_with fail
  refine (eqTy ((resTyPut x1 x2).1) _ _ _ ((th_0.kept TyIOwn.loc TyIOwn.sized (Joins.below_alloc1 w20 _)).reads TyIOwn.reads) ((o20_w_0.kept TyIOwn.loc TyIOwn.sized (Joins.below_alloc1 w20 _)).reads TyIOwn.reads)).mono ?_
  rintro e w21 ⟨rfl, hb21⟩
  have hq21 : Below w20.heap.size w20 w21 := below_tr (Joins.below_alloc1 w20 _) hb21
  have z21 : w20.heap.size + 1 ≤ w21.heap.size := by have := hb21.size; simp at this; omega
  have c21_A1_0 := (hq21.cell (p := ⟨w.heap.size, 0, none⟩) (by show w.heap.size < _; omega)).trans c20_A1_0
  have c21_W_0 := (hq21.cell (p := ⟨w5.heap.size, 0, none⟩) (by show w5.heap.size < _; omega)).trans c20_W_0
  have c21_X1_0 := (hq21.cell (p := ⟨w6.heap.size, 0, none⟩) (by show w6.heap.size < _; omega)).trans c20_X1_0
  have c21_G_0 := (hq21.cell (p := ⟨w8.heap.size, 0, none⟩) (by show w8.heap.size < _; omega)).trans c20_G_0
  have c21_H_0 : w21.cell? ⟨w20.heap.size, 0, none⟩ = some (.slice ah_0 (((resTyPut x1 x2).1)).length ch_0) := by rw [hb21.cell (p := ⟨w20.heap.size, 0, none⟩) (by simp)]; simp
  have o21_w_0 := o20_w_0.kept TyIOwn.loc TyIOwn.sized hq21
  have o21_x1_0 := o20_x1_0.kept TyIOwn.loc TyIOwn.sized hq21
  have o21_x2_0 := o20_x2_0.kept SbOwn.loc SbOwn.sized hq21
  have o21_g_0 := o20_g_0.kept TyIOwn.loc TyIOwn.sized hq21
  have o21_y1_0 := o20_y1_0.kept TyIOwn.loc TyIOwn.sized hq21
  have o21_y2_0 := o20_y2_0.kept SbOwn.loc SbOwn.sized hq21
  have o21_h_0 := th_0.kept TyIOwn.loc TyIOwn.sized hq21
  have B21 := below_tr B20 hq21 (by omega)
  clear c20_A1_0 c20_W_0 c20_X1_0 c20_G_0 o20_w_0 o20_x1_0 o20_x2_0 o20_g_0 o20_y1_0 o20_y2_0 th_0
  go_wp2_with fail
  refine (heldTy ((resTyPut x1 x2).1) _ 1 _ (by omega) MG_0 HMG_0.out hbG (o21_g_0.reads TyIOwn.reads)).mono ?_
  rintro e w22 ⟨rfl, hb22⟩
  have z22 := hb22.size
  have c22_A1_0 := (hb22.cell (p := ⟨w.heap.size, 0, none⟩) (by show w.heap.size < _; omega)).trans c21_A1_0
  have c22_W_0 := (hb22.cell (p := ⟨w5.heap.size, 0, none⟩) (by show w5.heap.size < _; omega)).trans c21_W_0
  have c22_X1_0 := (hb22.cell (p := ⟨w6.heap.size, 0, none⟩) (by show w6.heap.size < _; omega)).trans c21_X1_0
  have c22_G_0 := (hb22.cell (p := ⟨w8.heap.size, 0, none⟩) (by show w8.heap.size < _; omega)).trans c21_G_0
  have c22_H_0 := (hb22.cell (p := ⟨w20.heap.size, 0, none⟩) (by show w20.heap.size < _; omega)).trans c21_H_0
  have o22_w_0 := o21_w_0.kept TyIOwn.loc TyIOwn.sized hb22
  have o22_x1_0 := o21_x1_0.kept TyIOwn.loc TyIOwn.sized hb22
  have o22_x2_0 := o21_x2_0.kept SbOwn.loc SbOwn.sized hb22
  have o22_g_0 := o21_g_0.kept TyIOwn.loc TyIOwn.sized hb22
  have o22_y1_0 := o21_y1_0.kept TyIOwn.loc TyIOwn.sized hb22
  have o22_y2_0 := o21_y2_0.kept SbOwn.loc SbOwn.sized hb22
  have o22_h_0 := o21_h_0.kept TyIOwn.loc TyIOwn.sized hb22
  have B22 := below_tr B21 hb22 (by omega)
  clear c21_A1_0 c21_W_0 c21_X1_0 c21_G_0 c21_H_0 o21_w_0 o21_x1_0 o21_x2_0 o21_g_0 o21_y1_0 o21_y2_0 o21_h_0
  go_wp2
  go_ret
  exact ⟨rfl, B22⟩

/-! ### THE ROW's STEP: WRITTEN OUT: LEAVE IT -/
set_option maxRecDepth 100000 in
theorem lifted (os : Os) (started : os.Started) (H : Type) (enc : TypeId × Value → H) :
    ReturnsInHanded {} Try.checked os 4 .any (Rows.fnExactTyPutSpec.pre6 enc Try.prog Try.f4 Rows.fnExactTyPutRow.domain false) (Rows.fnExactTyPutSpec.post enc Try.prog Try.f4 false true false false) := by
  refine returnsInHanded_of_change (C := Try.checked) own started (by kernel_rfl) Try.func4
    (ChangeSpec.witness6 (enc := enc) (C := Try.checked) false ⟨#[], #[.agg #[.slice none 0 0], .slice none 0 0], []⟩ 8 (by kernel_rfl) (by kernel_rfl) (by kernel_rfl) (by kernel_rfl)) ?_
  intro W base args ds gs before hval0 hW hcnd _
  have hval : ∀ (j : Nat) t v, Try.f4.params[j]? = some t → args[j]? = some v → Value.okWide Try.prog W .any base t v := hval0
  have hW' := hW
  obtain ⟨p, q, hA0, hV, rfl, hfz, hnd⟩ := hW
  have hA : DataW.TrodAll enc Try.prog W 0 (fun _ => true) true Try.f4.params.toList args.toList ds p := hA0
  rw [Try.params4] at hA hval
  obtain ⟨v0, vs0, d0, ds0, p0, q0, hargs, rfl, rfl, h0, r0⟩ := trodAll_cons hA
  obtain ⟨v1, vs1, d1, ds1, p1, q1, rfl, rfl, rfl, h1, r1⟩ := trodAll_cons r0
  obtain ⟨rfl, rfl, rfl⟩ := trodAll_nil r1
  obtain rfl : args = #[v0, v1] := by cases args; simp_all
  obtain ⟨rfl, rfl⟩ := trodVars_none hV
  have lt0 : ∀ x ∈ p0, x.block < W.heap.size := by have k0 := h0; obtain ⟨m, hm⟩ := k0; exact DataW.trod_lt m _ _ _ hm
  have lt1 : ∀ x ∈ p1, x.block < W.heap.size := by have k1 := h1; obtain ⟨m, hm⟩ := k1; exact DataW.trod_lt m _ _ _ hm
  clear hA0 hval0
  refine (walk v0 v1 W ⟨H, enc, base, d0, p0, hval 0 24 v0 rfl rfl, h0⟩ ⟨H, enc, base, d1, p1, hval 1 34 v1 rfl rfl, h1⟩).mono fun e W' ⟨he, bel⟩ => ?_
  subst he
  exact ⟨_, rfl, _, _, _, [], _, [], hW', trodAll_mk1 (shut_bool Try.underlying4 _), (trodAll_cons_mk (Below.trod laidOut (by kernel_rfl) (of_decide_eq_true (by kernel_rfl)) h0 bel lt0) (trodAll_cons_mk (Below.trod laidOut (by kernel_rfl) (of_decide_eq_true (by kernel_rfl)) h1 bel lt1) trodAll_mk0)), rfl, bel.frame _, fun h => by cases h⟩

theorem over : Rows.fnExactTyPutRow.holds Try.pinned (OpenSpec.ofChange Rows.fnExactTyPutSpec) :=
  OpenClaim.holds_of_wide 4 Try.f4 rfl rfl rfl rfl rfl rfl rfl ⟨rfl, rfl, rfl, rfl, rfl⟩ rfl rfl rfl rfl rfl (by kernel_rfl) Try.func4 (by kernel_rfl)
    (of_decide_eq_true (by kernel_rfl)) (by unfold Func.isWrapper; first | (rw [if_pos (by decide +kernel)]; kernel_rfl) | (rw [if_neg (by decide +kernel)]; exact ⟨rfl, rfl⟩))
    (fun os started H enc _ => lifted os started H enc)

/-- ████ THE STATEMENT ████ -/
theorem proved : Rows.FnExactTyPutSaid := over
#print axioms proved
end Go.Proofs.Ytciohamonmmciaa.fnExactTyPut
