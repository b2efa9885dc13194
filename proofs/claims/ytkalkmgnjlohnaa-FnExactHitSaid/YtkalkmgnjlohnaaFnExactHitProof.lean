/- The law FnExactHit of this commit's code returns true for every input and leaves its arguments as they were: no conditions. -/
/-
  THE SHELL OF A PROOF OF 'Rows.FnExactHitSaid' ('loop.example/g00395/laws.FnExactHit'), for parameters of whatever type.
-/
import Derived.Test.YtkalkmgnjlohnaaRows
import Derived.Test.YtkalkmgnjlohnaaArgs
import Derived.Test.YtkalkmgnjlohnaaSz
import Derived.Test.YtkalkmgnjlohnaaTo
import Derived.Test.YtkalkmgnjlohnaaEq
import Derived.Test.YtkalkmgnjlohnaaMark
import Derived.Test.YtkalkmgnjlohnaaHeld
import Derived.Test.YtkalkmgnjlohnaaHtN
import Derived.Deep.RegionHeld3
import Derived.WalkKit
import Derived.ProofKit
import Derived.OpenShut
import Derived.ShutString
import Derived.ChangeOld
import Derived.Below
namespace Go.Proofs.Ytkalkmgnjlohnaa.fnExactHit
open Go.ChangeShapes Go.WideShapes Go.ChangeAt Go.RowKit
open Go.ChangeMaps (open_string shut_string)
set_option linter.unusedVariables false

theorem own : ownKnob Try.prog.godebug = none := by kernel_rfl
theorem laidOut : laidOutB Try.prog = true := by kernel_rfl

/-! ### STEP 1: THE WALK -/
set_option maxHeartbeats 4000000 in
set_option maxRecDepth 100000 in
theorem walk (v0 : Value) (v1 : Value) (w : World) (w0 : ArgIn Try.prog 35 w v0) (w1 : ArgIn Try.prog 24 w v1) :
    Calls Try.prog 4 #[v0, v1] w fun e w' => e = .returned (.bool true) ∧ Below w.heap.size w w' := by
  obtain ⟨x1, v1_0, rfl, r1_0⟩ := open_Pat w0
  have s1_0 := r1_0
  obtain ⟨a1_0, ca1_0, e_a1_0, -, -⟩ := r1_0.form
  subst e_a1_0
  obtain ⟨x2, v2_0, rfl, r2_0⟩ := open_Data w1
  have s2_0 := r2_0
  obtain ⟨a2_0, ca2_0, e_a2_0, -, -⟩ := r2_0.form
  subst e_a2_0
  go_enter Try.func4, Try.ntmps4
  go_wp2_with fail
  refine (szPat x1 _ 1048576 _ (by omega) (s1_0.kept PNEl.st (Kept.al2 _ _ _))).mono ?_
  rintro e w1 ⟨hb1, ⟨rfl, _⟩ | ⟨q1, rfl, hq_1⟩⟩
  · go_wp2
    go_ret
    exact ⟨rfl, below_tr (Joins.below_alloc2 w _ _) hb1⟩
  have hz1 : bPat x1 ≤ 1048576 := by omega
  have B1 : Below w.heap.size w w1 := below_tr (Joins.below_alloc2 w _ _) hb1
  have z1 : w.heap.size + 2 ≤ w1.heap.size := by have := hb1.size; simp at this; omega
  have c1_A1_0 : w1.cell? ⟨w.heap.size, 0, none⟩ = some (.slice a1_0 x1.length ca1_0) := by rw [hb1.cell (p := ⟨w.heap.size, 0, none⟩) (by first | (simp; done) | (simp; omega))]; first | (simp; done) | (simp; omega)
  have c1_A2_0 : w1.cell? ⟨w.heap.size + 1, 0, none⟩ = some (.slice a2_0 x2.length ca2_0) := by rw [hb1.cell (p := ⟨w.heap.size + 1, 0, none⟩) (by first | (simp; done) | (simp; omega))]; first | (simp; done) | (simp; omega)
  go_wp2_with fail
  refine (szData x2 _ q1 _ (by omega) (s2_0.kept DNEl.st (Kept.of_below B1))).mono ?_
  rintro e w2 ⟨hb2, ⟨rfl, _⟩ | ⟨q2, rfl, hq_2⟩⟩
  · go_wp2
    go_ret
    exact ⟨rfl, below_tr B1 hb2⟩
  have hz2 : bData x2 ≤ 1048576 := by omega
  have z2 := hb2.size
  have c2_A1_0 := (hb2.cell (p := ⟨w.heap.size, 0, none⟩) (by show w.heap.size < _; omega)).trans c1_A1_0
  have c2_A2_0 := (hb2.cell (p := ⟨w.heap.size + 1, 0, none⟩) (by show w.heap.size + 1 < _; omega)).trans c1_A2_0
  have B2 := below_tr B1 hb2 (by omega)
  clear c1_A1_0 c1_A2_0
  clear hq_1 hq_2
  have hC1 : cntL cPN x1 ≤ 20000000 := by have hzb := hz1; simp only [bPat] at hzb; have h0 := cntL_bulk _ _ cb_PN x1; omega
  obtain ⟨MX1_0, hMX1_0⟩ : ∃ M, M = 1 + cntL cPN x1 := ⟨_, rfl⟩
  have hbX1 : MX1_0 ≤ 20000001 := by omega
  have hpX1 : 0 < MX1_0 := by omega
  have hC2 : cntL cDN x2 ≤ 20000000 := by have hzb := hz2; simp only [bData] at hzb; have h0 := cntL_bulk _ _ cb_DN x2; omega
  obtain ⟨MX2_0, hMX2_0⟩ : ∃ M, M = MX1_0 + cntL cDN x2 := ⟨_, rfl⟩
  have hbX2 : MX2_0 ≤ 40000002 := by omega
  have hpX2 : 0 < MX2_0 := by omega
  have HMX1_0 := Lib.hid hMX1_0
  have HMX2_0 := Lib.hid hMX2_0
  clear hMX1_0 hMX2_0 hC1 hC2
  obtain ⟨MG_0, hMG_0⟩ : ∃ M, M = 1 + cntL cData ((resHit x1 x2).1) := ⟨_, rfl⟩
  have hbG : MG_0 ≤ 1000000000000 := by have := Hit_cnt x1 x2 hz1 hz2; omega
  have hpG : 0 < MG_0 := by omega
  have HMG_0 := Lib.hid hMG_0
  clear hMG_0
  have hS : ∀ W, Below w2.heap.size w2 W → (W.cell? ⟨w.heap.size, 0, none⟩ = some (.slice a1_0 x1.length ca1_0) ∧ W.cell? ⟨w.heap.size + 1, 0, none⟩ = some (.slice a2_0 x2.length ca2_0) ∧ Below w2.heap.size w2 W) := fun W hB => ⟨(hB.cell (p := ⟨w.heap.size, 0, none⟩) (by show w.heap.size < _; omega)).trans c2_A1_0, (hB.cell (p := ⟨w.heap.size + 1, 0, none⟩) (by show w.heap.size + 1 < _; omega)).trans c2_A2_0, hB⟩
  have HT1 := fun W (hB : Below w2.heap.size w2 W) => Lib.hid (toPat x1 _ W (s1_0.kept PNEl.st (Kept.of_below (below_tr B2 hB (by omega)))) hz1)
  have HT2 := fun W (hB : Below w2.heap.size w2 W) => Lib.hid (toData x2 _ W (s2_0.kept DNEl.st (Kept.of_below (below_tr B2 hB (by omega)))) hz2)
  go_wp2_with fail
  go_region_held3 (fun W => W.cell? ⟨w.heap.size, 0, none⟩ = some (.slice a1_0 x1.length ca1_0) ∧ W.cell? ⟨w.heap.size + 1, 0, none⟩ = some (.slice a2_0 x2.length ca2_0) ∧ Below w2.heap.size w2 W)
    (first | exact hS _ hB5 | exact hS _ hBPD | exact hS _ hBDP | exact hS _ hBP | exact hS _ hBD | exact hS _ (Below.refl _ _).drew | exact hS _ (Below.refl _ _))
    (first
      | (go_at_call 13; first | (refine (HT1 _ hBD).out.mono ?_; rintro e w4 ⟨up1_0, Fp1_0, rfl, tp1_0, zl_p1, nd_p1, hb3⟩; have hBDP := below_tr hBD hb3; obtain ⟨ap1_0, cp1_0, e_p1_0, -, -⟩ := (tp1_0.reads PNOwn.reads).form; subst e_p1_0) | (refine (HT1 _ (by first | exact (Below.refl _ _).drew | exact Below.refl _ _)).out.mono ?_; rintro e w3 ⟨up1_0, Fp1_0, rfl, tp1_0, zl_p1, nd_p1, hb3⟩; have hBP : Below w2.heap.size w2 w3 := (Below.refl _ _).drew.trans hb3; obtain ⟨ap1_0, cp1_0, e_p1_0, -, -⟩ := (tp1_0.reads PNOwn.reads).form; subst e_p1_0))
      | (go_at_call 8; first | (refine (HT2 _ hBP).out.mono ?_; rintro e w4 ⟨up2_0, Fp2_0, rfl, tp2_0, zl_p2, nd_p2, hb4⟩; have hBPD := below_tr hBP hb4; obtain ⟨ap2_0, cp2_0, e_p2_0, -, -⟩ := (tp2_0.reads DNOwn.reads).form; subst e_p2_0) | (refine (HT2 _ (by first | exact (Below.refl _ _).drew | exact Below.refl _ _)).out.mono ?_; rintro e w3 ⟨up2_0, Fp2_0, rfl, tp2_0, zl_p2, nd_p2, hb4⟩; have hBD : Below w2.heap.size w2 w3 := (Below.refl _ _).drew.trans hb4; obtain ⟨ap2_0, cp2_0, e_p2_0, -, -⟩ := (tp2_0.reads DNOwn.reads).form; subst e_p2_0))
      | (go_at_call 12; first | (refine (sHitC x1 x2 _ _ _ ((tp1_0.kept PNOwn.loc PNOwn.sized hb4).reads PNOwn.reads) (tp2_0.reads DNOwn.reads) hz1 hz2).mono ?_; rintro e w5 ⟨uw_0, Gw_0, rfl, tw_0, zl_w, nd_w, hb5⟩; have hB5 := below_tr hBPD hb5; have zf_w : ∀ g ∈ Gw_0, w2.heap.size ≤ g ∧ g < w5.heap.size := fun g hg => ⟨by have := zl_w g hg; have := hBPD.size; omega, tw_0.sized DataOwn.sized g hg⟩) | (refine (sHitC x1 x2 _ _ _ (tp1_0.reads PNOwn.reads) ((tp2_0.kept DNOwn.loc DNOwn.sized hb3).reads DNOwn.reads) hz1 hz2).mono ?_; rintro e w5 ⟨uw_0, Gw_0, rfl, tw_0, zl_w, nd_w, hb5⟩; have hB5 := below_tr hBDP hb5; have zf_w : ∀ g ∈ Gw_0, w2.heap.size ≤ g ∧ g < w5.heap.size := fun g hg => ⟨by have := zl_w g hg; have := hBDP.size; omega, tw_0.sized DataOwn.sized g hg⟩)))
  all_goals
    obtain ⟨aw_0, cw_0, e_w_0, -, -⟩ := (tw_0.reads DataOwn.reads).form
    subst e_w_0
    have z5 := hB5.size
    obtain ⟨c5_A1_0, c5_A2_0, -⟩ := hS _ hB5
    have B5 := below_tr B2 hB5 (by omega)
    clear zl_w hB5 hb5 hS HT1 HT2 tp1_0 tp2_0 zl_p1 zl_p2 nd_p1 nd_p2 hb3 hb4 c2_A1_0 c2_A2_0
    go_wp2_with fail
    refine (toPat x1 _ _ (s1_0.kept PNEl.st (Kept.of_below B5)) hz1).mono ?_
    rintro e w6 ⟨ux1_0, Fx1_0, rfl, tx1_0, zl_x1, nd_x1, hb6⟩
    obtain ⟨ax1_0, cx1_0, e_x1_0, -, -⟩ := (tx1_0.reads PNOwn.reads).form
    subst e_x1_0
    have zf_x1 : ∀ g ∈ Fx1_0, w5.heap.size ≤ g ∧ g < w6.heap.size := fun g hg => ⟨zl_x1 g hg, tx1_0.sized PNOwn.sized g hg⟩
    clear zl_x1
    have z6 := hb6.size
    have c6_A1_0 := (hb6.cell (p := ⟨w.heap.size, 0, none⟩) (by show w.heap.size < _; omega)).trans c5_A1_0
    have c6_A2_0 := (hb6.cell (p := ⟨w.heap.size + 1, 0, none⟩) (by show w.heap.size + 1 < _; omega)).trans c5_A2_0
    have o6_w_0 := tw_0.kept DataOwn.loc DataOwn.sized hb6
    have B6 := below_tr B5 hb6 (by omega)
    clear c5_A1_0 c5_A2_0 tw_0
    have ln6_A1_0 : w.heap.size < w6.heap.size := by omega
    have nn6_A1_0 : w.heap.size ≠ w6.heap.size := by omega
    have ln6_A2_0 : w.heap.size + 1 < w6.heap.size := by omega
    have nn6_A2_0 : w.heap.size + 1 ≠ w6.heap.size := by omega
    go_wp2_with fail
    refine (toData x2 _ _ (s2_0.kept DNEl.st ((Kept.of_below B6).trans (Kept.alloc _ _))) hz2).mono ?_
    rintro e w7 ⟨ux2_0, Fx2_0, rfl, tx2_0, zl_x2, nd_x2, hb7⟩
    obtain ⟨ax2_0, cx2_0, e_x2_0, -, -⟩ := (tx2_0.reads DNOwn.reads).form
    subst e_x2_0
    have zl2_x2 : ∀ g ∈ Fx2_0, w6.heap.size + 1 ≤ g := fun g hg => by have := zl_x2 g hg; simpa using this
    have zf_x2 : ∀ g ∈ Fx2_0, w6.heap.size + 1 ≤ g ∧ g < w7.heap.size := fun g hg => ⟨zl2_x2 g hg, tx2_0.sized DNOwn.sized g hg⟩
    clear zl_x2 zl2_x2
    have hq7 : Below w6.heap.size w6 w7 := below_tr (Joins.below_alloc1 w6 _) hb7
    have z7 : w6.heap.size + 1 ≤ w7.heap.size := by have := hb7.size; simp at this; omega
    have c7_A1_0 := (hq7.cell (p := ⟨w.heap.size, 0, none⟩) (by show w.heap.size < _; omega)).trans c6_A1_0
    have c7_A2_0 := (hq7.cell (p := ⟨w.heap.size + 1, 0, none⟩) (by show w.heap.size + 1 < _; omega)).trans c6_A2_0
    have c7_X1_0 : w7.cell? ⟨w6.heap.size, 0, none⟩ = some (.slice ax1_0 x1.length cx1_0) := by rw [hb7.cell (p := ⟨w6.heap.size, 0, none⟩) (by first | (simp; done) | (simp; omega))]; first | (simp; done) | (simp; omega)
    have o7_w_0 := o6_w_0.kept DataOwn.loc DataOwn.sized hq7
    have o7_x1_0 := tx1_0.kept PNOwn.loc PNOwn.sized hq7
    have B7 := below_tr B6 hq7 (by omega)
    clear c6_A1_0 c6_A2_0 o6_w_0 tx1_0
    have ln7_A1_0 : w.heap.size < w7.heap.size := by omega
    have nn7_A1_0 : w.heap.size ≠ w7.heap.size := by omega
    have ln7_A2_0 : w.heap.size + 1 < w7.heap.size := by omega
    have nn7_A2_0 : w.heap.size + 1 ≠ w7.heap.size := by omega
    have ln7_X1_0 : w6.heap.size < w7.heap.size := by omega
    have nn7_X1_0 : w6.heap.size ≠ w7.heap.size := by omega
    go_wp2_with fail
    refine (iHitC x1 x2 _ _ _ ((o7_x1_0.kept PNOwn.loc PNOwn.sized (Joins.below_alloc1 w7 _)).reads PNOwn.reads) ((tx2_0.kept DNOwn.loc DNOwn.sized (Joins.below_alloc1 w7 _)).reads DNOwn.reads) hz1 hz2).mono ?_
    rintro e w8 ⟨ug_0, Gg_0, rfl, tg_0, zl_g, nd_g, hb8⟩
    obtain ⟨ag_0, cg_0, e_g_0, -, -⟩ := (tg_0.reads DataOwn.reads).form
    subst e_g_0
    have zl2_g : ∀ g ∈ Gg_0, w7.heap.size + 1 ≤ g := fun g hg => by have := zl_g g hg; simpa using this
    have zf_g : ∀ g ∈ Gg_0, w7.heap.size + 1 ≤ g ∧ g < w8.heap.size := fun g hg => ⟨zl2_g g hg, tg_0.sized DataOwn.sized g hg⟩
    clear zl_g zl2_g
    have hq8 : Below w7.heap.size w7 w8 := below_tr (Joins.below_alloc1 w7 _) hb8
    have z8 : w7.heap.size + 1 ≤ w8.heap.size := by have := hb8.size; simp at this; omega
    have c8_A1_0 := (hq8.cell (p := ⟨w.heap.size, 0, none⟩) (by show w.heap.size < _; omega)).trans c7_A1_0
    have c8_A2_0 := (hq8.cell (p := ⟨w.heap.size + 1, 0, none⟩) (by show w.heap.size + 1 < _; omega)).trans c7_A2_0
    have c8_X1_0 := (hq8.cell (p := ⟨w6.heap.size, 0, none⟩) (by show w6.heap.size < _; omega)).trans c7_X1_0
    have c8_X2_0 : w8.cell? ⟨w7.heap.size, 0, none⟩ = some (.slice ax2_0 x2.length cx2_0) := by rw [hb8.cell (p := ⟨w7.heap.size, 0, none⟩) (by first | (simp; done) | (simp; omega))]; first | (simp; done) | (simp; omega)
    have o8_w_0 := o7_w_0.kept DataOwn.loc DataOwn.sized hq8
    have o8_x1_0 := o7_x1_0.kept PNOwn.loc PNOwn.sized hq8
    have o8_x2_0 := tx2_0.kept DNOwn.loc DNOwn.sized hq8
    have B8 := below_tr B7 hq8 (by omega)
    clear c7_A1_0 c7_A2_0 c7_X1_0 o7_w_0 o7_x1_0 tx2_0
    go_wp2_with fail
    refine (eqDataS ((resHit x1 x2).1) _ _ _ (tg_0.reads DataOwn.reads) (o8_w_0.reads DataOwn.reads)).mono ?_
    rintro e w9 ⟨rfl, hb9⟩
    have z9 := hb9.size
    have c9_A1_0 := (hb9.cell (p := ⟨w.heap.size, 0, none⟩) (by show w.heap.size < _; omega)).trans c8_A1_0
    have c9_A2_0 := (hb9.cell (p := ⟨w.heap.size + 1, 0, none⟩) (by show w.heap.size + 1 < _; omega)).trans c8_A2_0
    have c9_X1_0 := (hb9.cell (p := ⟨w6.heap.size, 0, none⟩) (by show w6.heap.size < _; omega)).trans c8_X1_0
    have c9_X2_0 := (hb9.cell (p := ⟨w7.heap.size, 0, none⟩) (by show w7.heap.size < _; omega)).trans c8_X2_0
    have o9_w_0 := o8_w_0.kept DataOwn.loc DataOwn.sized hb9
    have o9_x1_0 := o8_x1_0.kept PNOwn.loc PNOwn.sized hb9
    have o9_x2_0 := o8_x2_0.kept DNOwn.loc DNOwn.sized hb9
    have o9_g_0 := tg_0.kept DataOwn.loc DataOwn.sized hb9
    have B9 := below_tr B8 hb9 (by omega)
    clear c8_A1_0 c8_A2_0 c8_X1_0 c8_X2_0 o8_w_0 o8_x1_0 o8_x2_0 tg_0
    have HT := fun W (hK : Kept w9 W) => Lib.hid (toPat x1 _ W (s1_0.kept PNEl.st ((Kept.of_below B9).trans hK)) hz1)
    go_wp2_with fail
    have lt_A1 : w.heap.size < w9.heap.size := by omega
    have lt_X1 : w6.heap.size < w9.heap.size := by omega
    go_region_held3 (fun w' => w'.cell? ⟨w.heap.size, 0, none⟩ = some (.slice a1_0 x1.length ca1_0) ∧ w'.cell? ⟨w6.heap.size, 0, none⟩ = some (.slice ax1_0 x1.length cx1_0) ∧ Kept w9 w') (first | (exact ⟨c9_A1_0, c9_X1_0, Kept.refl _⟩) | (exact ⟨c9_A1_0, c9_X1_0, Kept.drew _⟩) | (exact ⟨(hbt.cell (p := ⟨w.heap.size, 0, none⟩) lt_A1).trans c9_A1_0, (hbt.cell (p := ⟨w6.heap.size, 0, none⟩) lt_X1).trans c9_X1_0, (Kept.drew _).trans (Kept.of_below hbt)⟩) | (exact ⟨(hbe.cell (p := ⟨w.heap.size, 0, none⟩) (Nat.lt_of_lt_of_le lt_A1 hbt.size)).trans ((hbt.cell (p := ⟨w.heap.size, 0, none⟩) lt_A1).trans c9_A1_0), (hbe.cell (p := ⟨w6.heap.size, 0, none⟩) (Nat.lt_of_lt_of_le lt_X1 hbt.size)).trans ((hbt.cell (p := ⟨w6.heap.size, 0, none⟩) lt_X1).trans c9_X1_0), ((Kept.drew _).trans (Kept.of_below hbt)).trans (Kept.of_below hbe)⟩)) (first | (go_at_call 13; refine (HT _ (by first | exact Kept.drew _ | exact Kept.refl _)).out.mono ?_; rintro e wt ⟨uz0, Fz0, rfl, roz0, _, _, hbt⟩; obtain ⟨az0, cz0, ez0, _, _⟩ := (roz0.reads PNOwn.reads).form; subst ez0) | (go_at_call 16; refine (eqPat x1 _ _ _ ((o9_x1_0.reads PNOwn.reads).kept PNEl.st ((Kept.drew _).trans (Kept.of_below hbt))) (roz0.reads PNOwn.reads)).mono ?_; rintro e we ⟨rfl, hbe⟩))
    have hbx : Below w9.heap.size w9 we := ((Below.refl _ _).drew).trans (hbt.trans (hbe.mono hbt.size))
    clear hbt hbe HT
    generalize we = w10 at *
    have z10 := hbx.size
    have c10_A1_0 := (hbx.cell (p := ⟨w.heap.size, 0, none⟩) (by show w.heap.size < _; omega)).trans c9_A1_0
    have c10_A2_0 := (hbx.cell (p := ⟨w.heap.size + 1, 0, none⟩) (by show w.heap.size + 1 < _; omega)).trans c9_A2_0
    have c10_X1_0 := (hbx.cell (p := ⟨w6.heap.size, 0, none⟩) (by show w6.heap.size < _; omega)).trans c9_X1_0
    have c10_X2_0 := (hbx.cell (p := ⟨w7.heap.size, 0, none⟩) (by show w7.heap.size < _; omega)).trans c9_X2_0
    have o10_w_0 := o9_w_0.kept DataOwn.loc DataOwn.sized hbx
    have o10_x1_0 := o9_x1_0.kept PNOwn.loc PNOwn.sized hbx
    have o10_x2_0 := o9_x2_0.kept DNOwn.loc DNOwn.sized hbx
    have o10_g_0 := o9_g_0.kept DataOwn.loc DataOwn.sized hbx
    have B10 := below_tr B9 hbx (by omega)
    clear c9_A1_0 c9_A2_0 c9_X1_0 c9_X2_0 o9_w_0 o9_x1_0 o9_x2_0 o9_g_0
    have HT := fun W (hK : Kept w10 W) => Lib.hid (toData x2 _ W (s2_0.kept DNEl.st ((Kept.of_below B10).trans hK)) hz2)
    go_wp2_with fail
    have lt_A2 : w.heap.size + 1 < w10.heap.size := by omega
    have lt_X2 : w7.heap.size < w10.heap.size := by omega
    go_region_held3 (fun w' => w'.cell? ⟨w.heap.size + 1, 0, none⟩ = some (.slice a2_0 x2.length ca2_0) ∧ w'.cell? ⟨w7.heap.size, 0, none⟩ = some (.slice ax2_0 x2.length cx2_0) ∧ Kept w10 w') (first | (exact ⟨c10_A2_0, c10_X2_0, Kept.refl _⟩) | (exact ⟨c10_A2_0, c10_X2_0, Kept.drew _⟩) | (exact ⟨(hbt.cell (p := ⟨w.heap.size + 1, 0, none⟩) lt_A2).trans c10_A2_0, (hbt.cell (p := ⟨w7.heap.size, 0, none⟩) lt_X2).trans c10_X2_0, (Kept.drew _).trans (Kept.of_below hbt)⟩) | (exact ⟨(hbe.cell (p := ⟨w.heap.size + 1, 0, none⟩) (Nat.lt_of_lt_of_le lt_A2 hbt.size)).trans ((hbt.cell (p := ⟨w.heap.size + 1, 0, none⟩) lt_A2).trans c10_A2_0), (hbe.cell (p := ⟨w7.heap.size, 0, none⟩) (Nat.lt_of_lt_of_le lt_X2 hbt.size)).trans ((hbt.cell (p := ⟨w7.heap.size, 0, none⟩) lt_X2).trans c10_X2_0), ((Kept.drew _).trans (Kept.of_below hbt)).trans (Kept.of_below hbe)⟩)) (first | (go_at_call 8; refine (HT _ (by first | exact Kept.drew _ | exact Kept.refl _)).out.mono ?_; rintro e wt ⟨uz0, Fz0, rfl, roz0, _, _, hbt⟩; obtain ⟨az0, cz0, ez0, _, _⟩ := (roz0.reads DNOwn.reads).form; subst ez0) | (go_at_call 10; refine (eqData x2 _ _ _ ((o10_x2_0.reads DNOwn.reads).kept DNEl.st ((Kept.drew _).trans (Kept.of_below hbt))) (roz0.reads DNOwn.reads)).mono ?_; rintro e we ⟨rfl, hbe⟩))
    have hbx : Below w10.heap.size w10 we := ((Below.refl _ _).drew).trans (hbt.trans (hbe.mono hbt.size))
    clear hbt hbe HT
    generalize we = w11 at *
    have z11 := hbx.size
    have c11_A1_0 := (hbx.cell (p := ⟨w.heap.size, 0, none⟩) (by show w.heap.size < _; omega)).trans c10_A1_0
    have c11_A2_0 := (hbx.cell (p := ⟨w.heap.size + 1, 0, none⟩) (by show w.heap.size + 1 < _; omega)).trans c10_A2_0
    have c11_X1_0 := (hbx.cell (p := ⟨w6.heap.size, 0, none⟩) (by show w6.heap.size < _; omega)).trans c10_X1_0
    have c11_X2_0 := (hbx.cell (p := ⟨w7.heap.size, 0, none⟩) (by show w7.heap.size < _; omega)).trans c10_X2_0
    have o11_w_0 := o10_w_0.kept DataOwn.loc DataOwn.sized hbx
    have o11_x1_0 := o10_x1_0.kept PNOwn.loc PNOwn.sized hbx
    have o11_x2_0 := o10_x2_0.kept DNOwn.loc DNOwn.sized hbx
    have o11_g_0 := o10_g_0.kept DataOwn.loc DataOwn.sized hbx
    have B11 := below_tr B10 hbx (by omega)
    clear c10_A1_0 c10_A2_0 c10_X1_0 c10_X2_0 o10_w_0 o10_x1_0 o10_x2_0 o10_g_0
    go_wp2_with fail
    refine (markPat x1 _ Fx1_0 1 _ (by omega) MX1_0 HMX1_0.out (by omega) o11_x1_0 nd_x1).mono ?_
    rintro e w12 ⟨rfl, mx1_0, hb12⟩
    have z12 := hb12.size
    have c12_A1_0 := (World.cell?_of_block (a := ⟨w.heap.size, 0, none⟩) (hb12.block w.heap.size (by omega) (fun h => by have := zf_x1 _ h; omega))).trans c11_A1_0
    have c12_A2_0 := (World.cell?_of_block (a := ⟨w.heap.size + 1, 0, none⟩) (hb12.block (w.heap.size + 1) (by omega) (fun h => by have := zf_x1 _ h; omega))).trans c11_A2_0
    have c12_X1_0 := (World.cell?_of_block (a := ⟨w6.heap.size, 0, none⟩) (hb12.block w6.heap.size (by omega) (fun h => by have := zf_x1 _ h; omega))).trans c11_X1_0
    have c12_X2_0 := (World.cell?_of_block (a := ⟨w7.heap.size, 0, none⟩) (hb12.block w7.heap.size (by omega) (fun h => by have := zf_x1 _ h; omega))).trans c11_X2_0
    have o12_w_0 := o11_w_0.but DataOwn.loc DataOwn.sized hb12 (fun g hg h => by have h1 := zf_w g hg; have h2 := zf_x1 g h; omega)
    have o12_x2_0 := o11_x2_0.but DNOwn.loc DNOwn.sized hb12 (fun g hg h => by have h1 := zf_x2 g hg; have h2 := zf_x1 g h; omega)
    have o12_g_0 := o11_g_0.but DataOwn.loc DataOwn.sized hb12 (fun g hg h => by have h1 := zf_g g hg; have h2 := zf_x1 g h; omega)
    have B12 := B11.trans (hb12.bel (fun g hg => by have := zf_x1 g hg; omega) (by omega))
    clear c11_A1_0 c11_A2_0 c11_X1_0 c11_X2_0 o11_w_0 o11_x2_0 o11_g_0
    go_wp2_with fail
    refine (markData x2 _ Fx2_0 MX1_0 _ (by omega) MX2_0 HMX2_0.out (by omega) o12_x2_0 nd_x2).mono ?_
    rintro e w13 ⟨rfl, mx2_0, hb13⟩
    have z13 := hb13.size
    have c13_A1_0 := (World.cell?_of_block (a := ⟨w.heap.size, 0, none⟩) (hb13.block w.heap.size (by omega) (fun h => by have := zf_x2 _ h; omega))).trans c12_A1_0
    have c13_A2_0 := (World.cell?_of_block (a := ⟨w.heap.size + 1, 0, none⟩) (hb13.block (w.heap.size + 1) (by omega) (fun h => by have := zf_x2 _ h; omega))).trans c12_A2_0
    have c13_X1_0 := (World.cell?_of_block (a := ⟨w6.heap.size, 0, none⟩) (hb13.block w6.heap.size (by omega) (fun h => by have := zf_x2 _ h; omega))).trans c12_X1_0
    have c13_X2_0 := (World.cell?_of_block (a := ⟨w7.heap.size, 0, none⟩) (hb13.block w7.heap.size (by omega) (fun h => by have := zf_x2 _ h; omega))).trans c12_X2_0
    have o13_w_0 := o12_w_0.but DataOwn.loc DataOwn.sized hb13 (fun g hg h => by have h1 := zf_w g hg; have h2 := zf_x2 g h; omega)
    have o13_x1_0 := mx1_0.but PNOwn.loc PNOwn.sized hb13 (fun g hg h => by have h1 := zf_x1 g hg; have h2 := zf_x2 g h; omega)
    have o13_g_0 := o12_g_0.but DataOwn.loc DataOwn.sized hb13 (fun g hg h => by have h1 := zf_g g hg; have h2 := zf_x2 g h; omega)
    have B13 := B12.trans (hb13.bel (fun g hg => by have := zf_x2 g hg; omega) (by omega))
    clear c12_A1_0 c12_A2_0 c12_X1_0 c12_X2_0 o12_w_0 mx1_0 o12_g_0
    go_wp2_with fail
    refine (eqDataS ((resHit x1 x2).1) _ _ _ (o13_g_0.reads DataOwn.reads) (o13_w_0.reads DataOwn.reads)).mono ?_
    rintro e w14 ⟨rfl, hb14⟩
    have z14 := hb14.size
    have c14_A1_0 := (hb14.cell (p := ⟨w.heap.size, 0, none⟩) (by show w.heap.size < _; omega)).trans c13_A1_0
    have c14_A2_0 := (hb14.cell (p := ⟨w.heap.size + 1, 0, none⟩) (by show w.heap.size + 1 < _; omega)).trans c13_A2_0
    have c14_X1_0 := (hb14.cell (p := ⟨w6.heap.size, 0, none⟩) (by show w6.heap.size < _; omega)).trans c13_X1_0
    have c14_X2_0 := (hb14.cell (p := ⟨w7.heap.size, 0, none⟩) (by show w7.heap.size < _; omega)).trans c13_X2_0
    have o14_w_0 := o13_w_0.kept DataOwn.loc DataOwn.sized hb14
    have o14_x1_0 := o13_x1_0.kept PNOwn.loc PNOwn.sized hb14
    have o14_x2_0 := mx2_0.kept DNOwn.loc DNOwn.sized hb14
    have o14_g_0 := o13_g_0.kept DataOwn.loc DataOwn.sized hb14
    have B14 := below_tr B13 hb14 (by omega)
    clear c13_A1_0 c13_A2_0 c13_X1_0 c13_X2_0 o13_w_0 o13_x1_0 mx2_0 o13_g_0
    go_wp2_with fail
    refine (markDataS ((resHit x1 x2).1) _ Gg_0 _ 1 MG_0 _ rfl (by omega) HMG_0.out (by omega) o14_g_0 nd_g).mono ?_
    rintro e w15 ⟨rfl, mg_0, hb15⟩
    have z15 := hb15.size
    have c15_A1_0 := (World.cell?_of_block (a := ⟨w.heap.size, 0, none⟩) (hb15.block w.heap.size (by omega) (fun h => by have := zf_g _ h; omega))).trans c14_A1_0
    have c15_A2_0 := (World.cell?_of_block (a := ⟨w.heap.size + 1, 0, none⟩) (hb15.block (w.heap.size + 1) (by omega) (fun h => by have := zf_g _ h; omega))).trans c14_A2_0
    have c15_X1_0 := (World.cell?_of_block (a := ⟨w6.heap.size, 0, none⟩) (hb15.block w6.heap.size (by omega) (fun h => by have := zf_g _ h; omega))).trans c14_X1_0
    have c15_X2_0 := (World.cell?_of_block (a := ⟨w7.heap.size, 0, none⟩) (hb15.block w7.heap.size (by omega) (fun h => by have := zf_g _ h; omega))).trans c14_X2_0
    have o15_w_0 := o14_w_0.but DataOwn.loc DataOwn.sized hb15 (fun g hg h => by have h1 := zf_w g hg; have h2 := zf_g g h; omega)
    have o15_x1_0 := o14_x1_0.but PNOwn.loc PNOwn.sized hb15 (fun g hg h => by have h1 := zf_x1 g hg; have h2 := zf_g g h; omega)
    have o15_x2_0 := o14_x2_0.but DNOwn.loc DNOwn.sized hb15 (fun g hg h => by have h1 := zf_x2 g hg; have h2 := zf_g g h; omega)
    have B15 := B14.trans (hb15.bel (fun g hg => by have := zf_g g hg; omega) (by omega))
    clear c14_A1_0 c14_A2_0 c14_X1_0 c14_X2_0 o14_w_0 o14_x1_0 o14_x2_0
    go_wp2_with fail
    refine (heldDataS ((resHit x1 x2).1) _ _ 1 MG_0 _ rfl (by omega) HMG_0.out hbG (mg_0.reads DataOwn.reads)).mono ?_
    rintro e w16 ⟨rfl, hb16⟩
    have z16 := hb16.size
    have c16_A1_0 := (hb16.cell (p := ⟨w.heap.size, 0, none⟩) (by show w.heap.size < _; omega)).trans c15_A1_0
    have c16_A2_0 := (hb16.cell (p := ⟨w.heap.size + 1, 0, none⟩) (by show w.heap.size + 1 < _; omega)).trans c15_A2_0
    have c16_X1_0 := (hb16.cell (p := ⟨w6.heap.size, 0, none⟩) (by show w6.heap.size < _; omega)).trans c15_X1_0
    have c16_X2_0 := (hb16.cell (p := ⟨w7.heap.size, 0, none⟩) (by show w7.heap.size < _; omega)).trans c15_X2_0
    have o16_w_0 := o15_w_0.kept DataOwn.loc DataOwn.sized hb16
    have o16_x1_0 := o15_x1_0.kept PNOwn.loc PNOwn.sized hb16
    have o16_x2_0 := o15_x2_0.kept DNOwn.loc DNOwn.sized hb16
    have o16_g_0 := mg_0.kept DataOwn.loc DataOwn.sized hb16
    have B16 := below_tr B15 hb16 (by omega)
    clear c15_A1_0 c15_A2_0 c15_X1_0 c15_X2_0 o15_w_0 o15_x1_0 o15_x2_0 mg_0
    have hS : ∀ W, Below w16.heap.size w16 W → (W.cell? ⟨w.heap.size, 0, none⟩ = some (.slice a1_0 x1.length ca1_0) ∧ W.cell? ⟨w.heap.size + 1, 0, none⟩ = some (.slice a2_0 x2.length ca2_0) ∧ Below w16.heap.size w16 W) := fun W hB => ⟨(hB.cell (p := ⟨w.heap.size, 0, none⟩) (by show w.heap.size < _; omega)).trans c16_A1_0, (hB.cell (p := ⟨w.heap.size + 1, 0, none⟩) (by show w.heap.size + 1 < _; omega)).trans c16_A2_0, hB⟩
    have HT1 := fun W (hB : Below w16.heap.size w16 W) => Lib.hid (toPat x1 _ W (s1_0.kept PNEl.st (Kept.of_below (below_tr B16 hB (by omega)))) hz1)
    have HT2 := fun W (hB : Below w16.heap.size w16 W) => Lib.hid (toData x2 _ W (s2_0.kept DNEl.st (Kept.of_below (below_tr B16 hB (by omega)))) hz2)
    go_wp2_with fail
    go_region_held3 (fun W => W.cell? ⟨w.heap.size, 0, none⟩ = some (.slice a1_0 x1.length ca1_0) ∧ W.cell? ⟨w.heap.size + 1, 0, none⟩ = some (.slice a2_0 x2.length ca2_0) ∧ Below w16.heap.size w16 W)
      (first | exact hS _ hC5 | exact hS _ hBPD | exact hS _ hBDP | exact hS _ hBP | exact hS _ hBD | exact hS _ (Below.refl _ _).drew | exact hS _ (Below.refl _ _))
      (first
        | (go_at_call 13; first | (refine (HT1 _ hBD).out.mono ?_; rintro e wQ ⟨uy1_0, Fy1_0, rfl, ty1_0, zl_y1, nd_y1, hb3⟩; obtain ⟨ay1_0, cy1_0, e_y1_0, -, -⟩ := (ty1_0.reads PNOwn.reads).form; subst e_y1_0; have hBDP := below_tr hBD hb3) | (refine (HT1 _ (by first | exact (Below.refl _ _).drew | exact Below.refl _ _)).out.mono ?_; rintro e wP ⟨uy1_0, Fy1_0, rfl, ty1_0, zl_y1, nd_y1, hb3⟩; obtain ⟨ay1_0, cy1_0, e_y1_0, -, -⟩ := (ty1_0.reads PNOwn.reads).form; subst e_y1_0; have hBP : Below w16.heap.size w16 wP := (Below.refl _ _).drew.trans hb3))
        | (go_at_call 8; first | (refine (HT2 _ hBP).out.mono ?_; rintro e wQ ⟨uy2_0, Fy2_0, rfl, ty2_0, zl_y2, nd_y2, hb4⟩; obtain ⟨ay2_0, cy2_0, e_y2_0, -, -⟩ := (ty2_0.reads DNOwn.reads).form; subst e_y2_0; have hBPD := below_tr hBP hb4) | (refine (HT2 _ (by first | exact (Below.refl _ _).drew | exact Below.refl _ _)).out.mono ?_; rintro e wP ⟨uy2_0, Fy2_0, rfl, ty2_0, zl_y2, nd_y2, hb4⟩; obtain ⟨ay2_0, cy2_0, e_y2_0, -, -⟩ := (ty2_0.reads DNOwn.reads).form; subst e_y2_0; have hBD : Below w16.heap.size w16 wP := (Below.refl _ _).drew.trans hb4))
        | (go_at_call 14; first | (refine (iHitC x1 x2 _ _ _ ((ty1_0.kept PNOwn.loc PNOwn.sized hb4).reads PNOwn.reads) (ty2_0.reads DNOwn.reads) hz1 hz2).mono ?_; rintro e w19 ⟨uh_0, Gh_0, rfl, th_0, zl_h, nd_h, hb5⟩; have hC5 := below_tr hBPD hb5) | (refine (iHitC x1 x2 _ _ _ (ty1_0.reads PNOwn.reads) ((ty2_0.kept DNOwn.loc DNOwn.sized hb3).reads DNOwn.reads) hz1 hz2).mono ?_; rintro e w19 ⟨uh_0, Gh_0, rfl, th_0, zl_h, nd_h, hb5⟩; have hC5 := below_tr hBDP hb5)))
    all_goals
      obtain ⟨ah_0, ch_0, e_h_0, -, -⟩ := (th_0.reads DataOwn.reads).form
      subst e_h_0
      have z19 := hC5.size
      have c19_A1_0 := (hC5.cell (p := ⟨w.heap.size, 0, none⟩) (by show w.heap.size < _; omega)).trans c16_A1_0
      have c19_A2_0 := (hC5.cell (p := ⟨w.heap.size + 1, 0, none⟩) (by show w.heap.size + 1 < _; omega)).trans c16_A2_0
      have c19_X1_0 := (hC5.cell (p := ⟨w6.heap.size, 0, none⟩) (by show w6.heap.size < _; omega)).trans c16_X1_0
      have c19_X2_0 := (hC5.cell (p := ⟨w7.heap.size, 0, none⟩) (by show w7.heap.size < _; omega)).trans c16_X2_0
      have o19_w_0 := o16_w_0.kept DataOwn.loc DataOwn.sized hC5
      have o19_x1_0 := o16_x1_0.kept PNOwn.loc PNOwn.sized hC5
      have o19_x2_0 := o16_x2_0.kept DNOwn.loc DNOwn.sized hC5
      have o19_g_0 := o16_g_0.kept DataOwn.loc DataOwn.sized hC5
      have B19 := below_tr B16 hC5 (by omega)
      clear zl_h hC5 hb5 hS HT1 HT2 ty1_0 ty2_0 zl_y1 zl_y2 nd_y1 nd_y2 hb3 hb4
      go_wp2_with fail
      refine (eqDataS ((resHit x1 x2).1) _ _ _ (th_0.reads DataOwn.reads) (o19_w_0.reads DataOwn.reads)).mono ?_
      rintro e w20 ⟨rfl, hb20⟩
      have z20 := hb20.size
      have c20_A1_0 := (hb20.cell (p := ⟨w.heap.size, 0, none⟩) (by show w.heap.size < _; omega)).trans c19_A1_0
      have c20_A2_0 := (hb20.cell (p := ⟨w.heap.size + 1, 0, none⟩) (by show w.heap.size + 1 < _; omega)).trans c19_A2_0
      have c20_X1_0 := (hb20.cell (p := ⟨w6.heap.size, 0, none⟩) (by show w6.heap.size < _; omega)).trans c19_X1_0
      have c20_X2_0 := (hb20.cell (p := ⟨w7.heap.size, 0, none⟩) (by show w7.heap.size < _; omega)).trans c19_X2_0
      have o20_w_0 := o19_w_0.kept DataOwn.loc DataOwn.sized hb20
      have o20_x1_0 := o19_x1_0.kept PNOwn.loc PNOwn.sized hb20
      have o20_x2_0 := o19_x2_0.kept DNOwn.loc DNOwn.sized hb20
      have o20_g_0 := o19_g_0.kept DataOwn.loc DataOwn.sized hb20
      have o20_h_0 := th_0.kept DataOwn.loc DataOwn.sized hb20
      have B20 := below_tr B19 hb20 (by omega)
      clear c19_A1_0 c19_A2_0 c19_X1_0 c19_X2_0 o19_w_0 o19_x1_0 o19_x2_0 o19_g_0 th_0
      go_wp2_with fail
      refine (heldDataS ((resHit x1 x2).1) _ _ 1 MG_0 _ rfl (by omega) HMG_0.out hbG (o20_g_0.reads DataOwn.reads)).mono ?_
      rintro e w21 ⟨rfl, hb21⟩
      have z21 := hb21.size
      have c21_A1_0 := (hb21.cell (p := ⟨w.heap.size, 0, none⟩) (by show w.heap.size < _; omega)).trans c20_A1_0
      have c21_A2_0 := (hb21.cell (p := ⟨w.heap.size + 1, 0, none⟩) (by show w.heap.size + 1 < _; omega)).trans c20_A2_0
      have c21_X1_0 := (hb21.cell (p := ⟨w6.heap.size, 0, none⟩) (by show w6.heap.size < _; omega)).trans c20_X1_0
      have c21_X2_0 := (hb21.cell (p := ⟨w7.heap.size, 0, none⟩) (by show w7.heap.size < _; omega)).trans c20_X2_0
      have o21_w_0 := o20_w_0.kept DataOwn.loc DataOwn.sized hb21
      have o21_x1_0 := o20_x1_0.kept PNOwn.loc PNOwn.sized hb21
      have o21_x2_0 := o20_x2_0.kept DNOwn.loc DNOwn.sized hb21
      have o21_g_0 := o20_g_0.kept DataOwn.loc DataOwn.sized hb21
      have o21_h_0 := o20_h_0.kept DataOwn.loc DataOwn.sized hb21
      have B21 := below_tr B20 hb21 (by omega)
      clear c20_A1_0 c20_A2_0 c20_X1_0 c20_X2_0 o20_w_0 o20_x1_0 o20_x2_0 o20_g_0 o20_h_0
      go_wp2
      go_ret
      exact ⟨rfl, B21⟩

/-! ### THE ROW's STEP: WRITTEN OUT: LEAVE IT -/
set_option maxRecDepth 100000 in
theorem lifted (os : Os) (started : os.Started) (H : Type) (enc : TypeId × Value → H) :
    ReturnsInHanded {} Try.checked os 4 .any (Rows.fnExactHitSpec.pre6 enc Try.prog Try.f4 Rows.fnExactHitRow.domain false) (Rows.fnExactHitSpec.post enc Try.prog Try.f4 false true false false) := by
  refine returnsInHanded_of_change (C := Try.checked) own started (by kernel_rfl) Try.func4
    (ChangeSpec.witness6 (enc := enc) (C := Try.checked) false ⟨#[], #[.agg #[.slice none 0 0], .agg #[.slice none 0 0]], []⟩ 8 (by kernel_rfl) (by kernel_rfl) (by kernel_rfl) (by kernel_rfl)) ?_
  intro W base args ds gs before hval0 hW hcnd _
  have hval : ∀ (j : Nat) t v, Try.f4.params[j]? = some t → args[j]? = some v → Value.okWide Try.prog W .any base t v := hval0
  have hW' := hW
  obtain ⟨p, q, hA0, hV, rfl, hfz, hnd⟩ := hW
  have hA : DataW.TrodAll enc Try.prog W 0 (fun _ => true) true Try.f4.params.toList args.toList ds p := hA0
  rw [Try.params4] at hA hval
  obtain ⟨v0, vs0, d0, ds0, p0, q0, hargs, rfl, rfl, h0, r0⟩ := trodAll_cons hA
  obtain ⟨v1, vs1, d1, ds1, p1, q1, rfl, rfl, rfl, h1, r1⟩ := trodAll_cons r0
  obtain ⟨rfl, rfl, rfl⟩ := trodAll_nil r1
  obtain rfl : args = #[v0, v1] := by cases args; simp_all
  obtain ⟨rfl, rfl⟩ := trodVars_none hV
  have lt0 : ∀ x ∈ p0, x.block < W.heap.size := by have k0 := h0; obtain ⟨m, hm⟩ := k0; exact DataW.trod_lt m _ _ _ hm
  have lt1 : ∀ x ∈ p1, x.block < W.heap.size := by have k1 := h1; obtain ⟨m, hm⟩ := k1; exact DataW.trod_lt m _ _ _ hm
  clear hA0 hval0
  refine (walk v0 v1 W ⟨H, enc, base, d0, p0, hval 0 35 v0 rfl rfl, h0⟩ ⟨H, enc, base, d1, p1, hval 1 24 v1 rfl rfl, h1⟩).mono fun e W' ⟨he, bel⟩ => ?_
  subst he
  exact ⟨_, rfl, _, _, _, [], _, [], hW', trodAll_mk1 (shut_bool Try.underlying4 _), (trodAll_cons_mk (Below.trod laidOut (by kernel_rfl) (of_decide_eq_true (by kernel_rfl)) h0 bel lt0) (trodAll_cons_mk (Below.trod laidOut (by kernel_rfl) (of_decide_eq_true (by kernel_rfl)) h1 bel lt1) trodAll_mk0)), rfl, bel.frame _, fun h => by cases h⟩

theorem over : Rows.fnExactHitRow.holds Try.pinned (OpenSpec.ofChange Rows.fnExactHitSpec) :=
  OpenClaim.holds_of_wide 4 Try.f4 rfl rfl rfl rfl rfl rfl rfl ⟨rfl, rfl, rfl, rfl, rfl⟩ rfl rfl rfl rfl rfl (by kernel_rfl) Try.func4 (by kernel_rfl)
    (of_decide_eq_true (by kernel_rfl)) (by unfold Func.isWrapper; first | (rw [if_pos (by decide +kernel)]; kernel_rfl) | (rw [if_neg (by decide +kernel)]; exact ⟨rfl, rfl⟩))
    (fun os started H enc _ => lifted os started H enc)

/-- ████ THE STATEMENT ████ -/
theorem proved : Rows.FnExactHitSaid := over
#print axioms proved
end Go.Proofs.Ytkalkmgnjlohnaa.fnExactHit
