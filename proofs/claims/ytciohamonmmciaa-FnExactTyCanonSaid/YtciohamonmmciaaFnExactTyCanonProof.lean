/- The law FnExactTyCanon of this commit's code returns true for every input and leaves its arguments as they were: no conditions. -/
/-
  THE SHELL OF A PROOF OF 'Rows.FnExactTyCanonSaid' ('loop.example/g00395/laws.FnExactTyCanon'), for parameters of whatever type.
-/
import Derived.Test.YtciohamonmmciaaRows
import Derived.Test.YtciohamonmmciaaArgs
import Derived.Test.YtciohamonmmciaaSz
import Derived.Test.YtciohamonmmciaaTo
import Derived.Test.YtciohamonmmciaaEq
import Derived.Test.YtciohamonmmciaaMark
import Derived.Test.YtciohamonmmciaaHeld
import Derived.Test.YtciohamonmmciaaCanL
import Derived.Deep.RegionHeld3
import Derived.WalkKit
import Derived.ProofKit
import Derived.OpenShut
import Derived.ShutString
import Derived.ChangeOld
import Derived.Below
namespace Go.Proofs.Ytciohamonmmciaa.fnExactTyCanon
open Go.ChangeShapes Go.WideShapes Go.ChangeAt Go.RowKit
open Go.ChangeMaps (open_string shut_string)
set_option linter.unusedVariables false

theorem own : ownKnob Try.prog.godebug = none := by kernel_rfl
theorem laidOut : laidOutB Try.prog = true := by kernel_rfl

/-! ### STEP 1: THE WALK -/
set_option maxHeartbeats 4000000 in
set_option maxRecDepth 100000 in
theorem walk (v0 : Value) (w : World) (w0 : ArgIn Try.prog 24 w v0) :
    Calls Try.prog 3 #[v0] w fun e w' => e = .returned (.bool true) ∧ Below w.heap.size w w' := by
  obtain ⟨x, v0, rfl, r0⟩ := open_Ty w0
  have s0 := r0
  obtain ⟨a0, ca0, e_a0, -, -⟩ := (r0).form
  subst e_a0
  go_enter Try.func3, Try.ntmps3
  go_wp2_with fail
  refine (szTy x _ 1048576 _ (by omega) (s0.kept TyIEl.st (Kept.alloc _ _))).mono ?_
  rintro e w1 ⟨hb1, ⟨rfl, _⟩ | ⟨q, rfl, hq⟩⟩
  · go_wp2
    go_ret
    exact ⟨rfl, below_tr (Joins.below_alloc1 w _) hb1⟩
  have hzb : bTy x ≤ 1048576 := by omega
  have B1 : Below w.heap.size w w1 := below_tr (Joins.below_alloc1 w _) hb1
  have z1 : w.heap.size + 1 ≤ w1.heap.size := by have := hb1.size; simp at this; omega
  have c1_A_0 : w1.cell? ⟨w.heap.size, 0, none⟩ = some (.slice a0 x.length ca0) := by rw [hb1.cell (p := ⟨w.heap.size, 0, none⟩) (by simp)]; simp
  clear hb1 hq
  obtain ⟨MX0, hMX0⟩ : ∃ M, M = 1 + cntL cTyI x := ⟨_, rfl⟩
  have hbX : MX0 ≤ 1000000000000 := by have hzb := hzb; simp only [bTy] at hzb; have h0 := cntL_bulk _ _ cb_TyI x; omega
  have HMX0 := Lib.hid hMX0
  clear hMX0
  obtain ⟨MG0, hMG0⟩ : ∃ M, M = 1 + cntL cTyI (resTyCanon x) := ⟨_, rfl⟩
  have hbG : MG0 ≤ 1000000000000 := by have := TyCanon_cnt x hzb; omega
  have HMG0 := Lib.hid hMG0
  clear hMG0
  go_wp2_with fail
  refine (toTy x _ _ (s0.kept TyIEl.st (Kept.of_below B1)) hzb).mono ?_
  rintro e w2 ⟨up0, Fp0, rfl, tp0, zl_p, nd_p, hb2⟩
  obtain ⟨ap0, cp0, e_p0, -, -⟩ := (tp0.reads TyIOwn.reads).form
  subst e_p0
  have zf_p : ∀ g ∈ Fp0, w1.heap.size ≤ g ∧ g < w2.heap.size := fun g hg => ⟨zl_p g hg, tp0.sized TyIOwn.sized g hg⟩
  clear zl_p
  have z2 := hb2.size
  have c2_A_0 := (hb2.cell (p := ⟨w.heap.size, 0, none⟩) (by show w.heap.size < _; omega)).trans c1_A_0
  have B2 := below_tr B1 hb2 (by omega)
  clear c1_A_0
  go_wp2_with fail
  refine (sTyCanonC x _ _ (tp0.reads TyIOwn.reads) hzb).mono ?_
  rintro e w3 ⟨uw0, Gw0, rfl, tw0, zl_w, nd_w, hb3⟩
  obtain ⟨aw0, cw0, e_w0, -, -⟩ := (tw0.reads TyIOwn.reads).form
  subst e_w0
  have zf_w : ∀ g ∈ Gw0, w2.heap.size ≤ g ∧ g < w3.heap.size := fun g hg => ⟨zl_w g hg, tw0.sized TyIOwn.sized g hg⟩
  clear zl_w
  have z3 := hb3.size
  have c3_A_0 := (hb3.cell (p := ⟨w.heap.size, 0, none⟩) (by show w.heap.size < _; omega)).trans c2_A_0
  have o3_p0 := tp0.kept TyIOwn.loc TyIOwn.sized hb3
  have B3 := below_tr B2 hb3 (by omega)
  clear c2_A_0 tp0
  clear o3_p0
  have ln3_A : w.heap.size < w3.heap.size := by omega
  have nn3_A : w.heap.size ≠ w3.heap.size := by omega
  go_wp2_with fail
  refine (toTy x _ _ (s0.kept TyIEl.st ((Kept.of_below B3).trans (Kept.alloc _ _))) hzb).mono ?_
  rintro e w4 ⟨ux0, Fx0, rfl, tx0, zl_x, nd_x, hb4⟩
  obtain ⟨ax0, cx0, e_x0, -, -⟩ := (tx0.reads TyIOwn.reads).form
  subst e_x0
  have zl2_x : ∀ g ∈ Fx0, w3.heap.size + 1 ≤ g := fun g hg => by have := zl_x g hg; simpa using this
  have zf_x : ∀ g ∈ Fx0, w3.heap.size + 1 ≤ g ∧ g < w4.heap.size := fun g hg => ⟨zl2_x g hg, tx0.sized TyIOwn.sized g hg⟩
  clear zl_x zl2_x
  have hq4 : Below w3.heap.size w3 w4 := below_tr (Joins.below_alloc1 w3 _) hb4
  have z4 : w3.heap.size + 1 ≤ w4.heap.size := by have := hb4.size; simp at this; omega
  have c4_A_0 := (hq4.cell (p := ⟨w.heap.size, 0, none⟩) (by show w.heap.size < _; omega)).trans c3_A_0
  have c4_W_0 : w4.cell? ⟨w3.heap.size, 0, none⟩ = some (.slice aw0 ((resTyCanon x)).length cw0) := by rw [hb4.cell (p := ⟨w3.heap.size, 0, none⟩) (by simp)]; simp
  have o4_w0 := tw0.kept TyIOwn.loc TyIOwn.sized hq4
  have B4 := below_tr B3 hq4 (by omega)
  clear c3_A_0 tw0
  have ln4_A : w.heap.size < w4.heap.size := by omega
  have nn4_A : w.heap.size ≠ w4.heap.size := by omega
  have ln4_W : w3.heap.size < w4.heap.size := by omega
  have nn4_W : w3.heap.size ≠ w4.heap.size := by omega
  go_wp2_with fail
  refine (iTyCanonC x _ _ ((tx0.kept TyIOwn.loc TyIOwn.sized (Joins.below_alloc1 w4 _)).reads TyIOwn.reads) hzb).mono ?_
  rintro e w5 ⟨ug0, Gg0, rfl, tg0, zl_g, nd_g, hb5⟩
  obtain ⟨ag0, cg0, e_g0, -, -⟩ := (tg0.reads TyIOwn.reads).form
  subst e_g0
  have zl2_g : ∀ g ∈ Gg0, w4.heap.size + 1 ≤ g := fun g hg => by have := zl_g g hg; simpa using this
  have zf_g : ∀ g ∈ Gg0, w4.heap.size + 1 ≤ g ∧ g < w5.heap.size := fun g hg => ⟨zl2_g g hg, tg0.sized TyIOwn.sized g hg⟩
  clear zl_g zl2_g
  have hq5 : Below w4.heap.size w4 w5 := below_tr (Joins.below_alloc1 w4 _) hb5
  have z5 : w4.heap.size + 1 ≤ w5.heap.size := by have := hb5.size; simp at this; omega
  have c5_A_0 := (hq5.cell (p := ⟨w.heap.size, 0, none⟩) (by show w.heap.size < _; omega)).trans c4_A_0
  have c5_W_0 := (hq5.cell (p := ⟨w3.heap.size, 0, none⟩) (by show w3.heap.size < _; omega)).trans c4_W_0
  have c5_X_0 : w5.cell? ⟨w4.heap.size, 0, none⟩ = some (.slice ax0 x.length cx0) := by rw [hb5.cell (p := ⟨w4.heap.size, 0, none⟩) (by simp)]; simp
  have o5_w0 := o4_w0.kept TyIOwn.loc TyIOwn.sized hq5
  have o5_x0 := tx0.kept TyIOwn.loc TyIOwn.sized hq5
  have B5 := below_tr B4 hq5 (by omega)
  clear c4_A_0 c4_W_0 o4_w0 tx0
  have ln5_A : w.heap.size < w5.heap.size := by omega
  have nn5_A : w.heap.size ≠ w5.heap.size := by omega
  have ln5_W : w3.heap.size < w5.heap.size := by omega
  have nn5_W : w3.heap.size ≠ w5.heap.size := by omega
  have ln5_X : w4.heap.size < w5.heap.size := by omega
  have nn5_X : w4.heap.size ≠ w5.heap.size := by omega
  go_wp2_with fail
  refine (eqTy (resTyCanon x) _ _ _ ((tg0.kept TyIOwn.loc TyIOwn.sized (Joins.below_alloc1 w5 _)).reads TyIOwn.reads) ((o5_w0.kept TyIOwn.loc TyIOwn.sized (Joins.below_alloc1 w5 _)).reads TyIOwn.reads)).mono ?_
  rintro e w6 ⟨rfl, hb6⟩
  have hq6 : Below w5.heap.size w5 w6 := below_tr (Joins.below_alloc1 w5 _) hb6
  have z6 : w5.heap.size + 1 ≤ w6.heap.size := by have := hb6.size; simp at this; omega
  have c6_A_0 := (hq6.cell (p := ⟨w.heap.size, 0, none⟩) (by show w.heap.size < _; omega)).trans c5_A_0
  have c6_W_0 := (hq6.cell (p := ⟨w3.heap.size, 0, none⟩) (by show w3.heap.size < _; omega)).trans c5_W_0
  have c6_X_0 := (hq6.cell (p := ⟨w4.heap.size, 0, none⟩) (by show w4.heap.size < _; omega)).trans c5_X_0
  have c6_G_0 : w6.cell? ⟨w5.heap.size, 0, none⟩ = some (.slice ag0 ((resTyCanon x)).length cg0) := by rw [hb6.cell (p := ⟨w5.heap.size, 0, none⟩) (by simp)]; simp
  have o6_w0 := o5_w0.kept TyIOwn.loc TyIOwn.sized hq6
  have o6_x0 := o5_x0.kept TyIOwn.loc TyIOwn.sized hq6
  have o6_g0 := tg0.kept TyIOwn.loc TyIOwn.sized hq6
  have B6 := below_tr B5 hq6 (by omega)
  clear c5_A_0 c5_W_0 c5_X_0 o5_w0 o5_x0 tg0
  have HT := fun W (hK : Kept w6 W) => Lib.hid (toTy x _ W (s0.kept TyIEl.st ((Kept.of_below B6).trans hK)) hzb)
  go_wp2_with fail
  have lt_A : w.heap.size < w6.heap.size := by omega
  have lt_X : w4.heap.size < w6.heap.size := by omega
  go_region_held3 (fun w' => w'.cell? ⟨w.heap.size, 0, none⟩ = some (.slice a0 x.length ca0) ∧ w'.cell? ⟨w4.heap.size, 0, none⟩ = some (.slice ax0 x.length cx0) ∧ Kept w6 w') (first | (exact ⟨c6_A_0, c6_X_0, Kept.refl _⟩) | (exact ⟨c6_A_0, c6_X_0, Kept.drew _⟩) | (exact ⟨(hbt.cell (p := ⟨w.heap.size, 0, none⟩) lt_A).trans c6_A_0, (hbt.cell (p := ⟨w4.heap.size, 0, none⟩) lt_X).trans c6_X_0, (Kept.drew _).trans (Kept.of_below hbt)⟩) | (exact ⟨(hbe.cell (p := ⟨w.heap.size, 0, none⟩) (Nat.lt_of_lt_of_le lt_A hbt.size)).trans ((hbt.cell (p := ⟨w.heap.size, 0, none⟩) lt_A).trans c6_A_0), (hbe.cell (p := ⟨w4.heap.size, 0, none⟩) (Nat.lt_of_lt_of_le lt_X hbt.size)).trans ((hbt.cell (p := ⟨w4.heap.size, 0, none⟩) lt_X).trans c6_X_0), ((Kept.drew _).trans (Kept.of_below hbt)).trans (Kept.of_below hbe)⟩)) (first | (go_at_call 7; refine (HT _ (by first | exact Kept.drew _ | exact Kept.refl _)).out.mono ?_; rintro e wt ⟨uz0, Fz0, rfl, roz0, _, _, hbt⟩; obtain ⟨az0, cz0, ez0, _, _⟩ := (roz0.reads TyIOwn.reads).form; subst ez0) | (go_at_call 9; refine (eqTy x _ _ _ ((o6_x0.reads TyIOwn.reads).kept TyIEl.st ((Kept.drew _).trans (Kept.of_below hbt))) (roz0.reads TyIOwn.reads)).mono ?_; rintro e we ⟨rfl, hbe⟩))
  have hbx : Below w6.heap.size w6 we := ((Below.refl _ _).drew).trans (hbt.trans (hbe.mono hbt.size))
  clear hbt hbe HT
  generalize we = w7 at *
  have z7 := hbx.size
  have c7_A_0 := (hbx.cell (p := ⟨w.heap.size, 0, none⟩) (by show w.heap.size < _; omega)).trans c6_A_0
  have c7_W_0 := (hbx.cell (p := ⟨w3.heap.size, 0, none⟩) (by show w3.heap.size < _; omega)).trans c6_W_0
  have c7_X_0 := (hbx.cell (p := ⟨w4.heap.size, 0, none⟩) (by show w4.heap.size < _; omega)).trans c6_X_0
  have c7_G_0 := (hbx.cell (p := ⟨w5.heap.size, 0, none⟩) (by show w5.heap.size < _; omega)).trans c6_G_0
  have o7_w0 := o6_w0.kept TyIOwn.loc TyIOwn.sized hbx
  have o7_x0 := o6_x0.kept TyIOwn.loc TyIOwn.sized hbx
  have o7_g0 := o6_g0.kept TyIOwn.loc TyIOwn.sized hbx
  have B7 := below_tr B6 hbx (by omega)
  clear c6_A_0 c6_W_0 c6_X_0 c6_G_0 o6_w0 o6_x0 o6_g0
  go_wp2_with fail
  refine (markTy x _ Fx0 1 _ (by omega) MX0 HMX0.out hbX o7_x0 nd_x).mono ?_
  rintro e w8 ⟨rfl, mx0, hb8⟩
  have z8 := hb8.size
  have c8_A_0 := (World.cell?_of_block (a := ⟨w.heap.size, 0, none⟩) (hb8.block w.heap.size (by omega) (fun h => by have := zf_x _ h; omega))).trans c7_A_0
  have c8_W_0 := (World.cell?_of_block (a := ⟨w3.heap.size, 0, none⟩) (hb8.block w3.heap.size (by omega) (fun h => by have := zf_x _ h; omega))).trans c7_W_0
  have c8_X_0 := (World.cell?_of_block (a := ⟨w4.heap.size, 0, none⟩) (hb8.block w4.heap.size (by omega) (fun h => by have := zf_x _ h; omega))).trans c7_X_0
  have c8_G_0 := (World.cell?_of_block (a := ⟨w5.heap.size, 0, none⟩) (hb8.block w5.heap.size (by omega) (fun h => by have := zf_x _ h; omega))).trans c7_G_0
  have o8_w0 := o7_w0.but TyIOwn.loc TyIOwn.sized hb8 (fun g hg h => by have h1 := zf_w g hg; have h2 := zf_x g h; omega)
  have o8_g0 := o7_g0.but TyIOwn.loc TyIOwn.sized hb8 (fun g hg h => by have h1 := zf_g g hg; have h2 := zf_x g h; omega)
  have B8 := B7.trans (hb8.bel (fun g hg => by have := zf_x g hg; omega) (by omega))
  clear c7_A_0 c7_W_0 c7_X_0 c7_G_0 o7_w0 o7_g0
  go_wp2_with fail
  refine (eqTy (resTyCanon x) _ _ _ (o8_g0.reads TyIOwn.reads) (o8_w0.reads TyIOwn.reads)).mono ?_
  rintro e w9 ⟨rfl, hb9⟩
  have z9 := hb9.size
  have c9_A_0 := (hb9.cell (p := ⟨w.heap.size, 0, none⟩) (by show w.heap.size < _; omega)).trans c8_A_0
  have c9_W_0 := (hb9.cell (p := ⟨w3.heap.size, 0, none⟩) (by show w3.heap.size < _; omega)).trans c8_W_0
  have c9_X_0 := (hb9.cell (p := ⟨w4.heap.size, 0, none⟩) (by show w4.heap.size < _; omega)).trans c8_X_0
  have c9_G_0 := (hb9.cell (p := ⟨w5.heap.size, 0, none⟩) (by show w5.heap.size < _; omega)).trans c8_G_0
  have o9_w0 := o8_w0.kept TyIOwn.loc TyIOwn.sized hb9
  have o9_x0 := mx0.kept TyIOwn.loc TyIOwn.sized hb9
  have o9_g0 := o8_g0.kept TyIOwn.loc TyIOwn.sized hb9
  have B9 := below_tr B8 hb9 (by omega)
  clear c8_A_0 c8_W_0 c8_X_0 c8_G_0 o8_w0 mx0 o8_g0
  go_wp2_with fail
  refine (markTy (resTyCanon x) _ Gg0 1 _ (by omega) MG0 HMG0.out hbG o9_g0 nd_g).mono ?_
  rintro e w10 ⟨rfl, mg0, hb10⟩
  have z10 := hb10.size
  have c10_A_0 := (World.cell?_of_block (a := ⟨w.heap.size, 0, none⟩) (hb10.block w.heap.size (by omega) (fun h => by have := zf_g _ h; omega))).trans c9_A_0
  have c10_W_0 := (World.cell?_of_block (a := ⟨w3.heap.size, 0, none⟩) (hb10.block w3.heap.size (by omega) (fun h => by have := zf_g _ h; omega))).trans c9_W_0
  have c10_X_0 := (World.cell?_of_block (a := ⟨w4.heap.size, 0, none⟩) (hb10.block w4.heap.size (by omega) (fun h => by have := zf_g _ h; omega))).trans c9_X_0
  have c10_G_0 := (World.cell?_of_block (a := ⟨w5.heap.size, 0, none⟩) (hb10.block w5.heap.size (by omega) (fun h => by have := zf_g _ h; omega))).trans c9_G_0
  have o10_w0 := o9_w0.but TyIOwn.loc TyIOwn.sized hb10 (fun g hg h => by have h1 := zf_w g hg; have h2 := zf_g g h; omega)
  have o10_x0 := o9_x0.but TyIOwn.loc TyIOwn.sized hb10 (fun g hg h => by have h1 := zf_x g hg; have h2 := zf_g g h; omega)
  have B10 := B9.trans (hb10.bel (fun g hg => by have := zf_g g hg; omega) (by omega))
  clear c9_A_0 c9_W_0 c9_X_0 c9_G_0 o9_w0 o9_x0
  go_wp2_with fail
  refine (heldTy (resTyCanon x) _ 1 _ (by omega) MG0 HMG0.out hbG (mg0.reads TyIOwn.reads)).mono ?_
  rintro e w11 ⟨rfl, hb11⟩
  have z11 := hb11.size
  have c11_A_0 := (hb11.cell (p := ⟨w.heap.size, 0, none⟩) (by show w.heap.size < _; omega)).trans c10_A_0
  have c11_W_0 := (hb11.cell (p := ⟨w3.heap.size, 0, none⟩) (by show w3.heap.size < _; omega)).trans c10_W_0
  have c11_X_0 := (hb11.cell (p := ⟨w4.heap.size, 0, none⟩) (by show w4.heap.size < _; omega)).trans c10_X_0
  have c11_G_0 := (hb11.cell (p := ⟨w5.heap.size, 0, none⟩) (by show w5.heap.size < _; omega)).trans c10_G_0
  have o11_w0 := o10_w0.kept TyIOwn.loc TyIOwn.sized hb11
  have o11_x0 := o10_x0.kept TyIOwn.loc TyIOwn.sized hb11
  have o11_g0 := mg0.kept TyIOwn.loc TyIOwn.sized hb11
  have B11 := below_tr B10 hb11 (by omega)
  clear c10_A_0 c10_W_0 c10_X_0 c10_G_0 o10_w0 o10_x0 mg0
  go_wp2_with fail
  refine (toTy x _ _ (s0.kept TyIEl.st (Kept.of_below B11)) hzb).mono ?_
  rintro e w12 ⟨uy0, Fy0, rfl, ty0, zl_y, nd_y, hb12⟩
  obtain ⟨ay0, cy0, e_y0, -, -⟩ := (ty0.reads TyIOwn.reads).form
  subst e_y0
  have zf_y : ∀ g ∈ Fy0, w11.heap.size ≤ g ∧ g < w12.heap.size := fun g hg => ⟨zl_y g hg, ty0.sized TyIOwn.sized g hg⟩
  clear zl_y
  have z12 := hb12.size
  have c12_A_0 := (hb12.cell (p := ⟨w.heap.size, 0, none⟩) (by show w.heap.size < _; omega)).trans c11_A_0
  have c12_W_0 := (hb12.cell (p := ⟨w3.heap.size, 0, none⟩) (by show w3.heap.size < _; omega)).trans c11_W_0
  have c12_X_0 := (hb12.cell (p := ⟨w4.heap.size, 0, none⟩) (by show w4.heap.size < _; omega)).trans c11_X_0
  have c12_G_0 := (hb12.cell (p := ⟨w5.heap.size, 0, none⟩) (by show w5.heap.size < _; omega)).trans c11_G_0
  have o12_w0 := o11_w0.kept TyIOwn.loc TyIOwn.sized hb12
  have o12_x0 := o11_x0.kept TyIOwn.loc TyIOwn.sized hb12
  have o12_g0 := o11_g0.kept TyIOwn.loc TyIOwn.sized hb12
  have B12 := below_tr B11 hb12 (by omega)
  clear c11_A_0 c11_W_0 c11_X_0 c11_G_0 o11_w0 o11_x0 o11_g0
  go_wp2_with fail
  refine (iTyCanonC x _ _ (ty0.reads TyIOwn.reads) hzb).mono ?_
  rintro e w13 ⟨uh0, Gh0, rfl, th0, zl_h, nd_h, hb13⟩
  obtain ⟨ah0, ch0, e_h0, -, -⟩ := (th0.reads TyIOwn.reads).form
  subst e_h0
  have zf_h : ∀ g ∈ Gh0, w12.heap.size ≤ g ∧ g < w13.heap.size := fun g hg => ⟨zl_h g hg, th0.sized TyIOwn.sized g hg⟩
  clear zl_h
  have z13 := hb13.size
  have c13_A_0 := (hb13.cell (p := ⟨w.heap.size, 0, none⟩) (by show w.heap.size < _; omega)).trans c12_A_0
  have c13_W_0 := (hb13.cell (p := ⟨w3.heap.size, 0, none⟩) (by show w3.heap.size < _; omega)).trans c12_W_0
  have c13_X_0 := (hb13.cell (p := ⟨w4.heap.size, 0, none⟩) (by show w4.heap.size < _; omega)).trans c12_X_0
  have c13_G_0 := (hb13.cell (p := ⟨w5.heap.size, 0, none⟩) (by show w5.heap.size < _; omega)).trans c12_G_0
  have o13_w0 := o12_w0.kept TyIOwn.loc TyIOwn.sized hb13
  have o13_x0 := o12_x0.kept TyIOwn.loc TyIOwn.sized hb13
  have o13_g0 := o12_g0.kept TyIOwn.loc TyIOwn.sized hb13
  have o13_y0 := ty0.kept TyIOwn.loc TyIOwn.sized hb13
  have B13 := below_tr B12 hb13 (by omega)
  clear c12_A_0 c12_W_0 c12_X_0 c12_G_0 o12_w0 o12_x0 o12_g0 ty0
  have ln13_A : w.heap.size < w13.heap.size := by omega
  have nn13_A : w.heap.size ≠ w13.heap.size := by omega
  have ln13_G : w5.heap.size < w13.heap.size := by omega
  have nn13_G : w5.heap.size ≠ w13.heap.size := by omega
  have ln13_W : w3.heap.size < w13.heap.size := by omega
  have nn13_W : w3.heap.size ≠ w13.heap.size := by omega
  have ln13_X : w4.heap.size < w13.heap.size := by omega
  have nn13_X : w4.heap.size ≠ w13.heap.size := by omega
  go_wp2_with fail
  refine (eqTy (resTyCanon x) _ _ _ ((th0.kept TyIOwn.loc TyIOwn.sized (Joins.below_alloc1 w13 _)).reads TyIOwn.reads) ((o13_w0.kept TyIOwn.loc TyIOwn.sized (Joins.below_alloc1 w13 _)).reads TyIOwn.reads)).mono ?_
  rintro e w14 ⟨rfl, hb14⟩
  have hq14 : Below w13.heap.size w13 w14 := below_tr (Joins.below_alloc1 w13 _) hb14
  have z14 : w13.heap.size + 1 ≤ w14.heap.size := by have := hb14.size; simp at this; omega
  have c14_A_0 := (hq14.cell (p := ⟨w.heap.size, 0, none⟩) (by show w.heap.size < _; omega)).trans c13_A_0
  have c14_W_0 := (hq14.cell (p := ⟨w3.heap.size, 0, none⟩) (by show w3.heap.size < _; omega)).trans c13_W_0
  have c14_X_0 := (hq14.cell (p := ⟨w4.heap.size, 0, none⟩) (by show w4.heap.size < _; omega)).trans c13_X_0
  have c14_G_0 := (hq14.cell (p := ⟨w5.heap.size, 0, none⟩) (by show w5.heap.size < _; omega)).trans c13_G_0
  have c14_H_0 : w14.cell? ⟨w13.heap.size, 0, none⟩ = some (.slice ah0 ((resTyCanon x)).length ch0) := by rw [hb14.cell (p := ⟨w13.heap.size, 0, none⟩) (by simp)]; simp
  have o14_w0 := o13_w0.kept TyIOwn.loc TyIOwn.sized hq14
  have o14_x0 := o13_x0.kept TyIOwn.loc TyIOwn.sized hq14
  have o14_g0 := o13_g0.kept TyIOwn.loc TyIOwn.sized hq14
  have o14_y0 := o13_y0.kept TyIOwn.loc TyIOwn.sized hq14
  have o14_h0 := th0.kept TyIOwn.loc TyIOwn.sized hq14
  have B14 := below_tr B13 hq14 (by omega)
  clear c13_A_0 c13_W_0 c13_X_0 c13_G_0 o13_w0 o13_x0 o13_g0 o13_y0 th0
  go_wp2_with fail
  refine (heldTy (resTyCanon x) _ 1 _ (by omega) MG0 HMG0.out hbG (o14_g0.reads TyIOwn.reads)).mono ?_
  rintro e w15 ⟨rfl, hb15⟩
  have z15 := hb15.size
  have c15_A_0 := (hb15.cell (p := ⟨w.heap.size, 0, none⟩) (by show w.heap.size < _; omega)).trans c14_A_0
  have c15_W_0 := (hb15.cell (p := ⟨w3.heap.size, 0, none⟩) (by show w3.heap.size < _; omega)).trans c14_W_0
  have c15_X_0 := (hb15.cell (p := ⟨w4.heap.size, 0, none⟩) (by show w4.heap.size < _; omega)).trans c14_X_0
  have c15_G_0 := (hb15.cell (p := ⟨w5.heap.size, 0, none⟩) (by show w5.heap.size < _; omega)).trans c14_G_0
  have c15_H_0 := (hb15.cell (p := ⟨w13.heap.size, 0, none⟩) (by show w13.heap.size < _; omega)).trans c14_H_0
  have o15_w0 := o14_w0.kept TyIOwn.loc TyIOwn.sized hb15
  have o15_x0 := o14_x0.kept TyIOwn.loc TyIOwn.sized hb15
  have o15_g0 := o14_g0.kept TyIOwn.loc TyIOwn.sized hb15
  have o15_y0 := o14_y0.kept TyIOwn.loc TyIOwn.sized hb15
  have o15_h0 := o14_h0.kept TyIOwn.loc TyIOwn.sized hb15
  have B15 := below_tr B14 hb15 (by omega)
  clear c14_A_0 c14_W_0 c14_X_0 c14_G_0 c14_H_0 o14_w0 o14_x0 o14_g0 o14_y0 o14_h0
  go_wp2
  go_ret
  exact ⟨rfl, B15⟩

/-! ### THE ROW's STEP: WRITTEN OUT: LEAVE IT -/
set_option maxRecDepth 100000 in
theorem lifted (os : Os) (started : os.Started) (H : Type) (enc : TypeId × Value → H) :
    ReturnsInHanded {} Try.checked os 3 .any (Rows.fnExactTyCanonSpec.pre6 enc Try.prog Try.f3 Rows.fnExactTyCanonRow.domain false) (Rows.fnExactTyCanonSpec.post enc Try.prog Try.f3 false true false false) := by
  refine returnsInHanded_of_change (C := Try.checked) own started (by kernel_rfl) Try.func3
    (ChangeSpec.witness6 (enc := enc) (C := Try.checked) false ⟨#[], #[.agg #[.slice none 0 0]], []⟩ 8 (by kernel_rfl) (by kernel_rfl) (by kernel_rfl) (by kernel_rfl)) ?_
  intro W base args ds gs before hval0 hW hcnd _
  have hval : ∀ (j : Nat) t v, Try.f3.params[j]? = some t → args[j]? = some v → Value.okWide Try.prog W .any base t v := hval0
  have hW' := hW
  obtain ⟨p, q, hA0, hV, rfl, hfz, hnd⟩ := hW
  have hA : DataW.TrodAll enc Try.prog W 0 (fun _ => true) true Try.f3.params.toList args.toList ds p := hA0
  rw [Try.params3] at hA hval
  obtain ⟨v0, vs0, d0, ds0, p0, q0, hargs, rfl, rfl, h0, r0⟩ := trodAll_cons hA
  obtain ⟨rfl, rfl, rfl⟩ := trodAll_nil r0
  obtain rfl : args = #[v0] := by cases args; simp_all
  obtain ⟨rfl, rfl⟩ := trodVars_none hV
  have lt0 : ∀ x ∈ p0, x.block < W.heap.size := by have k0 := h0; obtain ⟨m, hm⟩ := k0; exact DataW.trod_lt m _ _ _ hm
  clear hA0 hval0
  refine (walk v0 W ⟨H, enc, base, d0, p0, hval 0 24 v0 rfl rfl, h0⟩).mono fun e W' ⟨he, bel⟩ => ?_
  subst he
  exact ⟨_, rfl, _, _, _, [], _, [], hW', trodAll_mk1 (shut_bool Try.underlying4 _), (trodAll_cons_mk (Below.trod laidOut (by kernel_rfl) (of_decide_eq_true (by kernel_rfl)) h0 bel lt0) trodAll_mk0), rfl, bel.frame _, fun h => by cases h⟩

theorem over : Rows.fnExactTyCanonRow.holds Try.pinned (OpenSpec.ofChange Rows.fnExactTyCanonSpec) :=
  OpenClaim.holds_of_wide 3 Try.f3 rfl rfl rfl rfl rfl rfl rfl ⟨rfl, rfl, rfl, rfl, rfl⟩ rfl rfl rfl rfl rfl (by kernel_rfl) Try.func3 (by kernel_rfl)
    (of_decide_eq_true (by kernel_rfl)) (by unfold Func.isWrapper; first | (rw [if_pos (by decide +kernel)]; kernel_rfl) | (rw [if_neg (by decide +kernel)]; exact ⟨rfl, rfl⟩))
    (fun os started H enc _ => lifted os started H enc)

/-- ████ THE STATEMENT ████ -/
theorem proved : Rows.FnExactTyCanonSaid := over
#print axioms proved
end Go.Proofs.Ytciohamonmmciaa.fnExactTyCanon
