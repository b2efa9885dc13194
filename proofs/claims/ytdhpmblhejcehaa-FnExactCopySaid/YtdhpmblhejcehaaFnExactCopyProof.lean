/- The law FnExactCopy of this commit's code returns true for every input and leaves its arguments as they were: no conditions. -/
/-
  THE SHELL OF A PROOF OF 'Rows.FnExactCopySaid' ('loop.example/g00395/laws.FnExactCopy'), for parameters of whatever type.
-/
import Derived.Test.YtdhpmblhejcehaaRows
import Derived.Test.YtdhpmblhejcehaaArgs
import Derived.Test.YtdhpmblhejcehaaSz
import Derived.Test.YtdhpmblhejcehaaTo
import Derived.Test.YtdhpmblhejcehaaEq
import Derived.Test.YtdhpmblhejcehaaMark
import Derived.Test.YtdhpmblhejcehaaHeld
import Derived.Test.YtdhpmblhejcehaaCpM
import Derived.Deep.RegionHeld3
import Derived.WalkKit
import Derived.ProofKit
import Derived.OpenShut
import Derived.ShutString
import Derived.ChangeOld
import Derived.Below
namespace Go.Proofs.Ytdhpmblhejcehaa.fnExactCopy
open Go.ChangeShapes Go.WideShapes Go.ChangeAt Go.RowKit
open Go.ChangeMaps (open_string shut_string)
set_option linter.unusedVariables false

theorem own : ownKnob Try.prog.godebug = none := by kernel_rfl
theorem laidOut : laidOutB Try.prog = true := by kernel_rfl

/-! ### STEP 1: THE WALK -/
set_option maxHeartbeats 4000000 in
set_option maxRecDepth 100000 in
theorem walk (v0 : Value) (v1 : Value) (w : World) (w0 : ArgIn Try.prog 32 w v0) (w1 : ArgIn Try.prog 33 w v1) :
    Calls Try.prog 6 #[v0, v1] w fun e w' => e = .returned (.bool true) ∧ Below w.heap.size w w' := by
  obtain ⟨x1, r1_0⟩ := open_CellS w0
  have s1_0 := r1_0
  obtain ⟨a1_0, ca1_0, e_a1_0, -, -⟩ := r1_0.form
  subst e_a1_0
  obtain ⟨x2, r2_0⟩ := open_ValS w1
  have s2_0 := r2_0
  obtain ⟨a2_0, ca2_0, e_a2_0, -, -⟩ := r2_0.form
  subst e_a2_0
  go_enter Try.func6, Try.ntmps6
  go_wp2_with fail
  refine (szCellS x1 _ 1048576 _ (by omega) (s1_0.kept CeEl.st (Kept.refl _))).mono ?_
  rintro e w1 ⟨hb1, ⟨rfl, _⟩ | ⟨q1, rfl, hq_1⟩⟩
  · go_wp2
    go_ret
    exact ⟨rfl, below_tr (Below.refl _ _) hb1⟩
  have hz1 : bulkL bCe x1 ≤ 1048576 := by omega
  have B1 : Below w.heap.size w w1 := below_tr (Below.refl _ _) hb1
  have z1 := hb1.size
  have hl1 : x1.length ≤ 1048576 := Nat.le_trans (bulkL_len _ _) hz1
  go_wp2_with fail
  refine (szValS x2 _ q1 _ (by omega) (s2_0.kept VlEl.st (Kept.of_below B1))).mono ?_
  rintro e w2 ⟨hb2, ⟨rfl, _⟩ | ⟨q2, rfl, hq_2⟩⟩
  · go_wp2
    go_ret
    exact ⟨rfl, below_tr B1 hb2⟩
  have hz2 : bulkL bVl x2 ≤ 1048576 := by omega
  have z2 := hb2.size
  have B2 := below_tr B1 hb2 (by omega)
  have hl2 : x2.length ≤ 1048576 := Nat.le_trans (bulkL_len _ _) hz2
  clear hq_1 hq_2
  have hC1 : cntL cCe x1 ≤ 20000000 := by have hzb := hz1; skip; have h0 := cntL_bulk _ _ cb_Ce x1; omega
  obtain ⟨MX1_0, hMX1_0⟩ : ∃ M, M = 1 + cntL cCe x1 := ⟨_, rfl⟩
  have hbX1 : MX1_0 ≤ 20000001 := by omega
  have hpX1 : 0 < MX1_0 := by omega
  have hC2 : cntL cVl x2 ≤ 20000000 := by have hzb := hz2; skip; have h0 := cntL_bulk _ _ cb_Vl x2; omega
  obtain ⟨MX2_0, hMX2_0⟩ : ∃ M, M = MX1_0 + cntL cVl x2 := ⟨_, rfl⟩
  have hbX2 : MX2_0 ≤ 40000002 := by omega
  have hpX2 : 0 < MX2_0 := by omega
  have HMX1_0 := Lib.hid hMX1_0
  have HMX2_0 := Lib.hid hMX2_0
  clear hMX1_0 hMX2_0 hC1 hC2
  obtain ⟨MG_0, hMG_0⟩ : ∃ M, M = 1 + cntL cCe ((resCopy x1 x2).1) := ⟨_, rfl⟩
  obtain ⟨MG_1, hMG_1⟩ : ∃ M, M = MG_0 + cntL cVl ((resCopy x1 x2).2) := ⟨_, rfl⟩
  have hbG : MG_1 ≤ 1000000000000 := by have := Copy_cnt x1 x2 hz1 hz2; omega
  have hpG : 0 < MG_1 := by omega
  have hbG_0 : MG_0 ≤ 1000000000000 := by omega
  have hpG_0 : 0 < MG_0 := by omega
  have hbG_1 : MG_1 ≤ 1000000000000 := by omega
  have hpG_1 : 0 < MG_1 := by omega
  have HMG_0 := Lib.hid hMG_0
  have HMG_1 := Lib.hid hMG_1
  clear hMG_0 hMG_1
  go_wp2_with fail
  refine (toCellS x1 _ _ (s1_0.kept CeEl.st (Kept.of_below B2)) hl1 hz1).mono ?_
  rintro e w3 ⟨up1_0, Fp1_0, rfl, tp1_0, zl_p1, nd_p1, hb3⟩
  obtain ⟨ap1_0, cp1_0, e_p1_0, -, -⟩ := (tp1_0.reads CeOwn.reads).form
  subst e_p1_0
  have zf_p1 : ∀ g ∈ Fp1_0, w2.heap.size ≤ g ∧ g < w3.heap.size := fun g hg => ⟨zl_p1 g hg, tp1_0.sized CeOwn.sized g hg⟩
  clear zl_p1
  have z3 := hb3.size
  have B3 := below_tr B2 hb3 (by omega)
  go_wp2_with fail
  refine (toValS x2 _ _ (s2_0.kept VlEl.st (Kept.of_below B3)) hl2 hz2).mono ?_
  rintro e w4 ⟨up2_0, Fp2_0, rfl, tp2_0, zl_p2, nd_p2, hb4⟩
  obtain ⟨ap2_0, cp2_0, e_p2_0, -, -⟩ := (tp2_0.reads VlOwn.reads).form
  subst e_p2_0
  have zf_p2 : ∀ g ∈ Fp2_0, w3.heap.size ≤ g ∧ g < w4.heap.size := fun g hg => ⟨zl_p2 g hg, tp2_0.sized VlOwn.sized g hg⟩
  clear zl_p2
  have z4 := hb4.size
  have o4_p1_0 := tp1_0.kept CeOwn.loc CeOwn.sized hb4
  have B4 := below_tr B3 hb4 (by omega)
  clear tp1_0
  go_wp2_with fail
  refine (sCopyC x1 x2 _ _ _ (o4_p1_0.reads CeOwn.reads) (tp2_0.reads VlOwn.reads) hz1 hz2).mono ?_
  rintro e w5 ⟨uw_0, uw_1, Gw_0, Gw_1, rfl, tw_0, tw_1, zl_w, nd_w, hb5⟩
  obtain ⟨aw_0, cw_0, e_w_0, -, -⟩ := (tw_0.reads CeOwn.reads).form
  subst e_w_0
  obtain ⟨aw_1, cw_1, e_w_1, -, -⟩ := (tw_1.reads VlOwn.reads).form
  subst e_w_1
  have zf_w : ∀ g ∈ Gw_0 ++ Gw_1, w4.heap.size ≤ g ∧ g < w5.heap.size := fun g hg => ⟨zl_w g hg, (List.mem_append.1 hg).elim (tw_0.sized CeOwn.sized g) (tw_1.sized VlOwn.sized g)⟩
  clear zl_w
  have z5 := hb5.size
  have o5_p1_0 := o4_p1_0.kept CeOwn.loc CeOwn.sized hb5
  have o5_p2_0 := tp2_0.kept VlOwn.loc VlOwn.sized hb5
  have B5 := below_tr B4 hb5 (by omega)
  clear o4_p1_0 tp2_0
  clear o5_p1_0
  clear o5_p2_0
  go_wp2_with fail
  refine (toCellS x1 _ _ (s1_0.kept CeEl.st (Kept.of_below B5)) hl1 hz1).mono ?_
  rintro e w6 ⟨ux1_0, Fx1_0, rfl, tx1_0, zl_x1, nd_x1, hb6⟩
  obtain ⟨ax1_0, cx1_0, e_x1_0, -, -⟩ := (tx1_0.reads CeOwn.reads).form
  subst e_x1_0
  have zf_x1 : ∀ g ∈ Fx1_0, w5.heap.size ≤ g ∧ g < w6.heap.size := fun g hg => ⟨zl_x1 g hg, tx1_0.sized CeOwn.sized g hg⟩
  clear zl_x1
  have z6 := hb6.size
  have o6_w_0 := tw_0.kept CeOwn.loc CeOwn.sized hb6
  have o6_w_1 := tw_1.kept VlOwn.loc VlOwn.sized hb6
  have B6 := below_tr B5 hb6 (by omega)
  clear tw_0 tw_1
  go_wp2_with fail
  refine (toValS x2 _ _ (s2_0.kept VlEl.st (Kept.of_below B6)) hl2 hz2).mono ?_
  rintro e w7 ⟨ux2_0, Fx2_0, rfl, tx2_0, zl_x2, nd_x2, hb7⟩
  obtain ⟨ax2_0, cx2_0, e_x2_0, -, -⟩ := (tx2_0.reads VlOwn.reads).form
  subst e_x2_0
  have zf_x2 : ∀ g ∈ Fx2_0, w6.heap.size ≤ g ∧ g < w7.heap.size := fun g hg => ⟨zl_x2 g hg, tx2_0.sized VlOwn.sized g hg⟩
  clear zl_x2
  have z7 := hb7.size
  have o7_w_0 := o6_w_0.kept CeOwn.loc CeOwn.sized hb7
  have o7_w_1 := o6_w_1.kept VlOwn.loc VlOwn.sized hb7
  have o7_x1_0 := tx1_0.kept CeOwn.loc CeOwn.sized hb7
  have B7 := below_tr B6 hb7 (by omega)
  clear o6_w_0 o6_w_1 tx1_0
  go_wp2_with fail
  refine (iCopyC x1 x2 _ _ _ (o7_x1_0.reads CeOwn.reads) (tx2_0.reads VlOwn.reads) hz1 hz2).mono ?_
  rintro e w8 ⟨ug_0, ug_1, Gg_0, Gg_1, rfl, tg_0, tg_1, zl_g, nd_g, hb8⟩
  obtain ⟨ag_0, cg_0, e_g_0, -, -⟩ := (tg_0.reads CeOwn.reads).form
  subst e_g_0
  obtain ⟨ag_1, cg_1, e_g_1, -, -⟩ := (tg_1.reads VlOwn.reads).form
  subst e_g_1
  have zf_g : ∀ g ∈ Gg_0 ++ Gg_1, w7.heap.size ≤ g ∧ g < w8.heap.size := fun g hg => ⟨zl_g g hg, (List.mem_append.1 hg).elim (tg_0.sized CeOwn.sized g) (tg_1.sized VlOwn.sized g)⟩
  clear zl_g
  have z8 := hb8.size
  have o8_w_0 := o7_w_0.kept CeOwn.loc CeOwn.sized hb8
  have o8_w_1 := o7_w_1.kept VlOwn.loc VlOwn.sized hb8
  have o8_x1_0 := o7_x1_0.kept CeOwn.loc CeOwn.sized hb8
  have o8_x2_0 := tx2_0.kept VlOwn.loc VlOwn.sized hb8
  have B8 := below_tr B7 hb8 (by omega)
  clear o7_w_0 o7_w_1 o7_x1_0 tx2_0
  obtain ⟨ndg_0, ndg_1, dj_g⟩ := List.nodup_append.1 nd_g
  have zf_g_0 : ∀ g ∈ Gg_0, w7.heap.size ≤ g ∧ g < w8.heap.size := fun g hg => zf_g g (List.mem_append_left _ hg)
  have zf_g_1 : ∀ g ∈ Gg_1, w7.heap.size ≤ g ∧ g < w8.heap.size := fun g hg => zf_g g (List.mem_append_right _ hg)
  go_wp2_with fail
  refine (eqCellS ((resCopy x1 x2).1) _ _ _ (tg_0.reads CeOwn.reads) (o8_w_0.reads CeOwn.reads)).mono ?_
  rintro e w9 ⟨rfl, hb9⟩
  have z9 := hb9.size
  have o9_w_0 := o8_w_0.kept CeOwn.loc CeOwn.sized hb9
  have o9_w_1 := o8_w_1.kept VlOwn.loc VlOwn.sized hb9
  have o9_x1_0 := o8_x1_0.kept CeOwn.loc CeOwn.sized hb9
  have o9_x2_0 := o8_x2_0.kept VlOwn.loc VlOwn.sized hb9
  have o9_g_0 := tg_0.kept CeOwn.loc CeOwn.sized hb9
  have o9_g_1 := tg_1.kept VlOwn.loc VlOwn.sized hb9
  have B9 := below_tr B8 hb9 (by omega)
  clear o8_w_0 o8_w_1 o8_x1_0 o8_x2_0 tg_0 tg_1
  go_wp2_with fail
  refine (eqValS ((resCopy x1 x2).2) _ _ _ (o9_g_1.reads VlOwn.reads) (o9_w_1.reads VlOwn.reads)).mono ?_
  rintro e w10 ⟨rfl, hb10⟩
  have z10 := hb10.size
  have o10_w_0 := o9_w_0.kept CeOwn.loc CeOwn.sized hb10
  have o10_w_1 := o9_w_1.kept VlOwn.loc VlOwn.sized hb10
  have o10_x1_0 := o9_x1_0.kept CeOwn.loc CeOwn.sized hb10
  have o10_x2_0 := o9_x2_0.kept VlOwn.loc VlOwn.sized hb10
  have o10_g_0 := o9_g_0.kept CeOwn.loc CeOwn.sized hb10
  have o10_g_1 := o9_g_1.kept VlOwn.loc VlOwn.sized hb10
  have B10 := below_tr B9 hb10 (by omega)
  clear o9_w_0 o9_w_1 o9_x1_0 o9_x2_0 o9_g_0 o9_g_1
  go_wp2_with fail
  refine (toCellS x1 _ _ (s1_0.kept CeEl.st (Kept.of_below B10)) hl1 hz1).mono ?_
  rintro e w11 ⟨uz1_0, Fz1_0, rfl, tz1_0, zl_z1, nd_z1, hb11⟩
  obtain ⟨az1_0, cz1_0, e_z1_0, -, -⟩ := (tz1_0.reads CeOwn.reads).form
  subst e_z1_0
  have zf_z1 : ∀ g ∈ Fz1_0, w10.heap.size ≤ g ∧ g < w11.heap.size := fun g hg => ⟨zl_z1 g hg, tz1_0.sized CeOwn.sized g hg⟩
  clear zl_z1
  have z11 := hb11.size
  have o11_w_0 := o10_w_0.kept CeOwn.loc CeOwn.sized hb11
  have o11_w_1 := o10_w_1.kept VlOwn.loc VlOwn.sized hb11
  have o11_x1_0 := o10_x1_0.kept CeOwn.loc CeOwn.sized hb11
  have o11_x2_0 := o10_x2_0.kept VlOwn.loc VlOwn.sized hb11
  have o11_g_0 := o10_g_0.kept CeOwn.loc CeOwn.sized hb11
  have o11_g_1 := o10_g_1.kept VlOwn.loc VlOwn.sized hb11
  have B11 := below_tr B10 hb11 (by omega)
  clear o10_w_0 o10_w_1 o10_x1_0 o10_x2_0 o10_g_0 o10_g_1
  go_wp2_with fail
  refine (eqCellS x1 _ _ _ (o11_x1_0.reads CeOwn.reads) (tz1_0.reads CeOwn.reads)).mono ?_
  rintro e w12 ⟨rfl, hb12⟩
  have z12 := hb12.size
  have o12_w_0 := o11_w_0.kept CeOwn.loc CeOwn.sized hb12
  have o12_w_1 := o11_w_1.kept VlOwn.loc VlOwn.sized hb12
  have o12_x1_0 := o11_x1_0.kept CeOwn.loc CeOwn.sized hb12
  have o12_x2_0 := o11_x2_0.kept VlOwn.loc VlOwn.sized hb12
  have o12_g_0 := o11_g_0.kept CeOwn.loc CeOwn.sized hb12
  have o12_g_1 := o11_g_1.kept VlOwn.loc VlOwn.sized hb12
  have o12_z1_0 := tz1_0.kept CeOwn.loc CeOwn.sized hb12
  have B12 := below_tr B11 hb12 (by omega)
  clear o11_w_0 o11_w_1 o11_x1_0 o11_x2_0 o11_g_0 o11_g_1 tz1_0
  clear o12_z1_0
  go_wp2_with fail
  refine (toValS x2 _ _ (s2_0.kept VlEl.st (Kept.of_below B12)) hl2 hz2).mono ?_
  rintro e w13 ⟨uz2_0, Fz2_0, rfl, tz2_0, zl_z2, nd_z2, hb13⟩
  obtain ⟨az2_0, cz2_0, e_z2_0, -, -⟩ := (tz2_0.reads VlOwn.reads).form
  subst e_z2_0
  have zf_z2 : ∀ g ∈ Fz2_0, w12.heap.size ≤ g ∧ g < w13.heap.size := fun g hg => ⟨zl_z2 g hg, tz2_0.sized VlOwn.sized g hg⟩
  clear zl_z2
  have z13 := hb13.size
  have o13_w_0 := o12_w_0.kept CeOwn.loc CeOwn.sized hb13
  have o13_w_1 := o12_w_1.kept VlOwn.loc VlOwn.sized hb13
  have o13_x1_0 := o12_x1_0.kept CeOwn.loc CeOwn.sized hb13
  have o13_x2_0 := o12_x2_0.kept VlOwn.loc VlOwn.sized hb13
  have o13_g_0 := o12_g_0.kept CeOwn.loc CeOwn.sized hb13
  have o13_g_1 := o12_g_1.kept VlOwn.loc VlOwn.sized hb13
  have B13 := below_tr B12 hb13 (by omega)
  clear o12_w_0 o12_w_1 o12_x1_0 o12_x2_0 o12_g_0 o12_g_1
  go_wp2_with fail
  refine (eqValS x2 _ _ _ (o13_x2_0.reads VlOwn.reads) (tz2_0.reads VlOwn.reads)).mono ?_
  rintro e w14 ⟨rfl, hb14⟩
  have z14 := hb14.size
  have o14_w_0 := o13_w_0.kept CeOwn.loc CeOwn.sized hb14
  have o14_w_1 := o13_w_1.kept VlOwn.loc VlOwn.sized hb14
  have o14_x1_0 := o13_x1_0.kept CeOwn.loc CeOwn.sized hb14
  have o14_x2_0 := o13_x2_0.kept VlOwn.loc VlOwn.sized hb14
  have o14_g_0 := o13_g_0.kept CeOwn.loc CeOwn.sized hb14
  have o14_g_1 := o13_g_1.kept VlOwn.loc VlOwn.sized hb14
  have o14_z2_0 := tz2_0.kept VlOwn.loc VlOwn.sized hb14
  have B14 := below_tr B13 hb14 (by omega)
  clear o13_w_0 o13_w_1 o13_x1_0 o13_x2_0 o13_g_0 o13_g_1 tz2_0
  clear o14_z2_0
  go_wp2_with fail
  refine (markCellS x1 _ Fx1_0 _ 1 MX1_0 _ rfl (by omega) HMX1_0.out (by omega) o14_x1_0 nd_x1).mono ?_
  rintro e w15 ⟨rfl, mx1_0, hb15⟩
  have z15 := hb15.size
  have o15_w_0 := o14_w_0.but CeOwn.loc CeOwn.sized hb15 (fun g hg h => by have h1 := zf_w g (List.mem_append_left _ hg); have h2 := zf_x1 g h; omega)
  have o15_w_1 := o14_w_1.but VlOwn.loc VlOwn.sized hb15 (fun g hg h => by have h1 := zf_w g (List.mem_append_right _ hg); have h2 := zf_x1 g h; omega)
  have o15_x2_0 := o14_x2_0.but VlOwn.loc VlOwn.sized hb15 (fun g hg h => by have h1 := zf_x2 g hg; have h2 := zf_x1 g h; omega)
  have o15_g_0 := o14_g_0.but CeOwn.loc CeOwn.sized hb15 (fun g hg h => by have h1 := zf_g_0 g hg; have h2 := zf_x1 g h; omega)
  have o15_g_1 := o14_g_1.but VlOwn.loc VlOwn.sized hb15 (fun g hg h => by have h1 := zf_g_1 g hg; have h2 := zf_x1 g h; omega)
  have B15 := B14.trans (hb15.bel (fun g hg => by have := zf_x1 g hg; omega) (by omega))
  clear o14_w_0 o14_w_1 o14_x2_0 o14_g_0 o14_g_1
  go_wp2_with fail
  refine (markValS x2 _ Fx2_0 _ MX1_0 MX2_0 _ rfl (by omega) HMX2_0.out (by omega) o15_x2_0 nd_x2).mono ?_
  rintro e w16 ⟨rfl, mx2_0, hb16⟩
  have z16 := hb16.size
  have o16_w_0 := o15_w_0.but CeOwn.loc CeOwn.sized hb16 (fun g hg h => by have h1 := zf_w g (List.mem_append_left _ hg); have h2 := zf_x2 g h; omega)
  have o16_w_1 := o15_w_1.but VlOwn.loc VlOwn.sized hb16 (fun g hg h => by have h1 := zf_w g (List.mem_append_right _ hg); have h2 := zf_x2 g h; omega)
  have o16_x1_0 := mx1_0.but CeOwn.loc CeOwn.sized hb16 (fun g hg h => by have h1 := zf_x1 g hg; have h2 := zf_x2 g h; omega)
  have o16_g_0 := o15_g_0.but CeOwn.loc CeOwn.sized hb16 (fun g hg h => by have h1 := zf_g_0 g hg; have h2 := zf_x2 g h; omega)
  have o16_g_1 := o15_g_1.but VlOwn.loc VlOwn.sized hb16 (fun g hg h => by have h1 := zf_g_1 g hg; have h2 := zf_x2 g h; omega)
  have B16 := B15.trans (hb16.bel (fun g hg => by have := zf_x2 g hg; omega) (by omega))
  clear o15_w_0 o15_w_1 mx1_0 o15_g_0 o15_g_1
  go_wp2_with fail
  refine (eqCellS ((resCopy x1 x2).1) _ _ _ (o16_g_0.reads CeOwn.reads) (o16_w_0.reads CeOwn.reads)).mono ?_
  rintro e w17 ⟨rfl, hb17⟩
  have z17 := hb17.size
  have o17_w_0 := o16_w_0.kept CeOwn.loc CeOwn.sized hb17
  have o17_w_1 := o16_w_1.kept VlOwn.loc VlOwn.sized hb17
  have o17_x1_0 := o16_x1_0.kept CeOwn.loc CeOwn.sized hb17
  have o17_x2_0 := mx2_0.kept VlOwn.loc VlOwn.sized hb17
  have o17_g_0 := o16_g_0.kept CeOwn.loc CeOwn.sized hb17
  have o17_g_1 := o16_g_1.kept VlOwn.loc VlOwn.sized hb17
  have B17 := below_tr B16 hb17 (by omega)
  clear o16_w_0 o16_w_1 o16_x1_0 mx2_0 o16_g_0 o16_g_1
  go_wp2_with fail
  refine (eqValS ((resCopy x1 x2).2) _ _ _ (o17_g_1.reads VlOwn.reads) (o17_w_1.reads VlOwn.reads)).mono ?_
  rintro e w18 ⟨rfl, hb18⟩
  have z18 := hb18.size
  have o18_w_0 := o17_w_0.kept CeOwn.loc CeOwn.sized hb18
  have o18_w_1 := o17_w_1.kept VlOwn.loc VlOwn.sized hb18
  have o18_x1_0 := o17_x1_0.kept CeOwn.loc CeOwn.sized hb18
  have o18_x2_0 := o17_x2_0.kept VlOwn.loc VlOwn.sized hb18
  have o18_g_0 := o17_g_0.kept CeOwn.loc CeOwn.sized hb18
  have o18_g_1 := o17_g_1.kept VlOwn.loc VlOwn.sized hb18
  have B18 := below_tr B17 hb18 (by omega)
  clear o17_w_0 o17_w_1 o17_x1_0 o17_x2_0 o17_g_0 o17_g_1
  go_wp2_with fail
  refine (markCellS ((resCopy x1 x2).1) _ Gg_0 _ 1 MG_0 _ rfl (by omega) HMG_0.out (by omega) o18_g_0 ndg_0).mono ?_
  rintro e w19 ⟨rfl, mg_0, hb19⟩
  have z19 := hb19.size
  have o19_w_0 := o18_w_0.but CeOwn.loc CeOwn.sized hb19 (fun g hg h => by have h1 := zf_w g (List.mem_append_left _ hg); have h2 := zf_g_0 g h; omega)
  have o19_w_1 := o18_w_1.but VlOwn.loc VlOwn.sized hb19 (fun g hg h => by have h1 := zf_w g (List.mem_append_right _ hg); have h2 := zf_g_0 g h; omega)
  have o19_x1_0 := o18_x1_0.but CeOwn.loc CeOwn.sized hb19 (fun g hg h => by have h1 := zf_x1 g hg; have h2 := zf_g_0 g h; omega)
  have o19_x2_0 := o18_x2_0.but VlOwn.loc VlOwn.sized hb19 (fun g hg h => by have h1 := zf_x2 g hg; have h2 := zf_g_0 g h; omega)
  have o19_g_1 := o18_g_1.but VlOwn.loc VlOwn.sized hb19 (fun g hg h => dj_g g h g hg rfl)
  have B19 := B18.trans (hb19.bel (fun g hg => by have := zf_g_0 g hg; omega) (by omega))
  clear o18_w_0 o18_w_1 o18_x1_0 o18_x2_0 o18_g_1
  go_wp2_with fail
  refine (markValS ((resCopy x1 x2).2) _ Gg_1 _ MG_0 MG_1 _ rfl (by omega) HMG_1.out (by omega) o19_g_1 ndg_1).mono ?_
  rintro e w20 ⟨rfl, mg_1, hb20⟩
  have z20 := hb20.size
  have o20_w_0 := o19_w_0.but CeOwn.loc CeOwn.sized hb20 (fun g hg h => by have h1 := zf_w g (List.mem_append_left _ hg); have h2 := zf_g_1 g h; omega)
  have o20_w_1 := o19_w_1.but VlOwn.loc VlOwn.sized hb20 (fun g hg h => by have h1 := zf_w g (List.mem_append_right _ hg); have h2 := zf_g_1 g h; omega)
  have o20_x1_0 := o19_x1_0.but CeOwn.loc CeOwn.sized hb20 (fun g hg h => by have h1 := zf_x1 g hg; have h2 := zf_g_1 g h; omega)
  have o20_x2_0 := o19_x2_0.but VlOwn.loc VlOwn.sized hb20 (fun g hg h => by have h1 := zf_x2 g hg; have h2 := zf_g_1 g h; omega)
  have o20_g_0 := mg_0.but CeOwn.loc CeOwn.sized hb20 (fun g hg h => dj_g g hg g h rfl)
  have B20 := B19.trans (hb20.bel (fun g hg => by have := zf_g_1 g hg; omega) (by omega))
  clear o19_w_0 o19_w_1 o19_x1_0 o19_x2_0 mg_0
  go_wp2_with fail
  refine (heldCellS ((resCopy x1 x2).1) _ _ 1 MG_0 _ rfl (by omega) HMG_0.out hbG_0 (o20_g_0.reads CeOwn.reads)).mono ?_
  rintro e w21 ⟨rfl, hb21⟩
  have z21 := hb21.size
  have o21_w_0 := o20_w_0.kept CeOwn.loc CeOwn.sized hb21
  have o21_w_1 := o20_w_1.kept VlOwn.loc VlOwn.sized hb21
  have o21_x1_0 := o20_x1_0.kept CeOwn.loc CeOwn.sized hb21
  have o21_x2_0 := o20_x2_0.kept VlOwn.loc VlOwn.sized hb21
  have o21_g_0 := o20_g_0.kept CeOwn.loc CeOwn.sized hb21
  have o21_g_1 := mg_1.kept VlOwn.loc VlOwn.sized hb21
  have B21 := below_tr B20 hb21 (by omega)
  clear o20_w_0 o20_w_1 o20_x1_0 o20_x2_0 o20_g_0 mg_1
  go_wp2_with fail
  refine (heldValS ((resCopy x1 x2).2) _ _ MG_0 MG_1 _ rfl (by omega) HMG_1.out hbG_1 (o21_g_1.reads VlOwn.reads)).mono ?_
  rintro e w22 ⟨rfl, hb22⟩
  have z22 := hb22.size
  have o22_w_0 := o21_w_0.kept CeOwn.loc CeOwn.sized hb22
  have o22_w_1 := o21_w_1.kept VlOwn.loc VlOwn.sized hb22
  have o22_x1_0 := o21_x1_0.kept CeOwn.loc CeOwn.sized hb22
  have o22_x2_0 := o21_x2_0.kept VlOwn.loc VlOwn.sized hb22
  have o22_g_0 := o21_g_0.kept CeOwn.loc CeOwn.sized hb22
  have o22_g_1 := o21_g_1.kept VlOwn.loc VlOwn.sized hb22
  have B22 := below_tr B21 hb22 (by omega)
  clear o21_w_0 o21_w_1 o21_x1_0 o21_x2_0 o21_g_0 o21_g_1
  go_wp2_with fail
  refine (toCellS x1 _ _ (s1_0.kept CeEl.st (Kept.of_below B22)) hl1 hz1).mono ?_
  rintro e w23 ⟨uy1_0, Fy1_0, rfl, ty1_0, zl_y1, nd_y1, hb23⟩
  obtain ⟨ay1_0, cy1_0, e_y1_0, -, -⟩ := (ty1_0.reads CeOwn.reads).form
  subst e_y1_0
  have zf_y1 : ∀ g ∈ Fy1_0, w22.heap.size ≤ g ∧ g < w23.heap.size := fun g hg => ⟨zl_y1 g hg, ty1_0.sized CeOwn.sized g hg⟩
  clear zl_y1
  have z23 := hb23.size
  have o23_w_0 := o22_w_0.kept CeOwn.loc CeOwn.sized hb23
  have o23_w_1 := o22_w_1.kept VlOwn.loc VlOwn.sized hb23
  have o23_x1_0 := o22_x1_0.kept CeOwn.loc CeOwn.sized hb23
  have o23_x2_0 := o22_x2_0.kept VlOwn.loc VlOwn.sized hb23
  have o23_g_0 := o22_g_0.kept CeOwn.loc CeOwn.sized hb23
  have o23_g_1 := o22_g_1.kept VlOwn.loc VlOwn.sized hb23
  have B23 := below_tr B22 hb23 (by omega)
  clear o22_w_0 o22_w_1 o22_x1_0 o22_x2_0 o22_g_0 o22_g_1
  go_wp2_with fail
  refine (toValS x2 _ _ (s2_0.kept VlEl.st (Kept.of_below B23)) hl2 hz2).mono ?_
  rintro e w24 ⟨uy2_0, Fy2_0, rfl, ty2_0, zl_y2, nd_y2, hb24⟩
  obtain ⟨ay2_0, cy2_0, e_y2_0, -, -⟩ := (ty2_0.reads VlOwn.reads).form
  subst e_y2_0
  have zf_y2 : ∀ g ∈ Fy2_0, w23.heap.size ≤ g ∧ g < w24.heap.size := fun g hg => ⟨zl_y2 g hg, ty2_0.sized VlOwn.sized g hg⟩
  clear zl_y2
  have z24 := hb24.size
  have o24_w_0 := o23_w_0.kept CeOwn.loc CeOwn.sized hb24
  have o24_w_1 := o23_w_1.kept VlOwn.loc VlOwn.sized hb24
  have o24_x1_0 := o23_x1_0.kept CeOwn.loc CeOwn.sized hb24
  have o24_x2_0 := o23_x2_0.kept VlOwn.loc VlOwn.sized hb24
  have o24_g_0 := o23_g_0.kept CeOwn.loc CeOwn.sized hb24
  have o24_g_1 := o23_g_1.kept VlOwn.loc VlOwn.sized hb24
  have o24_y1_0 := ty1_0.kept CeOwn.loc CeOwn.sized hb24
  have B24 := below_tr B23 hb24 (by omega)
  clear o23_w_0 o23_w_1 o23_x1_0 o23_x2_0 o23_g_0 o23_g_1 ty1_0
  go_wp2_with fail
  refine (iCopyC x1 x2 _ _ _ (o24_y1_0.reads CeOwn.reads) (ty2_0.reads VlOwn.reads) hz1 hz2).mono ?_
  rintro e w25 ⟨uh_0, uh_1, Gh_0, Gh_1, rfl, th_0, th_1, zl_h, nd_h, hb25⟩
  obtain ⟨ah_0, ch_0, e_h_0, -, -⟩ := (th_0.reads CeOwn.reads).form
  subst e_h_0
  obtain ⟨ah_1, ch_1, e_h_1, -, -⟩ := (th_1.reads VlOwn.reads).form
  subst e_h_1
  have zf_h : ∀ g ∈ Gh_0 ++ Gh_1, w24.heap.size ≤ g ∧ g < w25.heap.size := fun g hg => ⟨zl_h g hg, (List.mem_append.1 hg).elim (th_0.sized CeOwn.sized g) (th_1.sized VlOwn.sized g)⟩
  clear zl_h
  have z25 := hb25.size
  have o25_w_0 := o24_w_0.kept CeOwn.loc CeOwn.sized hb25
  have o25_w_1 := o24_w_1.kept VlOwn.loc VlOwn.sized hb25
  have o25_x1_0 := o24_x1_0.kept CeOwn.loc CeOwn.sized hb25
  have o25_x2_0 := o24_x2_0.kept VlOwn.loc VlOwn.sized hb25
  have o25_g_0 := o24_g_0.kept CeOwn.loc CeOwn.sized hb25
  have o25_g_1 := o24_g_1.kept VlOwn.loc VlOwn.sized hb25
  have o25_y1_0 := o24_y1_0.kept CeOwn.loc CeOwn.sized hb25
  have o25_y2_0 := ty2_0.kept VlOwn.loc VlOwn.sized hb25
  have B25 := below_tr B24 hb25 (by omega)
  clear o24_w_0 o24_w_1 o24_x1_0 o24_x2_0 o24_g_0 o24_g_1 o24_y1_0 ty2_0
  go_wp2_with fail
  refine (eqCellS ((resCopy x1 x2).1) _ _ _ (th_0.reads CeOwn.reads) (o25_w_0.reads CeOwn.reads)).mono ?_
  rintro e w26 ⟨rfl, hb26⟩
  have z26 := hb26.size
  have o26_w_0 := o25_w_0.kept CeOwn.loc CeOwn.sized hb26
  have o26_w_1 := o25_w_1.kept VlOwn.loc VlOwn.sized hb26
  have o26_x1_0 := o25_x1_0.kept CeOwn.loc CeOwn.sized hb26
  have o26_x2_0 := o25_x2_0.kept VlOwn.loc VlOwn.sized hb26
  have o26_g_0 := o25_g_0.kept CeOwn.loc CeOwn.sized hb26
  have o26_g_1 := o25_g_1.kept VlOwn.loc VlOwn.sized hb26
  have o26_y1_0 := o25_y1_0.kept CeOwn.loc CeOwn.sized hb26
  have o26_y2_0 := o25_y2_0.kept VlOwn.loc VlOwn.sized hb26
  have o26_h_0 := th_0.kept CeOwn.loc CeOwn.sized hb26
  have o26_h_1 := th_1.kept VlOwn.loc VlOwn.sized hb26
  have B26 := below_tr B25 hb26 (by omega)
  clear o25_w_0 o25_w_1 o25_x1_0 o25_x2_0 o25_g_0 o25_g_1 o25_y1_0 o25_y2_0 th_0 th_1
  go_wp2_with fail
  refine (eqValS ((resCopy x1 x2).2) _ _ _ (o26_h_1.reads VlOwn.reads) (o26_w_1.reads VlOwn.reads)).mono ?_
  rintro e w27 ⟨rfl, hb27⟩
  have z27 := hb27.size
  have o27_w_0 := o26_w_0.kept CeOwn.loc CeOwn.sized hb27
  have o27_w_1 := o26_w_1.kept VlOwn.loc VlOwn.sized hb27
  have o27_x1_0 := o26_x1_0.kept CeOwn.loc CeOwn.sized hb27
  have o27_x2_0 := o26_x2_0.kept VlOwn.loc VlOwn.sized hb27
  have o27_g_0 := o26_g_0.kept CeOwn.loc CeOwn.sized hb27
  have o27_g_1 := o26_g_1.kept VlOwn.loc VlOwn.sized hb27
  have o27_y1_0 := o26_y1_0.kept CeOwn.loc CeOwn.sized hb27
  have o27_y2_0 := o26_y2_0.kept VlOwn.loc VlOwn.sized hb27
  have o27_h_0 := o26_h_0.kept CeOwn.loc CeOwn.sized hb27
  have o27_h_1 := o26_h_1.kept VlOwn.loc VlOwn.sized hb27
  have B27 := below_tr B26 hb27 (by omega)
  clear o26_w_0 o26_w_1 o26_x1_0 o26_x2_0 o26_g_0 o26_g_1 o26_y1_0 o26_y2_0 o26_h_0 o26_h_1
  go_wp2_with fail
  refine (heldCellS ((resCopy x1 x2).1) _ _ 1 MG_0 _ rfl (by omega) HMG_0.out hbG_0 (o27_g_0.reads CeOwn.reads)).mono ?_
  rintro e w28 ⟨rfl, hb28⟩
  have z28 := hb28.size
  have o28_w_0 := o27_w_0.kept CeOwn.loc CeOwn.sized hb28
  have o28_w_1 := o27_w_1.kept VlOwn.loc VlOwn.sized hb28
  have o28_x1_0 := o27_x1_0.kept CeOwn.loc CeOwn.sized hb28
  have o28_x2_0 := o27_x2_0.kept VlOwn.loc VlOwn.sized hb28
  have o28_g_0 := o27_g_0.kept CeOwn.loc CeOwn.sized hb28
  have o28_g_1 := o27_g_1.kept VlOwn.loc VlOwn.sized hb28
  have o28_y1_0 := o27_y1_0.kept CeOwn.loc CeOwn.sized hb28
  have o28_y2_0 := o27_y2_0.kept VlOwn.loc VlOwn.sized hb28
  have o28_h_0 := o27_h_0.kept CeOwn.loc CeOwn.sized hb28
  have o28_h_1 := o27_h_1.kept VlOwn.loc VlOwn.sized hb28
  have B28 := below_tr B27 hb28 (by omega)
  clear o27_w_0 o27_w_1 o27_x1_0 o27_x2_0 o27_g_0 o27_g_1 o27_y1_0 o27_y2_0 o27_h_0 o27_h_1
  go_wp2_with fail
  refine (heldValS ((resCopy x1 x2).2) _ _ MG_0 MG_1 _ rfl (by omega) HMG_1.out hbG_1 (o28_g_1.reads VlOwn.reads)).mono ?_
  rintro e w29 ⟨rfl, hb29⟩
  have z29 := hb29.size
  have o29_w_0 := o28_w_0.kept CeOwn.loc CeOwn.sized hb29
  have o29_w_1 := o28_w_1.kept VlOwn.loc VlOwn.sized hb29
  have o29_x1_0 := o28_x1_0.kept CeOwn.loc CeOwn.sized hb29
  have o29_x2_0 := o28_x2_0.kept VlOwn.loc VlOwn.sized hb29
  have o29_g_0 := o28_g_0.kept CeOwn.loc CeOwn.sized hb29
  have o29_g_1 := o28_g_1.kept VlOwn.loc VlOwn.sized hb29
  have o29_y1_0 := o28_y1_0.kept CeOwn.loc CeOwn.sized hb29
  have o29_y2_0 := o28_y2_0.kept VlOwn.loc VlOwn.sized hb29
  have o29_h_0 := o28_h_0.kept CeOwn.loc CeOwn.sized hb29
  have o29_h_1 := o28_h_1.kept VlOwn.loc VlOwn.sized hb29
  have B29 := below_tr B28 hb29 (by omega)
  clear o28_w_0 o28_w_1 o28_x1_0 o28_x2_0 o28_g_0 o28_g_1 o28_y1_0 o28_y2_0 o28_h_0 o28_h_1
  go_wp2
  go_ret
  exact ⟨rfl, B29⟩

/-! ### THE ROW's STEP: WRITTEN OUT: LEAVE IT -/
set_option maxRecDepth 100000 in
theorem lifted (os : Os) (started : os.Started) (H : Type) (enc : TypeId × Value → H) :
    ReturnsInHanded {} Try.checked os 6 .any (Rows.fnExactCopySpec.pre6 enc Try.prog Try.f6 Rows.fnExactCopyRow.domain false) (Rows.fnExactCopySpec.post enc Try.prog Try.f6 false true false false) := by
  refine returnsInHanded_of_change (C := Try.checked) own started (by kernel_rfl) Try.func6
    (ChangeSpec.witness6 (enc := enc) (C := Try.checked) false ⟨#[], #[.slice none 0 0, .slice none 0 0], []⟩ 8 (by kernel_rfl) (by kernel_rfl) (by kernel_rfl) (by kernel_rfl)) ?_
  intro W base args ds gs before hval0 hW hcnd _
  have hval : ∀ (j : Nat) t v, Try.f6.params[j]? = some t → args[j]? = some v → Value.okWide Try.prog W .any base t v := hval0
  have hW' := hW
  obtain ⟨p, q, hA0, hV, rfl, hfz, hnd⟩ := hW
  have hA : DataW.TrodAll enc Try.prog W 0 (fun _ => true) true Try.f6.params.toList args.toList ds p := hA0
  rw [Try.params6] at hA hval
  obtain ⟨v0, vs0, d0, ds0, p0, q0, hargs, rfl, rfl, h0, r0⟩ := trodAll_cons hA
  obtain ⟨v1, vs1, d1, ds1, p1, q1, rfl, rfl, rfl, h1, r1⟩ := trodAll_cons r0
  obtain ⟨rfl, rfl, rfl⟩ := trodAll_nil r1
  obtain rfl : args = #[v0, v1] := by cases args; simp_all
  obtain ⟨rfl, rfl⟩ := trodVars_none hV
  have lt0 : ∀ x ∈ p0, x.block < W.heap.size := by have k0 := h0; obtain ⟨m, hm⟩ := k0; exact DataW.trod_lt m _ _ _ hm
  have lt1 : ∀ x ∈ p1, x.block < W.heap.size := by have k1 := h1; obtain ⟨m, hm⟩ := k1; exact DataW.trod_lt m _ _ _ hm
  clear hA0 hval0
  refine (walk v0 v1 W ⟨H, enc, base, d0, p0, hval 0 32 v0 rfl rfl, h0⟩ ⟨H, enc, base, d1, p1, hval 1 33 v1 rfl rfl, h1⟩).mono fun e W' ⟨he, bel⟩ => ?_
  subst he
  exact ⟨_, rfl, _, _, _, [], _, [], hW', trodAll_mk1 (shut_bool Try.underlying4 _), (trodAll_cons_mk (Below.trod laidOut (by kernel_rfl) (of_decide_eq_true (by kernel_rfl)) h0 bel lt0) (trodAll_cons_mk (Below.trod laidOut (by kernel_rfl) (of_decide_eq_true (by kernel_rfl)) h1 bel lt1) trodAll_mk0)), rfl, bel.frame _, fun h => by cases h⟩

theorem over : Rows.fnExactCopyRow.holds Try.pinned (OpenSpec.ofChange Rows.fnExactCopySpec) :=
  OpenClaim.holds_of_wide 6 Try.f6 rfl rfl rfl rfl rfl rfl rfl ⟨rfl, rfl, rfl, rfl, rfl⟩ rfl rfl rfl rfl rfl (by kernel_rfl) Try.func6 (by kernel_rfl)
    (of_decide_eq_true (by kernel_rfl)) (by unfold Func.isWrapper; first | (rw [if_pos (by decide +kernel)]; kernel_rfl) | (rw [if_neg (by decide +kernel)]; exact ⟨rfl, rfl⟩))
    (fun os started H enc _ => lifted os started H enc)

/-- ████ THE STATEMENT ████ -/
theorem proved : Rows.FnExactCopySaid := over
#print axioms proved
end Go.Proofs.Ytdhpmblhejcehaa.fnExactCopy
