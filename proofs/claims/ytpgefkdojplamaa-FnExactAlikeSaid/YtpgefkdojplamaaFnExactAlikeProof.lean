/- The law FnExactAlike of this commit's code returns true for every input and leaves its arguments as they were: no conditions. -/
/-
  THE SHELL OF A PROOF OF 'Rows.FnExactAlikeSaid' ('loop.example/g00395/laws.FnExactAlike'), for parameters of whatever type.
-/
import Derived.Test.YtpgefkdojplamaaRows
import Derived.Test.YtpgefkdojplamaaArgs
import Derived.Test.YtpgefkdojplamaaSz
import Derived.Test.YtpgefkdojplamaaTo
import Derived.Test.YtpgefkdojplamaaEq
import Derived.Test.YtpgefkdojplamaaAlk
import Derived.Deep.RegionHeld3
import Derived.WalkKit
import Derived.ProofKit
import Derived.OpenShut
import Derived.ShutString
import Derived.ChangeOld
import Derived.Below
namespace Go.Proofs.Ytpgefkdojplamaa.fnExactAlike
open Go.ChangeShapes Go.WideShapes Go.ChangeAt Go.RowKit
open Go.ChangeMaps (open_string shut_string)
set_option linter.unusedVariables false

theorem own : ownKnob Try.prog.godebug = none := by kernel_rfl
theorem laidOut : laidOutB Try.prog = true := by kernel_rfl

/-! ### STEP 1: THE WALK -/
set_option maxHeartbeats 4000000 in
set_option maxRecDepth 100000 in
theorem walk (v0 : Value) (v1 : Value) (w : World) (w0 : ArgIn Try.prog 24 w v0) (w1 : ArgIn Try.prog 24 w v1) :
    Calls Try.prog 3 #[v0, v1] w fun e w' => e = .returned (.bool true) ∧ Below w.heap.size w w' := by
  obtain ⟨x1, v1_2, rfl, i1_0, i1_1, r1_2, i1_3⟩ := open_Outcome w0
  have s1_2 := r1_2
  obtain ⟨a1_2, ca1_2, e_a1_2, -, -⟩ := r1_2.form
  subst e_a1_2
  obtain ⟨x2, v2_2, rfl, i2_0, i2_1, r2_2, i2_3⟩ := open_Outcome w1
  have s2_2 := r2_2
  obtain ⟨a2_2, ca2_2, e_a2_2, -, -⟩ := r2_2.form
  subst e_a2_2
  go_enter Try.func3, Try.ntmps3
  go_wp2_with fail
  refine (szOutcome x1 _ 1048576 _ (by omega) (s1_2.kept StrEl.st (Kept.al2 _ _ _))).mono ?_
  rintro e w1 ⟨hb1, ⟨rfl, _⟩ | ⟨q1, rfl, hq_1⟩⟩
  · go_wp2
    go_ret
    exact ⟨rfl, below_tr (Joins.below_alloc2 w _ _) hb1⟩
  have hz1 : bOc x1 ≤ 1048576 := by omega
  have B1 : Below w.heap.size w w1 := below_tr (Joins.below_alloc2 w _ _) hb1
  have z1 : w.heap.size + 2 ≤ w1.heap.size := by have := hb1.size; simp at this; omega
  have c1_A1_0 : w1.cell? ⟨w.heap.size, 0, none⟩ = some (.int .i64 x1.kind) := by rw [hb1.cell (p := ⟨w.heap.size, 0, none⟩) (by first | (simp; done) | (simp; omega))]; first | (simp; done) | (simp; omega)
  have c1_A1_1 : w1.cell? ⟨w.heap.size, 1, none⟩ = some (.int .i64 x1.n) := by rw [hb1.cell (p := ⟨w.heap.size, 1, none⟩) (by first | (simp; done) | (simp; omega))]; first | (simp; done) | (simp; omega)
  have c1_A1_2 : w1.cell? ⟨w.heap.size, 2, none⟩ = some (.slice a1_2 x1.trace.length ca1_2) := by rw [hb1.cell (p := ⟨w.heap.size, 2, none⟩) (by first | (simp; done) | (simp; omega))]; first | (simp; done) | (simp; omega)
  have c1_A1_3 : w1.cell? ⟨w.heap.size, 3, none⟩ = some (.int .i64 x1.steps) := by rw [hb1.cell (p := ⟨w.heap.size, 3, none⟩) (by first | (simp; done) | (simp; omega))]; first | (simp; done) | (simp; omega)
  have c1_A2_0 : w1.cell? ⟨w.heap.size + 1, 0, none⟩ = some (.int .i64 x2.kind) := by rw [hb1.cell (p := ⟨w.heap.size + 1, 0, none⟩) (by first | (simp; done) | (simp; omega))]; first | (simp; done) | (simp; omega)
  have c1_A2_1 : w1.cell? ⟨w.heap.size + 1, 1, none⟩ = some (.int .i64 x2.n) := by rw [hb1.cell (p := ⟨w.heap.size + 1, 1, none⟩) (by first | (simp; done) | (simp; omega))]; first | (simp; done) | (simp; omega)
  have c1_A2_2 : w1.cell? ⟨w.heap.size + 1, 2, none⟩ = some (.slice a2_2 x2.trace.length ca2_2) := by rw [hb1.cell (p := ⟨w.heap.size + 1, 2, none⟩) (by first | (simp; done) | (simp; omega))]; first | (simp; done) | (simp; omega)
  have c1_A2_3 : w1.cell? ⟨w.heap.size + 1, 3, none⟩ = some (.int .i64 x2.steps) := by rw [hb1.cell (p := ⟨w.heap.size + 1, 3, none⟩) (by first | (simp; done) | (simp; omega))]; first | (simp; done) | (simp; omega)
  go_wp2_with fail
  refine (szOutcome x2 _ q1 _ (by omega) (s2_2.kept StrEl.st (Kept.of_below B1))).mono ?_
  rintro e w2 ⟨hb2, ⟨rfl, _⟩ | ⟨q2, rfl, hq_2⟩⟩
  · go_wp2
    go_ret
    exact ⟨rfl, below_tr B1 hb2⟩
  have hz2 : bOc x2 ≤ 1048576 := by omega
  have z2 := hb2.size
  have c2_A1_0 := (hb2.cell (p := ⟨w.heap.size, 0, none⟩) (by show w.heap.size < _; omega)).trans c1_A1_0
  have c2_A1_1 := (hb2.cell (p := ⟨w.heap.size, 1, none⟩) (by show w.heap.size < _; omega)).trans c1_A1_1
  have c2_A1_2 := (hb2.cell (p := ⟨w.heap.size, 2, none⟩) (by show w.heap.size < _; omega)).trans c1_A1_2
  have c2_A1_3 := (hb2.cell (p := ⟨w.heap.size, 3, none⟩) (by show w.heap.size < _; omega)).trans c1_A1_3
  have c2_A2_0 := (hb2.cell (p := ⟨w.heap.size + 1, 0, none⟩) (by show w.heap.size + 1 < _; omega)).trans c1_A2_0
  have c2_A2_1 := (hb2.cell (p := ⟨w.heap.size + 1, 1, none⟩) (by show w.heap.size + 1 < _; omega)).trans c1_A2_1
  have c2_A2_2 := (hb2.cell (p := ⟨w.heap.size + 1, 2, none⟩) (by show w.heap.size + 1 < _; omega)).trans c1_A2_2
  have c2_A2_3 := (hb2.cell (p := ⟨w.heap.size + 1, 3, none⟩) (by show w.heap.size + 1 < _; omega)).trans c1_A2_3
  have B2 := below_tr B1 hb2 (by omega)
  clear c1_A1_0 c1_A1_1 c1_A1_2 c1_A1_3 c1_A2_0 c1_A2_1 c1_A2_2 c1_A2_3
  clear hq_1 hq_2
  have hS : ∀ W, Below w2.heap.size w2 W → (W.cell? ⟨w.heap.size, 0, none⟩ = some (.int .i64 x1.kind) ∧ W.cell? ⟨w.heap.size, 1, none⟩ = some (.int .i64 x1.n) ∧ W.cell? ⟨w.heap.size, 2, none⟩ = some (.slice a1_2 x1.trace.length ca1_2) ∧ W.cell? ⟨w.heap.size, 3, none⟩ = some (.int .i64 x1.steps) ∧ W.cell? ⟨w.heap.size + 1, 0, none⟩ = some (.int .i64 x2.kind) ∧ W.cell? ⟨w.heap.size + 1, 1, none⟩ = some (.int .i64 x2.n) ∧ W.cell? ⟨w.heap.size + 1, 2, none⟩ = some (.slice a2_2 x2.trace.length ca2_2) ∧ W.cell? ⟨w.heap.size + 1, 3, none⟩ = some (.int .i64 x2.steps) ∧ Below w2.heap.size w2 W) := fun W hB => ⟨(hB.cell (p := ⟨w.heap.size, 0, none⟩) (by show w.heap.size < _; omega)).trans c2_A1_0, (hB.cell (p := ⟨w.heap.size, 1, none⟩) (by show w.heap.size < _; omega)).trans c2_A1_1, (hB.cell (p := ⟨w.heap.size, 2, none⟩) (by show w.heap.size < _; omega)).trans c2_A1_2, (hB.cell (p := ⟨w.heap.size, 3, none⟩) (by show w.heap.size < _; omega)).trans c2_A1_3, (hB.cell (p := ⟨w.heap.size + 1, 0, none⟩) (by show w.heap.size + 1 < _; omega)).trans c2_A2_0, (hB.cell (p := ⟨w.heap.size + 1, 1, none⟩) (by show w.heap.size + 1 < _; omega)).trans c2_A2_1, (hB.cell (p := ⟨w.heap.size + 1, 2, none⟩) (by show w.heap.size + 1 < _; omega)).trans c2_A2_2, (hB.cell (p := ⟨w.heap.size + 1, 3, none⟩) (by show w.heap.size + 1 < _; omega)).trans c2_A2_3, hB⟩
  have HT1 := fun W (hB : Below w2.heap.size w2 W) => Lib.hid (toOutcome x1 _ W (s1_2.kept StrEl.st (Kept.of_below (below_tr B2 hB (by omega)))) hz1)
  have HT2 := fun W (hB : Below w2.heap.size w2 W) => Lib.hid (toOutcome x2 _ W (s2_2.kept StrEl.st (Kept.of_below (below_tr B2 hB (by omega)))) hz2)
  go_wp2_with fail
  go_region_held3 (fun W => W.cell? ⟨w.heap.size, 0, none⟩ = some (.int .i64 x1.kind) ∧ W.cell? ⟨w.heap.size, 1, none⟩ = some (.int .i64 x1.n) ∧ W.cell? ⟨w.heap.size, 2, none⟩ = some (.slice a1_2 x1.trace.length ca1_2) ∧ W.cell? ⟨w.heap.size, 3, none⟩ = some (.int .i64 x1.steps) ∧ W.cell? ⟨w.heap.size + 1, 0, none⟩ = some (.int .i64 x2.kind) ∧ W.cell? ⟨w.heap.size + 1, 1, none⟩ = some (.int .i64 x2.n) ∧ W.cell? ⟨w.heap.size + 1, 2, none⟩ = some (.slice a2_2 x2.trace.length ca2_2) ∧ W.cell? ⟨w.heap.size + 1, 3, none⟩ = some (.int .i64 x2.steps) ∧ Below w2.heap.size w2 W)
    (first | exact hS _ hB5 | exact hS _ hBPD | exact hS _ hBDP | exact hS _ hBP | exact hS _ hBD | exact hS _ (Below.refl _ _).drew | exact hS _ (Below.refl _ _))
    (first
      | (go_at_call 7; first | ((with_reducible refine (HT1 _ hBD).out.mono ?_); rintro e w4 ⟨up1_2, Fp1_2, rfl, tp1_2, zl_p1, nd_p1, hb3⟩; obtain ⟨ap1_2, cp1_2, e_p1_2, _, _⟩ := (tp1_2.reads (Flat.reads StrEl)).form; subst e_p1_2; have hBDP := below_tr hBD hb3) | ((with_reducible refine (HT1 _ (by first | exact (Below.refl _ _).drew | exact Below.refl _ _)).out.mono ?_); rintro e w3 ⟨up1_2, Fp1_2, rfl, tp1_2, zl_p1, nd_p1, hb3⟩; obtain ⟨ap1_2, cp1_2, e_p1_2, _, _⟩ := (tp1_2.reads (Flat.reads StrEl)).form; subst e_p1_2; have hBP : Below w2.heap.size w2 w3 := (Below.refl _ _).drew.trans hb3))
      | (go_at_call 7; first | ((with_reducible refine (HT2 _ hBP).out.mono ?_); rintro e w4 ⟨up2_2, Fp2_2, rfl, tp2_2, zl_p2, nd_p2, hb4⟩; obtain ⟨ap2_2, cp2_2, e_p2_2, _, _⟩ := (tp2_2.reads (Flat.reads StrEl)).form; subst e_p2_2; have hBPD := below_tr hBP hb4) | ((with_reducible refine (HT2 _ (by first | exact (Below.refl _ _).drew | exact Below.refl _ _)).out.mono ?_); rintro e w3 ⟨up2_2, Fp2_2, rfl, tp2_2, zl_p2, nd_p2, hb4⟩; obtain ⟨ap2_2, cp2_2, e_p2_2, _, _⟩ := (tp2_2.reads (Flat.reads StrEl)).form; subst e_p2_2; have hBD : Below w2.heap.size w2 w3 := (Below.refl _ _).drew.trans hb4))
      | (go_at_call 6; first | ((with_reducible refine (sAlikeC x1 x2 _ _ _ ((tp1_2.kept StrFlat.loc (Flat.sized StrEl) hb4).reads (Flat.reads StrEl)) (tp2_2.reads (Flat.reads StrEl)) hz1 hz2).mono ?_); rintro e w5 ⟨rfl, hb5⟩; have hB5 := below_tr hBPD hb5) | ((with_reducible refine (sAlikeC x1 x2 _ _ _ (tp1_2.reads (Flat.reads StrEl)) ((tp2_2.kept StrFlat.loc (Flat.sized StrEl) hb3).reads (Flat.reads StrEl)) hz1 hz2).mono ?_); rintro e w5 ⟨rfl, hb5⟩; have hB5 := below_tr hBDP hb5)))
  all_goals
    have z5 := hB5.size
    obtain ⟨c5_A1_0, c5_A1_1, c5_A1_2, c5_A1_3, c5_A2_0, c5_A2_1, c5_A2_2, c5_A2_3, -⟩ := hS _ hB5
    have B5 := below_tr B2 hB5 (by omega)
    clear hB5 hb5 hS HT1 HT2 tp1_2 tp2_2 zl_p1 zl_p2 nd_p1 nd_p2 hb3 hb4 c2_A1_0 c2_A1_1 c2_A1_2 c2_A1_3 c2_A2_0 c2_A2_1 c2_A2_2 c2_A2_3
    go_wp2_with fail
    refine (toOutcome x1 _ _ (s1_2.kept StrEl.st (Kept.of_below B5)) hz1).mono ?_
    rintro e w6 ⟨ux1_2, Fx1_2, rfl, tx1_2, zl_x1, nd_x1, hb6⟩
    obtain ⟨ax1_2, cx1_2, e_x1_2, -, -⟩ := (tx1_2.reads (Flat.reads StrEl)).form
    subst e_x1_2
    have zf_x1 : ∀ g ∈ Fx1_2, w5.heap.size ≤ g ∧ g < w6.heap.size := fun g hg => ⟨zl_x1 g hg, tx1_2.sized (Flat.sized StrEl) g hg⟩
    clear zl_x1
    have z6 := hb6.size
    have c6_A1_0 := (hb6.cell (p := ⟨w.heap.size, 0, none⟩) (by show w.heap.size < _; omega)).trans c5_A1_0
    have c6_A1_1 := (hb6.cell (p := ⟨w.heap.size, 1, none⟩) (by show w.heap.size < _; omega)).trans c5_A1_1
    have c6_A1_2 := (hb6.cell (p := ⟨w.heap.size, 2, none⟩) (by show w.heap.size < _; omega)).trans c5_A1_2
    have c6_A1_3 := (hb6.cell (p := ⟨w.heap.size, 3, none⟩) (by show w.heap.size < _; omega)).trans c5_A1_3
    have c6_A2_0 := (hb6.cell (p := ⟨w.heap.size + 1, 0, none⟩) (by show w.heap.size + 1 < _; omega)).trans c5_A2_0
    have c6_A2_1 := (hb6.cell (p := ⟨w.heap.size + 1, 1, none⟩) (by show w.heap.size + 1 < _; omega)).trans c5_A2_1
    have c6_A2_2 := (hb6.cell (p := ⟨w.heap.size + 1, 2, none⟩) (by show w.heap.size + 1 < _; omega)).trans c5_A2_2
    have c6_A2_3 := (hb6.cell (p := ⟨w.heap.size + 1, 3, none⟩) (by show w.heap.size + 1 < _; omega)).trans c5_A2_3
    have B6 := below_tr B5 hb6 (by omega)
    clear c5_A1_0 c5_A1_1 c5_A1_2 c5_A1_3 c5_A2_0 c5_A2_1 c5_A2_2 c5_A2_3
    have ln6_A1_0 : w.heap.size < w6.heap.size := by omega
    have nn6_A1_0 : w.heap.size ≠ w6.heap.size := by omega
    have ln6_A2_0 : w.heap.size + 1 < w6.heap.size := by omega
    have nn6_A2_0 : w.heap.size + 1 ≠ w6.heap.size := by omega
    go_wp2_with fail
    refine (toOutcome x2 _ _ (s2_2.kept StrEl.st ((Kept.of_below B6).trans (Kept.alloc _ _))) hz2).mono ?_
    rintro e w7 ⟨ux2_2, Fx2_2, rfl, tx2_2, zl_x2, nd_x2, hb7⟩
    obtain ⟨ax2_2, cx2_2, e_x2_2, -, -⟩ := (tx2_2.reads (Flat.reads StrEl)).form
    subst e_x2_2
    have zl2_x2 : ∀ g ∈ Fx2_2, w6.heap.size + 1 ≤ g := fun g hg => by have := zl_x2 g hg; simpa using this
    have zf_x2 : ∀ g ∈ Fx2_2, w6.heap.size + 1 ≤ g ∧ g < w7.heap.size := fun g hg => ⟨zl2_x2 g hg, tx2_2.sized (Flat.sized StrEl) g hg⟩
    clear zl_x2 zl2_x2
    have hq7 : Below w6.heap.size w6 w7 := below_tr (Joins.below_alloc1 w6 _) hb7
    have z7 : w6.heap.size + 1 ≤ w7.heap.size := by have := hb7.size; simp at this; omega
    have c7_A1_0 := (hq7.cell (p := ⟨w.heap.size, 0, none⟩) (by show w.heap.size < _; omega)).trans c6_A1_0
    have c7_A1_1 := (hq7.cell (p := ⟨w.heap.size, 1, none⟩) (by show w.heap.size < _; omega)).trans c6_A1_1
    have c7_A1_2 := (hq7.cell (p := ⟨w.heap.size, 2, none⟩) (by show w.heap.size < _; omega)).trans c6_A1_2
    have c7_A1_3 := (hq7.cell (p := ⟨w.heap.size, 3, none⟩) (by show w.heap.size < _; omega)).trans c6_A1_3
    have c7_A2_0 := (hq7.cell (p := ⟨w.heap.size + 1, 0, none⟩) (by show w.heap.size + 1 < _; omega)).trans c6_A2_0
    have c7_A2_1 := (hq7.cell (p := ⟨w.heap.size + 1, 1, none⟩) (by show w.heap.size + 1 < _; omega)).trans c6_A2_1
    have c7_A2_2 := (hq7.cell (p := ⟨w.heap.size + 1, 2, none⟩) (by show w.heap.size + 1 < _; omega)).trans c6_A2_2
    have c7_A2_3 := (hq7.cell (p := ⟨w.heap.size + 1, 3, none⟩) (by show w.heap.size + 1 < _; omega)).trans c6_A2_3
    have c7_X1_0 : w7.cell? ⟨w6.heap.size, 0, none⟩ = some (.int .i64 x1.kind) := by rw [hb7.cell (p := ⟨w6.heap.size, 0, none⟩) (by first | (simp; done) | (simp; omega))]; first | (simp; done) | (simp; omega)
    have c7_X1_1 : w7.cell? ⟨w6.heap.size, 1, none⟩ = some (.int .i64 x1.n) := by rw [hb7.cell (p := ⟨w6.heap.size, 1, none⟩) (by first | (simp; done) | (simp; omega))]; first | (simp; done) | (simp; omega)
    have c7_X1_2 : w7.cell? ⟨w6.heap.size, 2, none⟩ = some (.slice ax1_2 x1.trace.length cx1_2) := by rw [hb7.cell (p := ⟨w6.heap.size, 2, none⟩) (by first | (simp; done) | (simp; omega))]; first | (simp; done) | (simp; omega)
    have c7_X1_3 : w7.cell? ⟨w6.heap.size, 3, none⟩ = some (.int .i64 x1.steps) := by rw [hb7.cell (p := ⟨w6.heap.size, 3, none⟩) (by first | (simp; done) | (simp; omega))]; first | (simp; done) | (simp; omega)
    have o7_x1_2 := tx1_2.kept StrFlat.loc (Flat.sized StrEl) hq7
    have B7 := below_tr B6 hq7 (by omega)
    clear c6_A1_0 c6_A1_1 c6_A1_2 c6_A1_3 c6_A2_0 c6_A2_1 c6_A2_2 c6_A2_3 tx1_2
    have ln7_A1_0 : w.heap.size < w7.heap.size := by omega
    have nn7_A1_0 : w.heap.size ≠ w7.heap.size := by omega
    have ln7_A2_0 : w.heap.size + 1 < w7.heap.size := by omega
    have nn7_A2_0 : w.heap.size + 1 ≠ w7.heap.size := by omega
    have ln7_X1_0 : w6.heap.size < w7.heap.size := by omega
    have nn7_X1_0 : w6.heap.size ≠ w7.heap.size := by omega
    go_wp2_with fail
    refine (iAlikeC x1 x2 _ _ _ ((o7_x1_2.kept StrFlat.loc (Flat.sized StrEl) (Joins.below_alloc1 w7 _)).reads (Flat.reads StrEl)) ((tx2_2.kept StrFlat.loc (Flat.sized StrEl) (Joins.below_alloc1 w7 _)).reads (Flat.reads StrEl)) hz1 hz2).mono ?_
    rintro e w8 ⟨rfl, hb8⟩
    have hq8 : Below w7.heap.size w7 w8 := below_tr (Joins.below_alloc1 w7 _) hb8
    have z8 : w7.heap.size + 1 ≤ w8.heap.size := by have := hb8.size; simp at this; omega
    have c8_A1_0 := (hq8.cell (p := ⟨w.heap.size, 0, none⟩) (by show w.heap.size < _; omega)).trans c7_A1_0
    have c8_A1_1 := (hq8.cell (p := ⟨w.heap.size, 1, none⟩) (by show w.heap.size < _; omega)).trans c7_A1_1
    have c8_A1_2 := (hq8.cell (p := ⟨w.heap.size, 2, none⟩) (by show w.heap.size < _; omega)).trans c7_A1_2
    have c8_A1_3 := (hq8.cell (p := ⟨w.heap.size, 3, none⟩) (by show w.heap.size < _; omega)).trans c7_A1_3
    have c8_A2_0 := (hq8.cell (p := ⟨w.heap.size + 1, 0, none⟩) (by show w.heap.size + 1 < _; omega)).trans c7_A2_0
    have c8_A2_1 := (hq8.cell (p := ⟨w.heap.size + 1, 1, none⟩) (by show w.heap.size + 1 < _; omega)).trans c7_A2_1
    have c8_A2_2 := (hq8.cell (p := ⟨w.heap.size + 1, 2, none⟩) (by show w.heap.size + 1 < _; omega)).trans c7_A2_2
    have c8_A2_3 := (hq8.cell (p := ⟨w.heap.size + 1, 3, none⟩) (by show w.heap.size + 1 < _; omega)).trans c7_A2_3
    have c8_X1_0 := (hq8.cell (p := ⟨w6.heap.size, 0, none⟩) (by show w6.heap.size < _; omega)).trans c7_X1_0
    have c8_X1_1 := (hq8.cell (p := ⟨w6.heap.size, 1, none⟩) (by show w6.heap.size < _; omega)).trans c7_X1_1
    have c8_X1_2 := (hq8.cell (p := ⟨w6.heap.size, 2, none⟩) (by show w6.heap.size < _; omega)).trans c7_X1_2
    have c8_X1_3 := (hq8.cell (p := ⟨w6.heap.size, 3, none⟩) (by show w6.heap.size < _; omega)).trans c7_X1_3
    have c8_X2_0 : w8.cell? ⟨w7.heap.size, 0, none⟩ = some (.int .i64 x2.kind) := by rw [hb8.cell (p := ⟨w7.heap.size, 0, none⟩) (by first | (simp; done) | (simp; omega))]; first | (simp; done) | (simp; omega)
    have c8_X2_1 : w8.cell? ⟨w7.heap.size, 1, none⟩ = some (.int .i64 x2.n) := by rw [hb8.cell (p := ⟨w7.heap.size, 1, none⟩) (by first | (simp; done) | (simp; omega))]; first | (simp; done) | (simp; omega)
    have c8_X2_2 : w8.cell? ⟨w7.heap.size, 2, none⟩ = some (.slice ax2_2 x2.trace.length cx2_2) := by rw [hb8.cell (p := ⟨w7.heap.size, 2, none⟩) (by first | (simp; done) | (simp; omega))]; first | (simp; done) | (simp; omega)
    have c8_X2_3 : w8.cell? ⟨w7.heap.size, 3, none⟩ = some (.int .i64 x2.steps) := by rw [hb8.cell (p := ⟨w7.heap.size, 3, none⟩) (by first | (simp; done) | (simp; omega))]; first | (simp; done) | (simp; omega)
    have o8_x1_2 := o7_x1_2.kept StrFlat.loc (Flat.sized StrEl) hq8
    have o8_x2_2 := tx2_2.kept StrFlat.loc (Flat.sized StrEl) hq8
    have B8 := below_tr B7 hq8 (by omega)
    clear c7_A1_0 c7_A1_1 c7_A1_2 c7_A1_3 c7_A2_0 c7_A2_1 c7_A2_2 c7_A2_3 c7_X1_0 c7_X1_1 c7_X1_2 c7_X1_3 o7_x1_2 tx2_2
    have HT := fun W (hK : Kept w8 W) => Lib.hid (toOutcome x1 _ W (s1_2.kept StrEl.st ((Kept.of_below B8).trans hK)) hz1)
    go_wp2_with fail
    have lt_A1 : w.heap.size < w8.heap.size := by omega
    have lt_X1 : w6.heap.size < w8.heap.size := by omega
    go_region_held3 (fun w' => w'.cell? ⟨w.heap.size, 0, none⟩ = some (.int .i64 x1.kind) ∧ w'.cell? ⟨w.heap.size, 1, none⟩ = some (.int .i64 x1.n) ∧ w'.cell? ⟨w.heap.size, 2, none⟩ = some (.slice a1_2 x1.trace.length ca1_2) ∧ w'.cell? ⟨w.heap.size, 3, none⟩ = some (.int .i64 x1.steps) ∧ w'.cell? ⟨w6.heap.size, 0, none⟩ = some (.int .i64 x1.kind) ∧ w'.cell? ⟨w6.heap.size, 1, none⟩ = some (.int .i64 x1.n) ∧ w'.cell? ⟨w6.heap.size, 2, none⟩ = some (.slice ax1_2 x1.trace.length cx1_2) ∧ w'.cell? ⟨w6.heap.size, 3, none⟩ = some (.int .i64 x1.steps) ∧ Kept w8 w') (first | (exact ⟨c8_A1_0, c8_A1_1, c8_A1_2, c8_A1_3, c8_X1_0, c8_X1_1, c8_X1_2, c8_X1_3, Kept.refl _⟩) | (exact ⟨c8_A1_0, c8_A1_1, c8_A1_2, c8_A1_3, c8_X1_0, c8_X1_1, c8_X1_2, c8_X1_3, Kept.drew _⟩) | (exact ⟨(hbt.cell (p := ⟨w.heap.size, 0, none⟩) lt_A1).trans c8_A1_0, (hbt.cell (p := ⟨w.heap.size, 1, none⟩) lt_A1).trans c8_A1_1, (hbt.cell (p := ⟨w.heap.size, 2, none⟩) lt_A1).trans c8_A1_2, (hbt.cell (p := ⟨w.heap.size, 3, none⟩) lt_A1).trans c8_A1_3, (hbt.cell (p := ⟨w6.heap.size, 0, none⟩) lt_X1).trans c8_X1_0, (hbt.cell (p := ⟨w6.heap.size, 1, none⟩) lt_X1).trans c8_X1_1, (hbt.cell (p := ⟨w6.heap.size, 2, none⟩) lt_X1).trans c8_X1_2, (hbt.cell (p := ⟨w6.heap.size, 3, none⟩) lt_X1).trans c8_X1_3, (Kept.drew _).trans (Kept.of_below hbt)⟩) | (exact ⟨(hbe.cell (p := ⟨w.heap.size, 0, none⟩) (Nat.lt_of_lt_of_le lt_A1 hbt.size)).trans ((hbt.cell (p := ⟨w.heap.size, 0, none⟩) lt_A1).trans c8_A1_0), (hbe.cell (p := ⟨w.heap.size, 1, none⟩) (Nat.lt_of_lt_of_le lt_A1 hbt.size)).trans ((hbt.cell (p := ⟨w.heap.size, 1, none⟩) lt_A1).trans c8_A1_1), (hbe.cell (p := ⟨w.heap.size, 2, none⟩) (Nat.lt_of_lt_of_le lt_A1 hbt.size)).trans ((hbt.cell (p := ⟨w.heap.size, 2, none⟩) lt_A1).trans c8_A1_2), (hbe.cell (p := ⟨w.heap.size, 3, none⟩) (Nat.lt_of_lt_of_le lt_A1 hbt.size)).trans ((hbt.cell (p := ⟨w.heap.size, 3, none⟩) lt_A1).trans c8_A1_3), (hbe.cell (p := ⟨w6.heap.size, 0, none⟩) (Nat.lt_of_lt_of_le lt_X1 hbt.size)).trans ((hbt.cell (p := ⟨w6.heap.size, 0, none⟩) lt_X1).trans c8_X1_0), (hbe.cell (p := ⟨w6.heap.size, 1, none⟩) (Nat.lt_of_lt_of_le lt_X1 hbt.size)).trans ((hbt.cell (p := ⟨w6.heap.size, 1, none⟩) lt_X1).trans c8_X1_1), (hbe.cell (p := ⟨w6.heap.size, 2, none⟩) (Nat.lt_of_lt_of_le lt_X1 hbt.size)).trans ((hbt.cell (p := ⟨w6.heap.size, 2, none⟩) lt_X1).trans c8_X1_2), (hbe.cell (p := ⟨w6.heap.size, 3, none⟩) (Nat.lt_of_lt_of_le lt_X1 hbt.size)).trans ((hbt.cell (p := ⟨w6.heap.size, 3, none⟩) lt_X1).trans c8_X1_3), ((Kept.drew _).trans (Kept.of_below hbt)).trans (Kept.of_below hbe)⟩)) (first | (go_at_call 7; refine (HT _ (by first | exact Kept.drew _ | exact Kept.refl _)).out.mono ?_; rintro e wt ⟨uz2, Fz2, rfl, roz2, _, _, hbt⟩; obtain ⟨az2, cz2, ez2, _, _⟩ := (roz2.reads (Flat.reads StrEl)).form; subst ez2) | (go_at_call 9; refine (eqOutcome x1 _ _ _ ((o8_x1_2.reads (Flat.reads StrEl)).kept StrEl.st ((Kept.drew _).trans (Kept.of_below hbt))) (roz2.reads (Flat.reads StrEl))).mono ?_; rintro e we ⟨rfl, hbe⟩))
    have hbx : Below w8.heap.size w8 we := ((Below.refl _ _).drew).trans (hbt.trans (hbe.mono hbt.size))
    clear hbt hbe HT
    generalize we = w9 at *
    have z9 := hbx.size
    have c9_A1_0 := (hbx.cell (p := ⟨w.heap.size, 0, none⟩) (by show w.heap.size < _; omega)).trans c8_A1_0
    have c9_A1_1 := (hbx.cell (p := ⟨w.heap.size, 1, none⟩) (by show w.heap.size < _; omega)).trans c8_A1_1
    have c9_A1_2 := (hbx.cell (p := ⟨w.heap.size, 2, none⟩) (by show w.heap.size < _; omega)).trans c8_A1_2
    have c9_A1_3 := (hbx.cell (p := ⟨w.heap.size, 3, none⟩) (by show w.heap.size < _; omega)).trans c8_A1_3
    have c9_A2_0 := (hbx.cell (p := ⟨w.heap.size + 1, 0, none⟩) (by show w.heap.size + 1 < _; omega)).trans c8_A2_0
    have c9_A2_1 := (hbx.cell (p := ⟨w.heap.size + 1, 1, none⟩) (by show w.heap.size + 1 < _; omega)).trans c8_A2_1
    have c9_A2_2 := (hbx.cell (p := ⟨w.heap.size + 1, 2, none⟩) (by show w.heap.size + 1 < _; omega)).trans c8_A2_2
    have c9_A2_3 := (hbx.cell (p := ⟨w.heap.size + 1, 3, none⟩) (by show w.heap.size + 1 < _; omega)).trans c8_A2_3
    have c9_X1_0 := (hbx.cell (p := ⟨w6.heap.size, 0, none⟩) (by show w6.heap.size < _; omega)).trans c8_X1_0
    have c9_X1_1 := (hbx.cell (p := ⟨w6.heap.size, 1, none⟩) (by show w6.heap.size < _; omega)).trans c8_X1_1
    have c9_X1_2 := (hbx.cell (p := ⟨w6.heap.size, 2, none⟩) (by show w6.heap.size < _; omega)).trans c8_X1_2
    have c9_X1_3 := (hbx.cell (p := ⟨w6.heap.size, 3, none⟩) (by show w6.heap.size < _; omega)).trans c8_X1_3
    have c9_X2_0 := (hbx.cell (p := ⟨w7.heap.size, 0, none⟩) (by show w7.heap.size < _; omega)).trans c8_X2_0
    have c9_X2_1 := (hbx.cell (p := ⟨w7.heap.size, 1, none⟩) (by show w7.heap.size < _; omega)).trans c8_X2_1
    have c9_X2_2 := (hbx.cell (p := ⟨w7.heap.size, 2, none⟩) (by show w7.heap.size < _; omega)).trans c8_X2_2
    have c9_X2_3 := (hbx.cell (p := ⟨w7.heap.size, 3, none⟩) (by show w7.heap.size < _; omega)).trans c8_X2_3
    have o9_x1_2 := o8_x1_2.kept StrFlat.loc (Flat.sized StrEl) hbx
    have o9_x2_2 := o8_x2_2.kept StrFlat.loc (Flat.sized StrEl) hbx
    have B9 := below_tr B8 hbx (by omega)
    clear c8_A1_0 c8_A1_1 c8_A1_2 c8_A1_3 c8_A2_0 c8_A2_1 c8_A2_2 c8_A2_3 c8_X1_0 c8_X1_1 c8_X1_2 c8_X1_3 c8_X2_0 c8_X2_1 c8_X2_2 c8_X2_3 o8_x1_2 o8_x2_2
    have HT := fun W (hK : Kept w9 W) => Lib.hid (toOutcome x2 _ W (s2_2.kept StrEl.st ((Kept.of_below B9).trans hK)) hz2)
    go_wp2_with fail
    have lt_A2 : w.heap.size + 1 < w9.heap.size := by omega
    have lt_X2 : w7.heap.size < w9.heap.size := by omega
    go_region_held3 (fun w' => w'.cell? ⟨w.heap.size + 1, 0, none⟩ = some (.int .i64 x2.kind) ∧ w'.cell? ⟨w.heap.size + 1, 1, none⟩ = some (.int .i64 x2.n) ∧ w'.cell? ⟨w.heap.size + 1, 2, none⟩ = some (.slice a2_2 x2.trace.length ca2_2) ∧ w'.cell? ⟨w.heap.size + 1, 3, none⟩ = some (.int .i64 x2.steps) ∧ w'.cell? ⟨w7.heap.size, 0, none⟩ = some (.int .i64 x2.kind) ∧ w'.cell? ⟨w7.heap.size, 1, none⟩ = some (.int .i64 x2.n) ∧ w'.cell? ⟨w7.heap.size, 2, none⟩ = some (.slice ax2_2 x2.trace.length cx2_2) ∧ w'.cell? ⟨w7.heap.size, 3, none⟩ = some (.int .i64 x2.steps) ∧ Kept w9 w') (first | (exact ⟨c9_A2_0, c9_A2_1, c9_A2_2, c9_A2_3, c9_X2_0, c9_X2_1, c9_X2_2, c9_X2_3, Kept.refl _⟩) | (exact ⟨c9_A2_0, c9_A2_1, c9_A2_2, c9_A2_3, c9_X2_0, c9_X2_1, c9_X2_2, c9_X2_3, Kept.drew _⟩) | (exact ⟨(hbt.cell (p := ⟨w.heap.size + 1, 0, none⟩) lt_A2).trans c9_A2_0, (hbt.cell (p := ⟨w.heap.size + 1, 1, none⟩) lt_A2).trans c9_A2_1, (hbt.cell (p := ⟨w.heap.size + 1, 2, none⟩) lt_A2).trans c9_A2_2, (hbt.cell (p := ⟨w.heap.size + 1, 3, none⟩) lt_A2).trans c9_A2_3, (hbt.cell (p := ⟨w7.heap.size, 0, none⟩) lt_X2).trans c9_X2_0, (hbt.cell (p := ⟨w7.heap.size, 1, none⟩) lt_X2).trans c9_X2_1, (hbt.cell (p := ⟨w7.heap.size, 2, none⟩) lt_X2).trans c9_X2_2, (hbt.cell (p := ⟨w7.heap.size, 3, none⟩) lt_X2).trans c9_X2_3, (Kept.drew _).trans (Kept.of_below hbt)⟩) | (exact ⟨(hbe.cell (p := ⟨w.heap.size + 1, 0, none⟩) (Nat.lt_of_lt_of_le lt_A2 hbt.size)).trans ((hbt.cell (p := ⟨w.heap.size + 1, 0, none⟩) lt_A2).trans c9_A2_0), (hbe.cell (p := ⟨w.heap.size + 1, 1, none⟩) (Nat.lt_of_lt_of_le lt_A2 hbt.size)).trans ((hbt.cell (p := ⟨w.heap.size + 1, 1, none⟩) lt_A2).trans c9_A2_1), (hbe.cell (p := ⟨w.heap.size + 1, 2, none⟩) (Nat.lt_of_lt_of_le lt_A2 hbt.size)).trans ((hbt.cell (p := ⟨w.heap.size + 1, 2, none⟩) lt_A2).trans c9_A2_2), (hbe.cell (p := ⟨w.heap.size + 1, 3, none⟩) (Nat.lt_of_lt_of_le lt_A2 hbt.size)).trans ((hbt.cell (p := ⟨w.heap.size + 1, 3, none⟩) lt_A2).trans c9_A2_3), (hbe.cell (p := ⟨w7.heap.size, 0, none⟩) (Nat.lt_of_lt_of_le lt_X2 hbt.size)).trans ((hbt.cell (p := ⟨w7.heap.size, 0, none⟩) lt_X2).trans c9_X2_0), (hbe.cell (p := ⟨w7.heap.size, 1, none⟩) (Nat.lt_of_lt_of_le lt_X2 hbt.size)).trans ((hbt.cell (p := ⟨w7.heap.size, 1, none⟩) lt_X2).trans c9_X2_1), (hbe.cell (p := ⟨w7.heap.size, 2, none⟩) (Nat.lt_of_lt_of_le lt_X2 hbt.size)).trans ((hbt.cell (p := ⟨w7.heap.size, 2, none⟩) lt_X2).trans c9_X2_2), (hbe.cell (p := ⟨w7.heap.size, 3, none⟩) (Nat.lt_of_lt_of_le lt_X2 hbt.size)).trans ((hbt.cell (p := ⟨w7.heap.size, 3, none⟩) lt_X2).trans c9_X2_3), ((Kept.drew _).trans (Kept.of_below hbt)).trans (Kept.of_below hbe)⟩)) (first | (go_at_call 7; refine (HT _ (by first | exact Kept.drew _ | exact Kept.refl _)).out.mono ?_; rintro e wt ⟨uz2, Fz2, rfl, roz2, _, _, hbt⟩; obtain ⟨az2, cz2, ez2, _, _⟩ := (roz2.reads (Flat.reads StrEl)).form; subst ez2) | (go_at_call 9; refine (eqOutcome x2 _ _ _ ((o9_x2_2.reads (Flat.reads StrEl)).kept StrEl.st ((Kept.drew _).trans (Kept.of_below hbt))) (roz2.reads (Flat.reads StrEl))).mono ?_; rintro e we ⟨rfl, hbe⟩))
    have hbx : Below w9.heap.size w9 we := ((Below.refl _ _).drew).trans (hbt.trans (hbe.mono hbt.size))
    clear hbt hbe HT
    generalize we = w10 at *
    have z10 := hbx.size
    have c10_A1_0 := (hbx.cell (p := ⟨w.heap.size, 0, none⟩) (by show w.heap.size < _; omega)).trans c9_A1_0
    have c10_A1_1 := (hbx.cell (p := ⟨w.heap.size, 1, none⟩) (by show w.heap.size < _; omega)).trans c9_A1_1
    have c10_A1_2 := (hbx.cell (p := ⟨w.heap.size, 2, none⟩) (by show w.heap.size < _; omega)).trans c9_A1_2
    have c10_A1_3 := (hbx.cell (p := ⟨w.heap.size, 3, none⟩) (by show w.heap.size < _; omega)).trans c9_A1_3
    have c10_A2_0 := (hbx.cell (p := ⟨w.heap.size + 1, 0, none⟩) (by show w.heap.size + 1 < _; omega)).trans c9_A2_0
    have c10_A2_1 := (hbx.cell (p := ⟨w.heap.size + 1, 1, none⟩) (by show w.heap.size + 1 < _; omega)).trans c9_A2_1
    have c10_A2_2 := (hbx.cell (p := ⟨w.heap.size + 1, 2, none⟩) (by show w.heap.size + 1 < _; omega)).trans c9_A2_2
    have c10_A2_3 := (hbx.cell (p := ⟨w.heap.size + 1, 3, none⟩) (by show w.heap.size + 1 < _; omega)).trans c9_A2_3
    have c10_X1_0 := (hbx.cell (p := ⟨w6.heap.size, 0, none⟩) (by show w6.heap.size < _; omega)).trans c9_X1_0
    have c10_X1_1 := (hbx.cell (p := ⟨w6.heap.size, 1, none⟩) (by show w6.heap.size < _; omega)).trans c9_X1_1
    have c10_X1_2 := (hbx.cell (p := ⟨w6.heap.size, 2, none⟩) (by show w6.heap.size < _; omega)).trans c9_X1_2
    have c10_X1_3 := (hbx.cell (p := ⟨w6.heap.size, 3, none⟩) (by show w6.heap.size < _; omega)).trans c9_X1_3
    have c10_X2_0 := (hbx.cell (p := ⟨w7.heap.size, 0, none⟩) (by show w7.heap.size < _; omega)).trans c9_X2_0
    have c10_X2_1 := (hbx.cell (p := ⟨w7.heap.size, 1, none⟩) (by show w7.heap.size < _; omega)).trans c9_X2_1
    have c10_X2_2 := (hbx.cell (p := ⟨w7.heap.size, 2, none⟩) (by show w7.heap.size < _; omega)).trans c9_X2_2
    have c10_X2_3 := (hbx.cell (p := ⟨w7.heap.size, 3, none⟩) (by show w7.heap.size < _; omega)).trans c9_X2_3
    have o10_x1_2 := o9_x1_2.kept StrFlat.loc (Flat.sized StrEl) hbx
    have o10_x2_2 := o9_x2_2.kept StrFlat.loc (Flat.sized StrEl) hbx
    have B10 := below_tr B9 hbx (by omega)
    clear c9_A1_0 c9_A1_1 c9_A1_2 c9_A1_3 c9_A2_0 c9_A2_1 c9_A2_2 c9_A2_3 c9_X1_0 c9_X1_1 c9_X1_2 c9_X1_3 c9_X2_0 c9_X2_1 c9_X2_2 c9_X2_3 o9_x1_2 o9_x2_2
    go_wp2
    go_ret
    exact ⟨rfl, B10⟩

/-! ### THE ROW's STEP: WRITTEN OUT: LEAVE IT -/
set_option maxRecDepth 100000 in
theorem lifted (os : Os) (started : os.Started) (H : Type) (enc : TypeId × Value → H) :
    ReturnsInHanded {} Try.checked os 3 .any (Rows.fnExactAlikeSpec.pre6 enc Try.prog Try.f3 Rows.fnExactAlikeRow.domain false) (Rows.fnExactAlikeSpec.post enc Try.prog Try.f3 false true false false) := by
  refine returnsInHanded_of_change (C := Try.checked) own started (by kernel_rfl) Try.func3
    (ChangeSpec.witness6 (enc := enc) (C := Try.checked) false ⟨#[], #[.agg #[.int .i64 0, .int .i64 0, .slice none 0 0, .int .i64 0], .agg #[.int .i64 0, .int .i64 0, .slice none 0 0, .int .i64 0]], []⟩ 8 (by kernel_rfl) (by kernel_rfl) (by kernel_rfl) (by kernel_rfl)) ?_
  intro W base args ds gs before hval0 hW hcnd _
  have hval : ∀ (j : Nat) t v, Try.f3.params[j]? = some t → args[j]? = some v → Value.okWide Try.prog W .any base t v := hval0
  have hW' := hW
  obtain ⟨p, q, hA0, hV, rfl, hfz, hnd⟩ := hW
  have hA : DataW.TrodAll enc Try.prog W 0 (fun _ => true) true Try.f3.params.toList args.toList ds p := hA0
  rw [Try.params3] at hA hval
  obtain ⟨v0, vs0, d0, ds0, p0, q0, hargs, rfl, rfl, h0, r0⟩ := trodAll_cons hA
  obtain ⟨v1, vs1, d1, ds1, p1, q1, rfl, rfl, rfl, h1, r1⟩ := trodAll_cons r0
  obtain ⟨rfl, rfl, rfl⟩ := trodAll_nil r1
  obtain rfl : args = #[v0, v1] := by cases args; simp_all
  obtain ⟨rfl, rfl⟩ := trodVars_none hV
  have lt0 : ∀ x ∈ p0, x.block < W.heap.size := by have k0 := h0; obtain ⟨m, hm⟩ := k0; exact DataW.trod_lt m _ _ _ hm
  have lt1 : ∀ x ∈ p1, x.block < W.heap.size := by have k1 := h1; obtain ⟨m, hm⟩ := k1; exact DataW.trod_lt m _ _ _ hm
  clear hA0 hval0
  refine (walk v0 v1 W ⟨H, enc, base, d0, p0, hval 0 24 v0 rfl rfl, h0⟩ ⟨H, enc, base, d1, p1, hval 1 24 v1 rfl rfl, h1⟩).mono fun e W' ⟨he, bel⟩ => ?_
  subst he
  exact ⟨_, rfl, _, _, _, [], _, [], hW', trodAll_mk1 (shut_bool Try.underlying4 _), (trodAll_cons_mk (Below.trod laidOut (by kernel_rfl) (of_decide_eq_true (by kernel_rfl)) h0 bel lt0) (trodAll_cons_mk (Below.trod laidOut (by kernel_rfl) (of_decide_eq_true (by kernel_rfl)) h1 bel lt1) trodAll_mk0)), rfl, bel.frame _, fun h => by cases h⟩

theorem over : Rows.fnExactAlikeRow.holds Try.pinned (OpenSpec.ofChange Rows.fnExactAlikeSpec) :=
  OpenClaim.holds_of_wide 3 Try.f3 rfl rfl rfl rfl rfl rfl rfl ⟨rfl, rfl, rfl, rfl, rfl⟩ rfl rfl rfl rfl rfl (by kernel_rfl) Try.func3 (by kernel_rfl)
    (of_decide_eq_true (by kernel_rfl)) (by unfold Func.isWrapper; first | (rw [if_pos (by decide +kernel)]; kernel_rfl) | (rw [if_neg (by decide +kernel)]; exact ⟨rfl, rfl⟩))
    (fun os started H enc _ => lifted os started H enc)

/-- ████ THE STATEMENT ████ -/
theorem proved : Rows.FnExactAlikeSaid := over
#print axioms proved
end Go.Proofs.Ytpgefkdojplamaa.fnExactAlike
