/- The law FnExactEnds of this commit's code returns true for every input and leaves its arguments as they were: no conditions. -/
/-
  THE SHELL OF A PROOF OF 'Rows.FnExactEndsSaid' ('loop.example/g00395/laws.FnExactEnds'), for parameters of whatever type.
-/
import Derived.Test.YtbehcmogndpkhaaRows
import Derived.Test.YtbehcmogndpkhaaArgs
import Derived.Test.YtbehcmogndpkhaaSz
import Derived.Test.YtbehcmogndpkhaaTo
import Derived.Test.YtbehcmogndpkhaaEq
import Derived.Test.YtbehcmogndpkhaaEnds
import Derived.Deep.RegionHeld3
import Derived.WalkKit
import Derived.ProofKit
import Derived.OpenShut
import Derived.ShutString
import Derived.ChangeOld
import Derived.Below
namespace Go.Proofs.Ytbehcmogndpkhaa.fnExactEnds
open Go.ChangeShapes Go.WideShapes Go.ChangeAt Go.RowKit
open Go.ChangeMaps (open_string shut_string)
set_option linter.unusedVariables false

theorem own : ownKnob Try.prog.godebug = none := by kernel_rfl
theorem laidOut : laidOutB Try.prog = true := by kernel_rfl

/-! ### STEP 1: THE WALK -/
set_option maxHeartbeats 4000000 in
set_option maxRecDepth 100000 in
theorem walk (v0 : Value) (w : World) (w0 : ArgIn Try.prog 24 w v0) :
    Calls Try.prog 3 #[v0] w fun e w' => e = .returned (.bool true) ∧ Below w.heap.size w w' := by
  obtain ⟨x1, v1_2, rfl, i1_0, i1_1, r1_2, i1_3⟩ := open_Outcome w0
  have s1_2 := r1_2
  obtain ⟨a1_2, ca1_2, e_a1_2, -, -⟩ := r1_2.form
  subst e_a1_2
  go_enter Try.func3, Try.ntmps3
  go_wp2_with fail
  refine (szOutcome x1 _ 1048576 _ (by omega) (s1_2.kept StrEl.st (Kept.alloc _ _))).mono ?_
  rintro e w1 ⟨hb1, ⟨rfl, _⟩ | ⟨q1, rfl, hq_1⟩⟩
  · go_wp2
    go_ret
    exact ⟨rfl, below_tr (Joins.below_alloc1 w _) hb1⟩
  have hz1 : bOc x1 ≤ 1048576 := by omega
  have B1 : Below w.heap.size w w1 := below_tr (Joins.below_alloc1 w _) hb1
  have z1 : w.heap.size + 1 ≤ w1.heap.size := by have := hb1.size; simp at this; omega
  have c1_A1_0 : w1.cell? ⟨w.heap.size, 0, none⟩ = some (.int .i64 x1.kind) := by rw [hb1.cell (p := ⟨w.heap.size, 0, none⟩) (by simp)]; simp
  have c1_A1_1 : w1.cell? ⟨w.heap.size, 1, none⟩ = some (.int .i64 x1.n) := by rw [hb1.cell (p := ⟨w.heap.size, 1, none⟩) (by simp)]; simp
  have c1_A1_2 : w1.cell? ⟨w.heap.size, 2, none⟩ = some (.slice a1_2 x1.trace.length ca1_2) := by rw [hb1.cell (p := ⟨w.heap.size, 2, none⟩) (by simp)]; simp
  have c1_A1_3 : w1.cell? ⟨w.heap.size, 3, none⟩ = some (.int .i64 x1.steps) := by rw [hb1.cell (p := ⟨w.heap.size, 3, none⟩) (by simp)]; simp
  clear hq_1
  go_wp2_with fail
  refine (toOutcome x1 _ _ (s1_2.kept StrEl.st (Kept.of_below B1)) hz1).mono ?_
  rintro e w2 ⟨up1_2, Fp1_2, rfl, tp1_2, zl_p1, nd_p1, hb2⟩
  obtain ⟨ap1_2, cp1_2, e_p1_2, -, -⟩ := (tp1_2.reads (Flat.reads StrEl)).form
  subst e_p1_2
  have zf_p1 : ∀ g ∈ Fp1_2, w1.heap.size ≤ g ∧ g < w2.heap.size := fun g hg => ⟨zl_p1 g hg, tp1_2.sized (Flat.sized StrEl) g hg⟩
  clear zl_p1
  have z2 := hb2.size
  have c2_A1_0 := (hb2.cell (p := ⟨w.heap.size, 0, none⟩) (by show w.heap.size < _; omega)).trans c1_A1_0
  have c2_A1_1 := (hb2.cell (p := ⟨w.heap.size, 1, none⟩) (by show w.heap.size < _; omega)).trans c1_A1_1
  have c2_A1_2 := (hb2.cell (p := ⟨w.heap.size, 2, none⟩) (by show w.heap.size < _; omega)).trans c1_A1_2
  have c2_A1_3 := (hb2.cell (p := ⟨w.heap.size, 3, none⟩) (by show w.heap.size < _; omega)).trans c1_A1_3
  have B2 := below_tr B1 hb2 (by omega)
  clear c1_A1_0 c1_A1_1 c1_A1_2 c1_A1_3
  go_wp2_with fail
  refine (sEndsC x1 _ _ (tp1_2.reads (Flat.reads StrEl)) hz1).mono ?_
  rintro e w3 ⟨rfl, hb3⟩
  have z3 := hb3.size
  have c3_A1_0 := (hb3.cell (p := ⟨w.heap.size, 0, none⟩) (by show w.heap.size < _; omega)).trans c2_A1_0
  have c3_A1_1 := (hb3.cell (p := ⟨w.heap.size, 1, none⟩) (by show w.heap.size < _; omega)).trans c2_A1_1
  have c3_A1_2 := (hb3.cell (p := ⟨w.heap.size, 2, none⟩) (by show w.heap.size < _; omega)).trans c2_A1_2
  have c3_A1_3 := (hb3.cell (p := ⟨w.heap.size, 3, none⟩) (by show w.heap.size < _; omega)).trans c2_A1_3
  have o3_p1_2 := tp1_2.kept StrFlat.loc (Flat.sized StrEl) hb3
  have B3 := below_tr B2 hb3 (by omega)
  clear c2_A1_0 c2_A1_1 c2_A1_2 c2_A1_3 tp1_2
  clear o3_p1_2
  go_wp2_with fail
  refine (toOutcome x1 _ _ (s1_2.kept StrEl.st (Kept.of_below B3)) hz1).mono ?_
  rintro e w4 ⟨ux1_2, Fx1_2, rfl, tx1_2, zl_x1, nd_x1, hb4⟩
  obtain ⟨ax1_2, cx1_2, e_x1_2, -, -⟩ := (tx1_2.reads (Flat.reads StrEl)).form
  subst e_x1_2
  have zf_x1 : ∀ g ∈ Fx1_2, w3.heap.size ≤ g ∧ g < w4.heap.size := fun g hg => ⟨zl_x1 g hg, tx1_2.sized (Flat.sized StrEl) g hg⟩
  clear zl_x1
  have z4 := hb4.size
  have c4_A1_0 := (hb4.cell (p := ⟨w.heap.size, 0, none⟩) (by show w.heap.size < _; omega)).trans c3_A1_0
  have c4_A1_1 := (hb4.cell (p := ⟨w.heap.size, 1, none⟩) (by show w.heap.size < _; omega)).trans c3_A1_1
  have c4_A1_2 := (hb4.cell (p := ⟨w.heap.size, 2, none⟩) (by show w.heap.size < _; omega)).trans c3_A1_2
  have c4_A1_3 := (hb4.cell (p := ⟨w.heap.size, 3, none⟩) (by show w.heap.size < _; omega)).trans c3_A1_3
  have B4 := below_tr B3 hb4 (by omega)
  clear c3_A1_0 c3_A1_1 c3_A1_2 c3_A1_3
  have ln4_A1_0 : w.heap.size < w4.heap.size := by omega
  have nn4_A1_0 : w.heap.size ≠ w4.heap.size := by omega
  go_wp2_with fail
  refine (iEndsC x1 _ _ ((tx1_2.kept StrFlat.loc (Flat.sized StrEl) (Joins.below_alloc1 w4 _)).reads (Flat.reads StrEl)) hz1).mono ?_
  rintro e w5 ⟨rfl, hb5⟩
  have hq5 : Below w4.heap.size w4 w5 := below_tr (Joins.below_alloc1 w4 _) hb5
  have z5 : w4.heap.size + 1 ≤ w5.heap.size := by have := hb5.size; simp at this; omega
  have c5_A1_0 := (hq5.cell (p := ⟨w.heap.size, 0, none⟩) (by show w.heap.size < _; omega)).trans c4_A1_0
  have c5_A1_1 := (hq5.cell (p := ⟨w.heap.size, 1, none⟩) (by show w.heap.size < _; omega)).trans c4_A1_1
  have c5_A1_2 := (hq5.cell (p := ⟨w.heap.size, 2, none⟩) (by show w.heap.size < _; omega)).trans c4_A1_2
  have c5_A1_3 := (hq5.cell (p := ⟨w.heap.size, 3, none⟩) (by show w.heap.size < _; omega)).trans c4_A1_3
  have c5_X1_0 : w5.cell? ⟨w4.heap.size, 0, none⟩ = some (.int .i64 x1.kind) := by rw [hb5.cell (p := ⟨w4.heap.size, 0, none⟩) (by simp)]; simp
  have c5_X1_1 : w5.cell? ⟨w4.heap.size, 1, none⟩ = some (.int .i64 x1.n) := by rw [hb5.cell (p := ⟨w4.heap.size, 1, none⟩) (by simp)]; simp
  have c5_X1_2 : w5.cell? ⟨w4.heap.size, 2, none⟩ = some (.slice ax1_2 x1.trace.length cx1_2) := by rw [hb5.cell (p := ⟨w4.heap.size, 2, none⟩) (by simp)]; simp
  have c5_X1_3 : w5.cell? ⟨w4.heap.size, 3, none⟩ = some (.int .i64 x1.steps) := by rw [hb5.cell (p := ⟨w4.heap.size, 3, none⟩) (by simp)]; simp
  have o5_x1_2 := tx1_2.kept StrFlat.loc (Flat.sized StrEl) hq5
  have B5 := below_tr B4 hq5 (by omega)
  clear c4_A1_0 c4_A1_1 c4_A1_2 c4_A1_3 tx1_2
  have HT := fun W (hK : Kept w5 W) => Lib.hid (toOutcome x1 _ W (s1_2.kept StrEl.st ((Kept.of_below B5).trans hK)) hz1)
  go_wp2_with fail
  have lt_A1 : w.heap.size < w5.heap.size := by omega
  have lt_X1 : w4.heap.size < w5.heap.size := by omega
  go_region_held3 (fun w' => w'.cell? ⟨w.heap.size, 0, none⟩ = some (.int .i64 x1.kind) ∧ w'.cell? ⟨w.heap.size, 1, none⟩ = some (.int .i64 x1.n) ∧ w'.cell? ⟨w.heap.size, 2, none⟩ = some (.slice a1_2 x1.trace.length ca1_2) ∧ w'.cell? ⟨w.heap.size, 3, none⟩ = some (.int .i64 x1.steps) ∧ w'.cell? ⟨w4.heap.size, 0, none⟩ = some (.int .i64 x1.kind) ∧ w'.cell? ⟨w4.heap.size, 1, none⟩ = some (.int .i64 x1.n) ∧ w'.cell? ⟨w4.heap.size, 2, none⟩ = some (.slice ax1_2 x1.trace.length cx1_2) ∧ w'.cell? ⟨w4.heap.size, 3, none⟩ = some (.int .i64 x1.steps) ∧ Kept w5 w') (first | (exact ⟨c5_A1_0, c5_A1_1, c5_A1_2, c5_A1_3, c5_X1_0, c5_X1_1, c5_X1_2, c5_X1_3, Kept.refl _⟩) | (exact ⟨c5_A1_0, c5_A1_1, c5_A1_2, c5_A1_3, c5_X1_0, c5_X1_1, c5_X1_2, c5_X1_3, Kept.drew _⟩) | (exact ⟨(hbt.cell (p := ⟨w.heap.size, 0, none⟩) lt_A1).trans c5_A1_0, (hbt.cell (p := ⟨w.heap.size, 1, none⟩) lt_A1).trans c5_A1_1, (hbt.cell (p := ⟨w.heap.size, 2, none⟩) lt_A1).trans c5_A1_2, (hbt.cell (p := ⟨w.heap.size, 3, none⟩) lt_A1).trans c5_A1_3, (hbt.cell (p := ⟨w4.heap.size, 0, none⟩) lt_X1).trans c5_X1_0, (hbt.cell (p := ⟨w4.heap.size, 1, none⟩) lt_X1).trans c5_X1_1, (hbt.cell (p := ⟨w4.heap.size, 2, none⟩) lt_X1).trans c5_X1_2, (hbt.cell (p := ⟨w4.heap.size, 3, none⟩) lt_X1).trans c5_X1_3, (Kept.drew _).trans (Kept.of_below hbt)⟩) | (exact ⟨(hbe.cell (p := ⟨w.heap.size, 0, none⟩) (Nat.lt_of_lt_of_le lt_A1 hbt.size)).trans ((hbt.cell (p := ⟨w.heap.size, 0, none⟩) lt_A1).trans c5_A1_0), (hbe.cell (p := ⟨w.heap.size, 1, none⟩) (Nat.lt_of_lt_of_le lt_A1 hbt.size)).trans ((hbt.cell (p := ⟨w.heap.size, 1, none⟩) lt_A1).trans c5_A1_1), (hbe.cell (p := ⟨w.heap.size, 2, none⟩) (Nat.lt_of_lt_of_le lt_A1 hbt.size)).trans ((hbt.cell (p := ⟨w.heap.size, 2, none⟩) lt_A1).trans c5_A1_2), (hbe.cell (p := ⟨w.heap.size, 3, none⟩) (Nat.lt_of_lt_of_le lt_A1 hbt.size)).trans ((hbt.cell (p := ⟨w.heap.size, 3, none⟩) lt_A1).trans c5_A1_3), (hbe.cell (p := ⟨w4.heap.size, 0, none⟩) (Nat.lt_of_lt_of_le lt_X1 hbt.size)).trans ((hbt.cell (p := ⟨w4.heap.size, 0, none⟩) lt_X1).trans c5_X1_0), (hbe.cell (p := ⟨w4.heap.size, 1, none⟩) (Nat.lt_of_lt_of_le lt_X1 hbt.size)).trans ((hbt.cell (p := ⟨w4.heap.size, 1, none⟩) lt_X1).trans c5_X1_1), (hbe.cell (p := ⟨w4.heap.size, 2, none⟩) (Nat.lt_of_lt_of_le lt_X1 hbt.size)).trans ((hbt.cell (p := ⟨w4.heap.size, 2, none⟩) lt_X1).trans c5_X1_2), (hbe.cell (p := ⟨w4.heap.size, 3, none⟩) (Nat.lt_of_lt_of_le lt_X1 hbt.size)).trans ((hbt.cell (p := ⟨w4.heap.size, 3, none⟩) lt_X1).trans c5_X1_3), ((Kept.drew _).trans (Kept.of_below hbt)).trans (Kept.of_below hbe)⟩)) (first | (go_at_call 6; refine (HT _ (by first | exact Kept.drew _ | exact Kept.refl _)).out.mono ?_; rintro e wt ⟨uz2, Fz2, rfl, roz2, _, _, hbt⟩; obtain ⟨az2, cz2, ez2, _, _⟩ := (roz2.reads (Flat.reads StrEl)).form; subst ez2) | (go_at_call 8; refine (eqOutcome x1 _ _ _ ((o5_x1_2.reads (Flat.reads StrEl)).kept StrEl.st ((Kept.drew _).trans (Kept.of_below hbt))) (roz2.reads (Flat.reads StrEl))).mono ?_; rintro e we ⟨rfl, hbe⟩))
  have hbx : Below w5.heap.size w5 we := ((Below.refl _ _).drew).trans (hbt.trans (hbe.mono hbt.size))
  clear hbt hbe HT
  generalize we = w6 at *
  have z6 := hbx.size
  have c6_A1_0 := (hbx.cell (p := ⟨w.heap.size, 0, none⟩) (by show w.heap.size < _; omega)).trans c5_A1_0
  have c6_A1_1 := (hbx.cell (p := ⟨w.heap.size, 1, none⟩) (by show w.heap.size < _; omega)).trans c5_A1_1
  have c6_A1_2 := (hbx.cell (p := ⟨w.heap.size, 2, none⟩) (by show w.heap.size < _; omega)).trans c5_A1_2
  have c6_A1_3 := (hbx.cell (p := ⟨w.heap.size, 3, none⟩) (by show w.heap.size < _; omega)).trans c5_A1_3
  have c6_X1_0 := (hbx.cell (p := ⟨w4.heap.size, 0, none⟩) (by show w4.heap.size < _; omega)).trans c5_X1_0
  have c6_X1_1 := (hbx.cell (p := ⟨w4.heap.size, 1, none⟩) (by show w4.heap.size < _; omega)).trans c5_X1_1
  have c6_X1_2 := (hbx.cell (p := ⟨w4.heap.size, 2, none⟩) (by show w4.heap.size < _; omega)).trans c5_X1_2
  have c6_X1_3 := (hbx.cell (p := ⟨w4.heap.size, 3, none⟩) (by show w4.heap.size < _; omega)).trans c5_X1_3
  have o6_x1_2 := o5_x1_2.kept StrFlat.loc (Flat.sized StrEl) hbx
  have B6 := below_tr B5 hbx (by omega)
  clear c5_A1_0 c5_A1_1 c5_A1_2 c5_A1_3 c5_X1_0 c5_X1_1 c5_X1_2 c5_X1_3 o5_x1_2
  go_wp2
  go_ret
  exact ⟨rfl, B6⟩

/-! ### THE ROW's STEP: WRITTEN OUT: LEAVE IT -/
set_option maxRecDepth 100000 in
theorem lifted (os : Os) (started : os.Started) (H : Type) (enc : TypeId × Value → H) :
    ReturnsInHanded {} Try.checked os 3 .any (Rows.fnExactEndsSpec.pre6 enc Try.prog Try.f3 Rows.fnExactEndsRow.domain false) (Rows.fnExactEndsSpec.post enc Try.prog Try.f3 false true false false) := by
  refine returnsInHanded_of_change (C := Try.checked) own started (by kernel_rfl) Try.func3
    (ChangeSpec.witness6 (enc := enc) (C := Try.checked) false ⟨#[], #[.agg #[.int .i64 0, .int .i64 0, .slice none 0 0, .int .i64 0]], []⟩ 8 (by kernel_rfl) (by kernel_rfl) (by kernel_rfl) (by kernel_rfl)) ?_
  intro W base args ds gs before hval0 hW hcnd _
  have hval : ∀ (j : Nat) t v, Try.f3.params[j]? = some t → args[j]? = some v → Value.okWide Try.prog W .any base t v := hval0
  have hW' := hW
  obtain ⟨p, q, hA0, hV, rfl, hfz, hnd⟩ := hW
  have hA : DataW.TrodAll enc Try.prog W 0 (fun _ => true) true Try.f3.params.toList args.toList ds p := hA0
  rw [Try.params3] at hA hval
  obtain ⟨v0, vs0, d0, ds0, p0, q0, hargs, rfl, rfl, h0, r0⟩ := trodAll_cons hA
  obtain ⟨rfl, rfl, rfl⟩ := trodAll_nil r0
  obtain rfl : args = #[v0] := by cases args; simp_all
  obtain ⟨rfl, rfl⟩ := trodVars_none hV
  have lt0 : ∀ x ∈ p0, x.block < W.heap.size := by have k0 := h0; obtain ⟨m, hm⟩ := k0; exact DataW.trod_lt m _ _ _ hm
  clear hA0 hval0
  refine (walk v0 W ⟨H, enc, base, d0, p0, hval 0 24 v0 rfl rfl, h0⟩).mono fun e W' ⟨he, bel⟩ => ?_
  subst he
  exact ⟨_, rfl, _, _, _, [], _, [], hW', trodAll_mk1 (shut_bool Try.underlying4 _), (trodAll_cons_mk (Below.trod laidOut (by kernel_rfl) (of_decide_eq_true (by kernel_rfl)) h0 bel lt0) trodAll_mk0), rfl, bel.frame _, fun h => by cases h⟩

theorem over : Rows.fnExactEndsRow.holds Try.pinned (OpenSpec.ofChange Rows.fnExactEndsSpec) :=
  OpenClaim.holds_of_wide 3 Try.f3 rfl rfl rfl rfl rfl rfl rfl ⟨rfl, rfl, rfl, rfl, rfl⟩ rfl rfl rfl rfl rfl (by kernel_rfl) Try.func3 (by kernel_rfl)
    (of_decide_eq_true (by kernel_rfl)) (by unfold Func.isWrapper; first | (rw [if_pos (by decide +kernel)]; kernel_rfl) | (rw [if_neg (by decide +kernel)]; exact ⟨rfl, rfl⟩))
    (fun os started H enc _ => lifted os started H enc)

/-- ████ THE STATEMENT ████ -/
theorem proved : Rows.FnExactEndsSaid := over
#print axioms proved
end Go.Proofs.Ytbehcmogndpkhaa.fnExactEnds
