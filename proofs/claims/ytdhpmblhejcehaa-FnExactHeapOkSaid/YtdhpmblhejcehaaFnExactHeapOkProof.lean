/- The law FnExactHeapOk of this commit's code returns true for every input and leaves its arguments as they were: no conditions. -/
/-
  THE SHELL OF A PROOF OF 'Rows.FnExactHeapOkSaid' ('loop.example/g00395/laws.FnExactHeapOk'), for parameters of whatever type.
-/
import Derived.Test.YtdhpmblhejcehaaRows
import Derived.Test.YtdhpmblhejcehaaArgs
import Derived.Test.YtdhpmblhejcehaaSz
import Derived.Test.YtdhpmblhejcehaaTo
import Derived.Test.YtdhpmblhejcehaaEq
import Derived.Test.YtdhpmblhejcehaaHpU
import Derived.Test.YtdhpmblhejcehaaHqI
import Derived.Deep.RegionHeld3
import Derived.WalkKit
import Derived.ProofKit
import Derived.OpenShut
import Derived.ShutString
import Derived.ChangeOld
import Derived.Below
namespace Go.Proofs.Ytdhpmblhejcehaa.fnExactHeapOk
open Go.ChangeShapes Go.WideShapes Go.ChangeAt Go.RowKit
open Go.ChangeMaps (open_string shut_string)
set_option linter.unusedVariables false

theorem own : ownKnob Try.prog.godebug = none := by kernel_rfl
theorem laidOut : laidOutB Try.prog = true := by kernel_rfl

/-! ### STEP 1: THE WALK -/
set_option maxHeartbeats 4000000 in
set_option maxRecDepth 100000 in
theorem walk (v0 : Value) (v1 : Value) (w : World) (w0 : ArgIn Try.prog 32 w v0) (w1 : ArgIn Try.prog 33 w v1) :
    Calls Try.prog 4 #[v0, v1] w fun e w' => e = .returned (.bool true) ∧ Below w.heap.size w w' := by
  obtain ⟨x1, r1_0⟩ := open_CellS w0
  have s1_0 := r1_0
  obtain ⟨a1_0, ca1_0, e_a1_0, -, -⟩ := r1_0.form
  subst e_a1_0
  obtain ⟨x2, r2_0⟩ := open_ValS w1
  have s2_0 := r2_0
  obtain ⟨a2_0, ca2_0, e_a2_0, -, -⟩ := r2_0.form
  subst e_a2_0
  go_enter Try.func4, Try.ntmps4
  go_wp2_with fail
  refine (szCellS x1 _ 1048576 _ (by omega) (s1_0.kept CeEl.st (Kept.refl _))).mono ?_
  rintro e w1 ⟨hb1, ⟨rfl, _⟩ | ⟨q1, rfl, hq_1⟩⟩
  · go_wp2
    go_ret
    exact ⟨rfl, below_tr (Below.refl _ _) hb1⟩
  have hz1 : bulkL bCe x1 ≤ 1048576 := by omega
  have B1 : Below w.heap.size w w1 := below_tr (Below.refl _ _) hb1
  have z1 := hb1.size
  have hl1 : x1.length ≤ 1048576 := Nat.le_trans (bulkL_len _ _) hz1
  go_wp2_with fail
  refine (szValS x2 _ q1 _ (by omega) (s2_0.kept VlEl.st (Kept.of_below B1))).mono ?_
  rintro e w2 ⟨hb2, ⟨rfl, _⟩ | ⟨q2, rfl, hq_2⟩⟩
  · go_wp2
    go_ret
    exact ⟨rfl, below_tr B1 hb2⟩
  have hz2 : bulkL bVl x2 ≤ 1048576 := by omega
  have z2 := hb2.size
  have B2 := below_tr B1 hb2 (by omega)
  have hl2 : x2.length ≤ 1048576 := Nat.le_trans (bulkL_len _ _) hz2
  clear hq_1 hq_2
  go_wp2_with fail
  refine (toCellS x1 _ _ (s1_0.kept CeEl.st (Kept.of_below B2)) hl1 hz1).mono ?_
  rintro e w3 ⟨up1_0, Fp1_0, rfl, tp1_0, zl_p1, nd_p1, hb3⟩
  obtain ⟨ap1_0, cp1_0, e_p1_0, -, -⟩ := (tp1_0.reads CeOwn.reads).form
  subst e_p1_0
  have zf_p1 : ∀ g ∈ Fp1_0, w2.heap.size ≤ g ∧ g < w3.heap.size := fun g hg => ⟨zl_p1 g hg, tp1_0.sized CeOwn.sized g hg⟩
  clear zl_p1
  have z3 := hb3.size
  have B3 := below_tr B2 hb3 (by omega)
  go_wp2_with fail
  refine (toValS x2 _ _ (s2_0.kept VlEl.st (Kept.of_below B3)) hl2 hz2).mono ?_
  rintro e w4 ⟨up2_0, Fp2_0, rfl, tp2_0, zl_p2, nd_p2, hb4⟩
  obtain ⟨ap2_0, cp2_0, e_p2_0, -, -⟩ := (tp2_0.reads VlOwn.reads).form
  subst e_p2_0
  have zf_p2 : ∀ g ∈ Fp2_0, w3.heap.size ≤ g ∧ g < w4.heap.size := fun g hg => ⟨zl_p2 g hg, tp2_0.sized VlOwn.sized g hg⟩
  clear zl_p2
  have z4 := hb4.size
  have o4_p1_0 := tp1_0.kept CeOwn.loc CeOwn.sized hb4
  have B4 := below_tr B3 hb4 (by omega)
  clear tp1_0
  go_wp2_with fail
  refine (sHeapOkC x1 x2 _ _ _ (o4_p1_0.reads CeOwn.reads) (tp2_0.reads VlOwn.reads) hz1 hz2).mono ?_
  rintro e w5 ⟨rfl, hb5⟩
  have z5 := hb5.size
  have o5_p1_0 := o4_p1_0.kept CeOwn.loc CeOwn.sized hb5
  have o5_p2_0 := tp2_0.kept VlOwn.loc VlOwn.sized hb5
  have B5 := below_tr B4 hb5 (by omega)
  clear o4_p1_0 tp2_0
  clear o5_p1_0
  clear o5_p2_0
  go_wp2_with fail
  refine (toCellS x1 _ _ (s1_0.kept CeEl.st (Kept.of_below B5)) hl1 hz1).mono ?_
  rintro e w6 ⟨ux1_0, Fx1_0, rfl, tx1_0, zl_x1, nd_x1, hb6⟩
  obtain ⟨ax1_0, cx1_0, e_x1_0, -, -⟩ := (tx1_0.reads CeOwn.reads).form
  subst e_x1_0
  have zf_x1 : ∀ g ∈ Fx1_0, w5.heap.size ≤ g ∧ g < w6.heap.size := fun g hg => ⟨zl_x1 g hg, tx1_0.sized CeOwn.sized g hg⟩
  clear zl_x1
  have z6 := hb6.size
  have B6 := below_tr B5 hb6 (by omega)
  go_wp2_with fail
  refine (toValS x2 _ _ (s2_0.kept VlEl.st (Kept.of_below B6)) hl2 hz2).mono ?_
  rintro e w7 ⟨ux2_0, Fx2_0, rfl, tx2_0, zl_x2, nd_x2, hb7⟩
  obtain ⟨ax2_0, cx2_0, e_x2_0, -, -⟩ := (tx2_0.reads VlOwn.reads).form
  subst e_x2_0
  have zf_x2 : ∀ g ∈ Fx2_0, w6.heap.size ≤ g ∧ g < w7.heap.size := fun g hg => ⟨zl_x2 g hg, tx2_0.sized VlOwn.sized g hg⟩
  clear zl_x2
  have z7 := hb7.size
  have o7_x1_0 := tx1_0.kept CeOwn.loc CeOwn.sized hb7
  have B7 := below_tr B6 hb7 (by omega)
  clear tx1_0
  go_wp2_with fail
  refine (iHeapOkC x1 x2 _ _ _ (o7_x1_0.reads CeOwn.reads) (tx2_0.reads VlOwn.reads) hz1 hz2).mono ?_
  rintro e w8 ⟨rfl, hb8⟩
  have z8 := hb8.size
  have o8_x1_0 := o7_x1_0.kept CeOwn.loc CeOwn.sized hb8
  have o8_x2_0 := tx2_0.kept VlOwn.loc VlOwn.sized hb8
  have B8 := below_tr B7 hb8 (by omega)
  clear o7_x1_0 tx2_0
  go_wp2_with fail
  refine (toCellS x1 _ _ (s1_0.kept CeEl.st (Kept.of_below B8)) hl1 hz1).mono ?_
  rintro e w9 ⟨uz1_0, Fz1_0, rfl, tz1_0, zl_z1, nd_z1, hb9⟩
  obtain ⟨az1_0, cz1_0, e_z1_0, -, -⟩ := (tz1_0.reads CeOwn.reads).form
  subst e_z1_0
  have zf_z1 : ∀ g ∈ Fz1_0, w8.heap.size ≤ g ∧ g < w9.heap.size := fun g hg => ⟨zl_z1 g hg, tz1_0.sized CeOwn.sized g hg⟩
  clear zl_z1
  have z9 := hb9.size
  have o9_x1_0 := o8_x1_0.kept CeOwn.loc CeOwn.sized hb9
  have o9_x2_0 := o8_x2_0.kept VlOwn.loc VlOwn.sized hb9
  have B9 := below_tr B8 hb9 (by omega)
  clear o8_x1_0 o8_x2_0
  go_wp2_with fail
  refine (eqCellS x1 _ _ _ (o9_x1_0.reads CeOwn.reads) (tz1_0.reads CeOwn.reads)).mono ?_
  rintro e w10 ⟨rfl, hb10⟩
  have z10 := hb10.size
  have o10_x1_0 := o9_x1_0.kept CeOwn.loc CeOwn.sized hb10
  have o10_x2_0 := o9_x2_0.kept VlOwn.loc VlOwn.sized hb10
  have o10_z1_0 := tz1_0.kept CeOwn.loc CeOwn.sized hb10
  have B10 := below_tr B9 hb10 (by omega)
  clear o9_x1_0 o9_x2_0 tz1_0
  clear o10_z1_0
  go_wp2_with fail
  refine (toValS x2 _ _ (s2_0.kept VlEl.st (Kept.of_below B10)) hl2 hz2).mono ?_
  rintro e w11 ⟨uz2_0, Fz2_0, rfl, tz2_0, zl_z2, nd_z2, hb11⟩
  obtain ⟨az2_0, cz2_0, e_z2_0, -, -⟩ := (tz2_0.reads VlOwn.reads).form
  subst e_z2_0
  have zf_z2 : ∀ g ∈ Fz2_0, w10.heap.size ≤ g ∧ g < w11.heap.size := fun g hg => ⟨zl_z2 g hg, tz2_0.sized VlOwn.sized g hg⟩
  clear zl_z2
  have z11 := hb11.size
  have o11_x1_0 := o10_x1_0.kept CeOwn.loc CeOwn.sized hb11
  have o11_x2_0 := o10_x2_0.kept VlOwn.loc VlOwn.sized hb11
  have B11 := below_tr B10 hb11 (by omega)
  clear o10_x1_0 o10_x2_0
  go_wp2_with fail
  refine (eqValS x2 _ _ _ (o11_x2_0.reads VlOwn.reads) (tz2_0.reads VlOwn.reads)).mono ?_
  rintro e w12 ⟨rfl, hb12⟩
  have z12 := hb12.size
  have o12_x1_0 := o11_x1_0.kept CeOwn.loc CeOwn.sized hb12
  have o12_x2_0 := o11_x2_0.kept VlOwn.loc VlOwn.sized hb12
  have o12_z2_0 := tz2_0.kept VlOwn.loc VlOwn.sized hb12
  have B12 := below_tr B11 hb12 (by omega)
  clear o11_x1_0 o11_x2_0 tz2_0
  clear o12_z2_0
  go_wp2
  go_ret
  exact ⟨rfl, B12⟩

/-! ### THE ROW's STEP: WRITTEN OUT: LEAVE IT -/
set_option maxRecDepth 100000 in
theorem lifted (os : Os) (started : os.Started) (H : Type) (enc : TypeId × Value → H) :
    ReturnsInHanded {} Try.checked os 4 .any (Rows.fnExactHeapOkSpec.pre6 enc Try.prog Try.f4 Rows.fnExactHeapOkRow.domain false) (Rows.fnExactHeapOkSpec.post enc Try.prog Try.f4 false true false false) := by
  refine returnsInHanded_of_change (C := Try.checked) own started (by kernel_rfl) Try.func4
    (ChangeSpec.witness6 (enc := enc) (C := Try.checked) false ⟨#[], #[.slice none 0 0, .slice none 0 0], []⟩ 8 (by kernel_rfl) (by kernel_rfl) (by kernel_rfl) (by kernel_rfl)) ?_
  intro W base args ds gs before hval0 hW hcnd _
  have hval : ∀ (j : Nat) t v, Try.f4.params[j]? = some t → args[j]? = some v → Value.okWide Try.prog W .any base t v := hval0
  have hW' := hW
  obtain ⟨p, q, hA0, hV, rfl, hfz, hnd⟩ := hW
  have hA : DataW.TrodAll enc Try.prog W 0 (fun _ => true) true Try.f4.params.toList args.toList ds p := hA0
  rw [Try.params4] at hA hval
  obtain ⟨v0, vs0, d0, ds0, p0, q0, hargs, rfl, rfl, h0, r0⟩ := trodAll_cons hA
  obtain ⟨v1, vs1, d1, ds1, p1, q1, rfl, rfl, rfl, h1, r1⟩ := trodAll_cons r0
  obtain ⟨rfl, rfl, rfl⟩ := trodAll_nil r1
  obtain rfl : args = #[v0, v1] := by cases args; simp_all
  obtain ⟨rfl, rfl⟩ := trodVars_none hV
  have lt0 : ∀ x ∈ p0, x.block < W.heap.size := by have k0 := h0; obtain ⟨m, hm⟩ := k0; exact DataW.trod_lt m _ _ _ hm
  have lt1 : ∀ x ∈ p1, x.block < W.heap.size := by have k1 := h1; obtain ⟨m, hm⟩ := k1; exact DataW.trod_lt m _ _ _ hm
  clear hA0 hval0
  refine (walk v0 v1 W ⟨H, enc, base, d0, p0, hval 0 32 v0 rfl rfl, h0⟩ ⟨H, enc, base, d1, p1, hval 1 33 v1 rfl rfl, h1⟩).mono fun e W' ⟨he, bel⟩ => ?_
  subst he
  exact ⟨_, rfl, _, _, _, [], _, [], hW', trodAll_mk1 (shut_bool Try.underlying4 _), (trodAll_cons_mk (Below.trod laidOut (by kernel_rfl) (of_decide_eq_true (by kernel_rfl)) h0 bel lt0) (trodAll_cons_mk (Below.trod laidOut (by kernel_rfl) (of_decide_eq_true (by kernel_rfl)) h1 bel lt1) trodAll_mk0)), rfl, bel.frame _, fun h => by cases h⟩

theorem over : Rows.fnExactHeapOkRow.holds Try.pinned (OpenSpec.ofChange Rows.fnExactHeapOkSpec) :=
  OpenClaim.holds_of_wide 4 Try.f4 rfl rfl rfl rfl rfl rfl rfl ⟨rfl, rfl, rfl, rfl, rfl⟩ rfl rfl rfl rfl rfl (by kernel_rfl) Try.func4 (by kernel_rfl)
    (of_decide_eq_true (by kernel_rfl)) (by unfold Func.isWrapper; first | (rw [if_pos (by decide +kernel)]; kernel_rfl) | (rw [if_neg (by decide +kernel)]; exact ⟨rfl, rfl⟩))
    (fun os started H enc _ => lifted os started H enc)

/-- ████ THE STATEMENT ████ -/
theorem proved : Rows.FnExactHeapOkSaid := over
#print axioms proved
end Go.Proofs.Ytdhpmblhejcehaa.fnExactHeapOk
