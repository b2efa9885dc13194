/- The law FnExactCodeText of this commit's code returns true for every input and leaves its arguments as they were: no conditions. -/
/-
  THE SHELL OF A PROOF OF 'Rows.FnExactCodeTextSaid' ('loop.example/g00395/laws.FnExactCodeText'), for parameters of whatever type.
-/
import Derived.Test.YtkhemdagghlcdaaGreatDoorRows
import Derived.Test.YtkhemdagghlcdaaGreatDoorArgs
import Derived.Test.YtkhemdagghlcdaaGreatDoorSz
import Derived.Test.YtkhemdagghlcdaaGreatDoorTo
import Derived.Test.YtkhemdagghlcdaaGreatDoorEq
import Derived.Test.YtkhemdagghlcdaaGreatDoorTcT
import Derived.Test.YtkhemdagghlcdaaGreatDoorTcK
import Derived.Deep.RegionHeld3
import Derived.ChangeVars
import Derived.OpenVars
import Derived.Test.YtkhemdagghlcdaaGreatDoorCards
import Derived.Test.YtkhemdagghlcdaaGreatDoorTie
import Derived.WalkKit
import Derived.LaidMore
import Derived.Stop.Joined
import Derived.Stop.LaidErr
import Derived.SevenTiedAt
import Derived.ProofKit
import Derived.OpenShut
import Derived.ShutString
import Derived.ChangeOld
import Derived.Below
namespace Go.Proofs.YtkhemdagghlcdaaGreatDoor.fnExactCodeText
open Go.ChangeShapes Go.WideShapes Go.ChangeAt Go.RowKit
open Go.ChangeMaps (open_string shut_string)
set_option linter.unusedVariables false

theorem own : ownKnob Tryz.prog.godebug = none := by kernel_rfl
theorem laidOut : laidOutB Tryz.prog = true := by kernel_rfl

theorem vars {w : World} (hL : laidMetH Tryz.prog Rows.fnExactCodeTextRow.laid w) : TcE w := by
  rw [MakeChecks.laidMetH_plain _ _ _ (by kernel_rfl)] at hL
  exact ⟨tab_of (rest := [("loop.example/g00395/impl.opNames", strData opL)]) hL, ops_of (rest := []) hL.tail.tail.tail⟩
/-! ### STEP 1: THE WALK -/
set_option maxHeartbeats 4000000 in
set_option maxRecDepth 100000 in
theorem walk (v0 : Value) (w : World) (w0 : ArgIn Tryz.prog 25 w v0) (hL : laidMetH Tryz.prog Rows.fnExactCodeTextRow.laid w) :
    Calls Tryz.prog 3 #[v0] w fun e w' => e = .returned (.bool true) ∧ Below w.heap.size w w' := by
  have hE := vars hL
  clear hL
  obtain ⟨x1, v1_0, v1_1, rfl, r1_0, r1_1⟩ := open_Code w0
  have s1_0 := r1_0
  obtain ⟨a1_0, ca1_0, e_a1_0, -, -⟩ := r1_0.form
  subst e_a1_0
  have s1_1 := r1_1
  obtain ⟨a1_1, ca1_1, e_a1_1, -, -⟩ := r1_1.form
  subst e_a1_1
  go_enter Tryz.func3, Tryz.ntmps3
  go_wp2_with fail
  refine (szCode x1 _ _ 1048576 _ (by omega) (s1_0.kept InsEl.st (Kept.alloc _ _)) (s1_1.kept PatEl.st (Kept.alloc _ _))).mono ?_
  rintro e w1 ⟨hb1, ⟨rfl, _⟩ | ⟨q1, rfl, hq_1⟩⟩
  · go_wp2
    go_ret
    exact ⟨rfl, below_tr (Joins.below_alloc1 w _) hb1⟩
  have hz1 : bCd x1 ≤ 1048576 := by omega
  have B1 : Below w.heap.size w w1 := below_tr (Joins.below_alloc1 w _) hb1
  have z1 : w.heap.size + 1 ≤ w1.heap.size := by have := hb1.size; simp at this; omega
  have c1_A1_0 : w1.cell? ⟨w.heap.size, 0, none⟩ = some (.slice a1_0 x1.ins.length ca1_0) := by rw [hb1.cell (p := ⟨w.heap.size, 0, none⟩) (by simp)]; simp
  have c1_A1_1 : w1.cell? ⟨w.heap.size, 1, none⟩ = some (.slice a1_1 x1.pats.length ca1_1) := by rw [hb1.cell (p := ⟨w.heap.size, 1, none⟩) (by simp)]; simp
  clear hq_1
  go_wp2_with fail
  refine (toCode x1 _ _ _ (s1_0.kept InsEl.st (Kept.of_below B1)) (s1_1.kept PatEl.st (Kept.of_below B1)) hz1).mono ?_
  rintro e w2 ⟨up1_0, up1_1, Fp1_0, Fp1_1, rfl, tp1_0, tp1_1, zl_p1, nd_p1, hb2⟩
  obtain ⟨ap1_0, cp1_0, e_p1_0, -, -⟩ := (tp1_0.reads InsOwn.reads).form
  subst e_p1_0
  obtain ⟨ap1_1, cp1_1, e_p1_1, -, -⟩ := (tp1_1.reads PatOwn.reads).form
  subst e_p1_1
  have zf_p1 : ∀ g ∈ Fp1_0 ++ Fp1_1, w1.heap.size ≤ g ∧ g < w2.heap.size := fun g hg => ⟨zl_p1 g hg, (List.mem_append.1 hg).elim (tp1_0.sized InsOwn.sized g) (tp1_1.sized PatOwn.sized g)⟩
  clear zl_p1
  have z2 := hb2.size
  have c2_A1_0 := (hb2.cell (p := ⟨w.heap.size, 0, none⟩) (by show w.heap.size < _; omega)).trans c1_A1_0
  have c2_A1_1 := (hb2.cell (p := ⟨w.heap.size, 1, none⟩) (by show w.heap.size < _; omega)).trans c1_A1_1
  have B2 := below_tr B1 hb2 (by omega)
  clear c1_A1_0 c1_A1_1
  go_wp2_with fail
  refine (sCodeTextC x1 _ _ _ (tp1_0.reads InsOwn.reads) (tp1_1.reads PatOwn.reads) hz1).mono ?_
  rintro e w3 ⟨rfl, hb3⟩
  have z3 := hb3.size
  have c3_A1_0 := (hb3.cell (p := ⟨w.heap.size, 0, none⟩) (by show w.heap.size < _; omega)).trans c2_A1_0
  have c3_A1_1 := (hb3.cell (p := ⟨w.heap.size, 1, none⟩) (by show w.heap.size < _; omega)).trans c2_A1_1
  have o3_p1_0 := tp1_0.kept InsOwn.loc InsOwn.sized hb3
  have o3_p1_1 := tp1_1.kept PatOwn.loc PatOwn.sized hb3
  have B3 := below_tr B2 hb3 (by omega)
  clear c2_A1_0 c2_A1_1 tp1_0 tp1_1
  clear o3_p1_0
  clear o3_p1_1
  go_wp2_with fail
  refine (toCode x1 _ _ _ (s1_0.kept InsEl.st (Kept.of_below B3)) (s1_1.kept PatEl.st (Kept.of_below B3)) hz1).mono ?_
  rintro e w4 ⟨ux1_0, ux1_1, Fx1_0, Fx1_1, rfl, tx1_0, tx1_1, zl_x1, nd_x1, hb4⟩
  obtain ⟨ax1_0, cx1_0, e_x1_0, -, -⟩ := (tx1_0.reads InsOwn.reads).form
  subst e_x1_0
  obtain ⟨ax1_1, cx1_1, e_x1_1, -, -⟩ := (tx1_1.reads PatOwn.reads).form
  subst e_x1_1
  have zf_x1 : ∀ g ∈ Fx1_0 ++ Fx1_1, w3.heap.size ≤ g ∧ g < w4.heap.size := fun g hg => ⟨zl_x1 g hg, (List.mem_append.1 hg).elim (tx1_0.sized InsOwn.sized g) (tx1_1.sized PatOwn.sized g)⟩
  clear zl_x1
  have z4 := hb4.size
  have c4_A1_0 := (hb4.cell (p := ⟨w.heap.size, 0, none⟩) (by show w.heap.size < _; omega)).trans c3_A1_0
  have c4_A1_1 := (hb4.cell (p := ⟨w.heap.size, 1, none⟩) (by show w.heap.size < _; omega)).trans c3_A1_1
  have B4 := below_tr B3 hb4 (by omega)
  clear c3_A1_0 c3_A1_1
  have ln4_A1_0 : w.heap.size < w4.heap.size := by omega
  have nn4_A1_0 : w.heap.size ≠ w4.heap.size := by omega
  go_wp2_with fail
  refine (iCodeTextC x1 _ _ _ ((tx1_0.kept InsOwn.loc InsOwn.sized (Joins.below_alloc1 w4 _)).reads InsOwn.reads) ((tx1_1.kept PatOwn.loc PatOwn.sized (Joins.below_alloc1 w4 _)).reads PatOwn.reads) hz1 (hE.below (below_tr B4 (Joins.below_alloc1 w4 _)))).mono ?_
  rintro e w5 ⟨rfl, hb5⟩
  have hq5 : Below w4.heap.size w4 w5 := below_tr (Joins.below_alloc1 w4 _) hb5
  have z5 : w4.heap.size + 1 ≤ w5.heap.size := by have := hb5.size; simp at this; omega
  have c5_A1_0 := (hq5.cell (p := ⟨w.heap.size, 0, none⟩) (by show w.heap.size < _; omega)).trans c4_A1_0
  have c5_A1_1 := (hq5.cell (p := ⟨w.heap.size, 1, none⟩) (by show w.heap.size < _; omega)).trans c4_A1_1
  have c5_X1_0 : w5.cell? ⟨w4.heap.size, 0, none⟩ = some (.slice ax1_0 x1.ins.length cx1_0) := by rw [hb5.cell (p := ⟨w4.heap.size, 0, none⟩) (by simp)]; simp
  have c5_X1_1 : w5.cell? ⟨w4.heap.size, 1, none⟩ = some (.slice ax1_1 x1.pats.length cx1_1) := by rw [hb5.cell (p := ⟨w4.heap.size, 1, none⟩) (by simp)]; simp
  have o5_x1_0 := tx1_0.kept InsOwn.loc InsOwn.sized hq5
  have o5_x1_1 := tx1_1.kept PatOwn.loc PatOwn.sized hq5
  have B5 := below_tr B4 hq5 (by omega)
  clear c4_A1_0 c4_A1_1 tx1_0 tx1_1
  have HT := fun W (hK : Kept w5 W) => Lib.hid (toCode x1 _ _ W (s1_0.kept InsEl.st ((Kept.of_below B5).trans hK)) (s1_1.kept PatEl.st ((Kept.of_below B5).trans hK)) hz1)
  go_wp2_with fail
  have lt_A1 : w.heap.size < w5.heap.size := by omega
  have lt_X1 : w4.heap.size < w5.heap.size := by omega
  go_region_held3 (fun w' => w'.cell? ⟨w.heap.size, 0, none⟩ = some (.slice a1_0 x1.ins.length ca1_0) ∧ w'.cell? ⟨w.heap.size, 1, none⟩ = some (.slice a1_1 x1.pats.length ca1_1) ∧ w'.cell? ⟨w4.heap.size, 0, none⟩ = some (.slice ax1_0 x1.ins.length cx1_0) ∧ w'.cell? ⟨w4.heap.size, 1, none⟩ = some (.slice ax1_1 x1.pats.length cx1_1) ∧ Kept w5 w') (first | (exact ⟨c5_A1_0, c5_A1_1, c5_X1_0, c5_X1_1, Kept.refl _⟩) | (exact ⟨c5_A1_0, c5_A1_1, c5_X1_0, c5_X1_1, Kept.drew _⟩) | (exact ⟨(hbt.cell (p := ⟨w.heap.size, 0, none⟩) lt_A1).trans c5_A1_0, (hbt.cell (p := ⟨w.heap.size, 1, none⟩) lt_A1).trans c5_A1_1, (hbt.cell (p := ⟨w4.heap.size, 0, none⟩) lt_X1).trans c5_X1_0, (hbt.cell (p := ⟨w4.heap.size, 1, none⟩) lt_X1).trans c5_X1_1, (Kept.drew _).trans (Kept.of_below hbt)⟩) | (exact ⟨(hbe.cell (p := ⟨w.heap.size, 0, none⟩) (Nat.lt_of_lt_of_le lt_A1 hbt.size)).trans ((hbt.cell (p := ⟨w.heap.size, 0, none⟩) lt_A1).trans c5_A1_0), (hbe.cell (p := ⟨w.heap.size, 1, none⟩) (Nat.lt_of_lt_of_le lt_A1 hbt.size)).trans ((hbt.cell (p := ⟨w.heap.size, 1, none⟩) lt_A1).trans c5_A1_1), (hbe.cell (p := ⟨w4.heap.size, 0, none⟩) (Nat.lt_of_lt_of_le lt_X1 hbt.size)).trans ((hbt.cell (p := ⟨w4.heap.size, 0, none⟩) lt_X1).trans c5_X1_0), (hbe.cell (p := ⟨w4.heap.size, 1, none⟩) (Nat.lt_of_lt_of_le lt_X1 hbt.size)).trans ((hbt.cell (p := ⟨w4.heap.size, 1, none⟩) lt_X1).trans c5_X1_1), ((Kept.drew _).trans (Kept.of_below hbt)).trans (Kept.of_below hbe)⟩)) (first | (go_at_call 6; refine (HT _ (by first | exact Kept.drew _ | exact Kept.refl _)).out.mono ?_; rintro e wt ⟨uz0, uz1, Fz0, Fz1, rfl, roz0, roz1, _, _, hbt⟩; obtain ⟨az0, cz0, ez0, _, _⟩ := (roz0.reads InsOwn.reads).form; subst ez0; obtain ⟨az1, cz1, ez1, _, _⟩ := (roz1.reads PatOwn.reads).form; subst ez1) | (go_at_call 8; refine (eqCode x1 _ _ _ _ _ ((o5_x1_0.reads InsOwn.reads).kept InsEl.st ((Kept.drew _).trans (Kept.of_below hbt))) (roz0.reads InsOwn.reads) ((o5_x1_1.reads PatOwn.reads).kept PatEl.st ((Kept.drew _).trans (Kept.of_below hbt))) (roz1.reads PatOwn.reads)).mono ?_; rintro e we ⟨rfl, hbe⟩))
  have hbx : Below w5.heap.size w5 we := ((Below.refl _ _).drew).trans (hbt.trans (hbe.mono hbt.size))
  clear hbt hbe HT
  generalize we = w6 at *
  have z6 := hbx.size
  have c6_A1_0 := (hbx.cell (p := ⟨w.heap.size, 0, none⟩) (by show w.heap.size < _; omega)).trans c5_A1_0
  have c6_A1_1 := (hbx.cell (p := ⟨w.heap.size, 1, none⟩) (by show w.heap.size < _; omega)).trans c5_A1_1
  have c6_X1_0 := (hbx.cell (p := ⟨w4.heap.size, 0, none⟩) (by show w4.heap.size < _; omega)).trans c5_X1_0
  have c6_X1_1 := (hbx.cell (p := ⟨w4.heap.size, 1, none⟩) (by show w4.heap.size < _; omega)).trans c5_X1_1
  have o6_x1_0 := o5_x1_0.kept InsOwn.loc InsOwn.sized hbx
  have o6_x1_1 := o5_x1_1.kept PatOwn.loc PatOwn.sized hbx
  have B6 := below_tr B5 hbx (by omega)
  clear c5_A1_0 c5_A1_1 c5_X1_0 c5_X1_1 o5_x1_0 o5_x1_1
  go_wp2
  go_ret
  exact ⟨rfl, B6⟩

/-! ### THE ROW's STEP: WRITTEN OUT: LEAVE IT -/
theorem door_met (os : Os) (args : Array Value) : laidMetH Tryz.prog Rows.fnExactCodeTextRow.laid ((World.doorLaid Tryz.prog 400 os).forCall (fun _ _ => 0) ⟨#[], args, []⟩).memory :=
  laidMetH_of_parts3 (fuel := 8) (laidMet_of_run' 8 (by kernel_rfl) (by kernel_rfl)) (by kernel_rfl) (by kernel_rfl)
set_option maxRecDepth 100000 in
theorem lifted (os : Os) (started : os.Started) (H : Type) (enc : TypeId × Value → H) :
    ReturnsInHanded {} Tryz.checked os 3 .any (fun w args => (Rows.fnExactCodeTextSpec.pre enc Tryz.prog Tryz.f3 [] false w args ∧ laidMetH Tryz.prog Rows.fnExactCodeTextRow.laid w) ∧ sizedMet enc Tryz.prog Tryz.f3 (OpenSpec.ofChange Rows.fnExactCodeTextSpec) false w args)
      (Rows.fnExactCodeTextSpec.post enc Tryz.prog Tryz.f3 false true false false) := by
  refine returnsInHanded_of_change_and (C := Tryz.checked) (X := fun w _ => laidMetH Tryz.prog Rows.fnExactCodeTextRow.laid w) (fun _ _ _ hh h => h.of_heap hh) own started (by kernel_rfl) Tryz.func3
    (ChangeSpec.witness_shaped (enc := enc) (C := Tryz.checked) (os := os) (X := fun w _ => laidMetH Tryz.prog Rows.fnExactCodeTextRow.laid w) false (World.doorLaid Tryz.prog 400 os) #[.agg #[.slice none 0 0, .slice none 0 0]] 8 rfl (World.shaped_of_RefB (by kernel_rfl) (by kernel_rfl)) (by kernel_rfl) (by kernel_rfl) (by kernel_rfl) (door_met os _)) ?_
  intro W base args ds gs before hval0 hW _ _ hL _
  have hval : ∀ (j : Nat) t v, Tryz.f3.params[j]? = some t → args[j]? = some v → Value.okWide Tryz.prog W .any base t v := hval0
  have hW' := hW
  obtain ⟨p, q, hA0, hV, rfl, hfz, hnd⟩ := hW
  have hA : DataW.TrodAll enc Tryz.prog W 0 (fun _ => true) true Tryz.f3.params.toList args.toList ds p := hA0
  rw [Tryz.params3] at hA hval
  obtain ⟨v0, vs0, d0, ds0, p0, q0, hargs, rfl, rfl, h0, r0⟩ := trodAll_cons hA
  obtain ⟨rfl, rfl, rfl⟩ := trodAll_nil r0
  obtain rfl : args = #[v0] := by cases args; simp_all
  have hV2 := hV
  obtain ⟨_, _, _, _, _, _, rfl, -⟩ := trodVars_one hV2
  have lt0 : ∀ x ∈ p0, x.block < W.heap.size := by have k0 := h0; obtain ⟨m, hm⟩ := k0; exact DataW.trod_lt m _ _ _ hm
  clear hA0 hval0
  refine (walk v0 W ⟨H, enc, base, d0, p0, hval 0 25 v0 rfl rfl, h0⟩ hL).mono fun e W' ⟨he, bel⟩ => ?_
  subst he
  exact ⟨_, rfl, _, _, _, [], _, _, hW', trodAll_mk1 (shut_bool Tryz.underlying4 _), (trodAll_cons_mk (Below.trod laidOut (by kernel_rfl) (of_decide_eq_true (by kernel_rfl)) h0 bel lt0) trodAll_mk0), Below.trodVars laidOut bel (by kernel_rfl) hV, bel.frame _, fun h => by cases h⟩

theorem over : Rows.fnExactCodeTextRow.holds Tryz.pinned (OpenSpec.ofChange Rows.fnExactCodeTextSpec) :=
  OpenClaim.holds_of_wide 3 Tryz.f3 rfl rfl rfl rfl rfl rfl rfl ⟨rfl, rfl, rfl, rfl, rfl⟩ rfl rfl rfl rfl rfl (by kernel_rfl) Tryz.func3 (by kernel_rfl)
    (of_decide_eq_true (by kernel_rfl)) (by unfold Func.isWrapper; first | (rw [if_pos (by decide +kernel)]; kernel_rfl) | (rw [if_neg (by decide +kernel)]; exact ⟨rfl, rfl⟩))
    (fun os started H enc _ => lifted os started H enc)

theorem proved : Rows.FnExactCodeTextCardSaid :=
  Claim7.holds_tied_plain_at .later [] [.data, .data, .data, .data] true (true, "0cf71a4b544486b6c070f714ba585cc0334d512dda3e662bf3e3ed0591f84013") false
    over (fun _ h => by cases h) (by kernel_rfl) (fun _ h => by cases h) fnExactCodeText_row_tie rfl ⟨rfl, rfl⟩ (by kernel_rfl) rfl
    (fun f fn hf hfn => by
      obtain rfl : f = 3 := Option.some.inj ((show Tryz.prog.funcNamed "loop.example/g00395/laws.FnExactCodeText" = some 3 by kernel_rfl).symm.trans hf) |>.symm
      obtain rfl : fn = Tryz.f3 := (Option.some.inj (Tryz.func3.symm.trans hfn)).symm
      exact ⟨by kernel_rfl, fun j t ht => by
        rw [Tryz.params3] at ht
        have hm : t ∈ [25] := by simpa using Array.mem_of_getElem? ht
        have hall : ([25].all fun u => !Tryz.prog.wantsStandIn u) = true := by kernel_rfl
        exact (show Tryz.prog.wantsStandIn t = false by simpa using List.all_eq_true.1 hall t hm)⟩)
    (by kernel_rfl)
#print axioms proved
end Go.Proofs.YtkhemdagghlcdaaGreatDoor.fnExactCodeText
