/- The law FnExactShow of this commit's code returns true for every input and leaves its arguments as they were: no conditions. -/
/-
  THE SHELL OF A PROOF OF 'Rows.FnExactShowSaid' ('loop.example/g00395/laws.FnExactShow'), for parameters of whatever type.
-/
import Derived.Test.YtdhpmblhejcehaaDoorRows
import Derived.Test.YtdhpmblhejcehaaDoorArgs
import Derived.Test.YtdhpmblhejcehaaDoorSz
import Derived.Test.YtdhpmblhejcehaaDoorTo
import Derived.Test.YtdhpmblhejcehaaDoorEq
import Derived.Test.YtdhpmblhejcehaaDoorShS
import Derived.Test.YtdhpmblhejcehaaDoorShJ
import Derived.Test.YtdhpmblhejcehaaDoorTake
import Derived.Test.YtdhpmblhejcehaaDoorShTab
import Derived.Deep.RegionHeld3
import Derived.Test.YtdhpmblhejcehaaDoorCards
import Derived.Test.YtdhpmblhejcehaaDoorTie
import Derived.WalkKit
import Derived.LaidMore
import Derived.Stop.Joined
import Derived.Stop.LaidErr
import Derived.SevenTiedAt
import Derived.ProofKit
import Derived.OpenShut
import Derived.ShutString
import Derived.ChangeOld
import Derived.Below
namespace Go.Proofs.YtdhpmblhejcehaaDoor.fnExactShow
open Go.ChangeShapes Go.WideShapes Go.ChangeAt Go.RowKit
open Go.ChangeMaps (open_string shut_string)
set_option linter.unusedVariables false

theorem own : ownKnob Tryd.prog.godebug = none := by kernel_rfl
theorem laidOut : laidOutB Tryd.prog = true := by kernel_rfl

theorem vars {w : World} (hL : laidMetH Tryd.prog Rows.fnExactShowRow.laid w) : TabS w := by
  rw [MakeChecks.laidMetH_plain _ _ _ (by kernel_rfl)] at hL
  exact ⟨tab_of (rest := []) hL⟩
/-! ### STEP 1: THE WALK -/
set_option maxHeartbeats 4000000 in
set_option maxRecDepth 100000 in
theorem walk (v0 : Value) (v1 : Value) (v2 : Value) (w : World) (w0 : ArgIn Tryd.prog 35 w v0) (w1 : ArgIn Tryd.prog 36 w v1) (w2 : ArgIn Tryd.prog 3 w v2) (hL : laidMetH Tryd.prog Rows.fnExactShowRow.laid w) :
    Calls Tryd.prog 4 #[v0, v1, v2] w fun e w' => e = .returned (.bool true) ∧ Below w.heap.size w w' := by
  have hE := vars hL
  clear hL
  obtain ⟨x1, r1_0⟩ := open_CellS w0
  have s1_0 := r1_0
  obtain ⟨a1_0, ca1_0, e_a1_0, -, -⟩ := r1_0.form
  subst e_a1_0
  obtain ⟨x2, rfl, k2, n2, g2⟩ := open_Val w1
  obtain ⟨x3, rfl, hx3'⟩ := ArgIn.int Tryd.underlying3 w2
  have hx3 : I64 x3 := I64.of_wf hx3'
  go_enter Tryd.func4, Tryd.ntmps4
  go_wp2_with fail
  refine (szCellS x1 _ 1048576 _ (by omega) (s1_0.kept CeEl.st (Kept.alloc _ _))).mono ?_
  rintro e w1 ⟨hb1, ⟨rfl, _⟩ | ⟨q1, rfl, hq_1⟩⟩
  · go_wp2
    go_ret
    exact ⟨rfl, below_tr (Joins.below_alloc1 w _) hb1⟩
  have hz1 : bulkL bCe x1 ≤ 1048576 := by omega
  have B1 : Below w.heap.size w w1 := below_tr (Joins.below_alloc1 w _) hb1
  have f0 := hb1.cell (p := ⟨w.heap.size, 0, none⟩) (by simp)
  simp at f0
  have f1 := hb1.cell (p := ⟨w.heap.size, 1, none⟩) (by simp)
  simp at f1
  have f2 := hb1.cell (p := ⟨w.heap.size, 2, none⟩) (by simp)
  simp at f2
  have z1 := hb1.size
  simp at z1
  have hl1 : x1.length ≤ 1048576 := Nat.le_trans (bulkL_len _ _) hz1
  go_wp2_with fail
  refine (szVal x2 q1 _ (by omega) g2).mono ?_
  rintro e w2 ⟨hb2, ⟨rfl, _⟩ | ⟨q2, rfl, hq_2⟩⟩
  · go_wp2
    go_ret
    exact ⟨rfl, below_tr B1 hb2⟩
  have hz2 : x2.s.size ≤ 1048576 := by have : bVl x2 = x2.s.size := rfl; omega
  have B2 := below_tr B1 hb2
  have z2 := hb2.size
  have c0 := (hb2.cell (p := ⟨w.heap.size, 0, none⟩) (by show w.heap.size < _; omega)).trans f0
  have c1 := (hb2.cell (p := ⟨w.heap.size, 1, none⟩) (by show w.heap.size < _; omega)).trans f1
  have c2 := (hb2.cell (p := ⟨w.heap.size, 2, none⟩) (by show w.heap.size < _; omega)).trans f2
  have zz : w.heap.size < w2.heap.size := by omega
  clear hq_1 hq_2 hb1 hb2 f0 f1 f2
  go_wp2_with fail
  have hI : ∀ W, Below w2.heap.size w2 W → (W.cell? ⟨w.heap.size, 0, none⟩ = some (.int .i64 x2.kind) ∧ W.cell? ⟨w.heap.size, 1, none⟩ = some (.int .i64 x2.n) ∧ W.cell? ⟨w.heap.size, 2, none⟩ = some (.string x2.s)) := fun W hW =>
    ⟨(hW.cell (p := ⟨w.heap.size, 0, none⟩) zz).trans c0, (hW.cell (p := ⟨w.heap.size, 1, none⟩) zz).trans c1, (hW.cell (p := ⟨w.heap.size, 2, none⟩) zz).trans c2⟩
  refine region_begin (n := 7) (S := (fun W => Below w2.heap.size w2 W ∧ (W.cell? ⟨w.heap.size, 0, none⟩ = some (.int .i64 x2.kind) ∧ W.cell? ⟨w.heap.size, 1, none⟩ = some (.int .i64 x2.n) ∧ W.cell? ⟨w.heap.size, 2, none⟩ = some (.string x2.s)))) (by kernel_rfl) rfl (by kernel_rfl) ⟨(Below.refl _ _).drew, hI _ (Below.refl _ _).drew⟩ (fun hHeld => ?_)
  refine take_next (i := 0) (v := ?_) [] (ts' := [0]) rfl (by kernel_rfl) (by kernel_rfl) (by kernel_rfl) (fun _ _ _ h => h) (.inl ⟨by rfl, ?_⟩) (by assumption) (by kernel_rfl) (d := 21) rfl (by simp only [Act.put, List.setIfInBounds_toArray, List.set_cons_zero, List.set_cons_succ]; rfl) ?_
  rotate_left
  · intro w' hSw
    try dsimp only at hSw
    go_split_ands
    go_simp
    try with_reducible rfl
  refine take_next (i := 2) (v := ?_) [0] (ts' := [0, 2]) rfl (by kernel_rfl) (by kernel_rfl) (by kernel_rfl) (fun _ _ _ h => h) (.inl ⟨by rfl, ?_⟩) (by assumption) (by kernel_rfl) (d := 23) rfl (by simp only [Act.put, List.setIfInBounds_toArray, List.set_cons_zero, List.set_cons_succ]; rfl) ?_
  rotate_left
  · intro w' hSw
    try dsimp only at hSw
    go_split_ands
    go_simp
    try with_reducible rfl
  refine take_next (i := 4) (v := ?_) [0, 2] (ts' := [0, 2, 4]) rfl (by kernel_rfl) (by kernel_rfl) (by kernel_rfl) (fun _ _ _ h => h) (.inl ⟨by rfl, ?_⟩) (by assumption) (by kernel_rfl) (d := 25) rfl (by simp only [Act.put, List.setIfInBounds_toArray, List.set_cons_zero, List.set_cons_succ]; rfl) ?_
  rotate_left
  · intro w' hSw
    try dsimp only at hSw
    go_split_ands
    go_simp
    try with_reducible rfl
  refine wpAnyH_ready (rs := [1]) (by kernel_rfl) (by simp) ?_
  refine AllReadyH.cons (o := _) rfl (fun K hK => ?_) AllReadyH.nil
  go_simp
  refine ((toCellS x1 _ _ (s1_0.kept CeEl.st ((Kept.of_below B2).trans (Kept.of_below hHeld.1))) hl1 hz1)).mono ?_
  rintro e w1 ⟨up, Fp, rfl, tp, zl_p, nd_p, hb1⟩
  dsimp only
  refine hK.out _ _ ⟨below_tr hHeld.1 hb1, hI _ (below_tr hHeld.1 hb1)⟩ (fun hHeld => ?_)
  clear hK K
  refine mask_is (n := 7) [0, 2, 4, 1] (by kernel_rfl) ?_
  refine wpAnyH_ready (rs := [3]) (by kernel_rfl) (by simp) ?_
  refine AllReadyH.cons (o := _) rfl (fun K hK => ?_) AllReadyH.nil
  go_simp
  refine ((toVal x2 _)).mono ?_
  rintro e w3 ⟨rfl, hb3⟩
  dsimp only
  refine hK.out _ _ ⟨below_tr hHeld.1 hb3, hI _ (below_tr hHeld.1 hb3)⟩ (fun hHeld => ?_)
  clear hK K
  refine mask_is (n := 7) [0, 2, 4, 1, 3] (by kernel_rfl) ?_
  refine wpAnyH_ready (rs := [5]) (by kernel_rfl) (by simp) ?_
  refine AllReadyH.cons (o := _) rfl (fun K hK => ?_) AllReadyH.nil
  go_simp
  refine ((sShowC x1 x2 x3 _ _ ((tp.reads CeOwn.reads).kept CeEl.st (Kept.of_below hb3)) hz1 hz2 k2 n2 hx3)).mono ?_
  rintro e w5 ⟨rfl, hb5⟩
  dsimp only
  refine hK.out _ _ ⟨below_tr hHeld.1 hb5, hI _ (below_tr hHeld.1 hb5)⟩ (fun hHeld => ?_)
  clear hK K
  refine mask_is (n := 7) [0, 2, 4, 1, 3, 5] (by kernel_rfl) ?_
  refine take_next (i := 6) (v := ?_) [0, 2, 4, 1, 3, 5] (ts' := [0, 2, 4, 1, 3, 5, 6]) rfl (by kernel_rfl) (by kernel_rfl) (by kernel_rfl) (fun _ _ _ h => h) (.inl ⟨by rfl, ?_⟩) (by assumption) (by kernel_rfl) (d := 8) rfl (by simp only [Act.put, List.setIfInBounds_toArray, List.set_cons_zero, List.set_cons_succ]; rfl) ?_
  rotate_left
  · intro w' hSw
    try dsimp only at hSw
    go_split_ands
    go_simp
    try with_reducible rfl
  refine wpAnyH_done (by kernel_rfl) ?_ _
  try dsimp only at hHeld
  have hH := hHeld.1
  have d0 := (hH.cell (p := ⟨w.heap.size, 0, none⟩) zz).trans c0
  have d1 := (hH.cell (p := ⟨w.heap.size, 1, none⟩) zz).trans c1
  have d2 := (hH.cell (p := ⟨w.heap.size, 2, none⟩) zz).trans c2
  have B3 := below_tr B2 hH
  have z3 := Nat.lt_of_lt_of_le zz hH.size
  clear hHeld tp zl_p nd_p hb1 hb3 hb5 hI c0 c1 c2 hH
  generalize w5 = wq at *
  go_wp2_with fail
  refine (toCellS x1 _ _ (s1_0.kept CeEl.st (Kept.of_below B3)) hl1 hz1).mono ?_
  rintro e w4 ⟨ux1_0, Fx1_0, rfl, tx1_0, zl_x1, nd_x1, hb4⟩
  obtain ⟨ax1_0, cx1_0, e_x1_0, -, -⟩ := (tx1_0.reads CeOwn.reads).form
  subst e_x1_0
  have B4 := below_tr B3 hb4
  have g0 := (hb4.cell (p := ⟨w.heap.size, 0, none⟩) z3).trans d0
  have g1 := (hb4.cell (p := ⟨w.heap.size, 1, none⟩) z3).trans d1
  have g2' := (hb4.cell (p := ⟨w.heap.size, 2, none⟩) z3).trans d2
  have z4 := Nat.lt_of_lt_of_le z3 hb4.size
  go_wp2_with fail
  refine (toVal x2 _).mono ?_
  rintro e w5 ⟨rfl, hb5⟩
  have B5 := below_tr B4 hb5
  have o5 := tx1_0.kept CeOwn.loc CeOwn.sized hb5
  go_wp2_with fail
  refine (iShowC x1 x2 x3 _ _ (o5.reads CeOwn.reads) hz1 hz2 k2 n2 hx3 (hE.below B5)).mono ?_
  rintro e w6 ⟨rfl, hb6⟩
  have B6 := below_tr B5 hb6
  have o6 := o5.kept CeOwn.loc CeOwn.sized hb6
  clear tx1_0 o5 g0 g1 g2' d0 d1 d2
  go_wp2_with fail
  refine (toCellS x1 _ _ (s1_0.kept CeEl.st (Kept.of_below B6)) hl1 hz1).mono ?_
  rintro e w7 ⟨uz1_0, Fz1_0, rfl, tz1_0, zl_z1, nd_z1, hb7⟩
  obtain ⟨az1_0, cz1_0, e_z1_0, -, -⟩ := (tz1_0.reads CeOwn.reads).form
  subst e_z1_0
  have B7 := below_tr B6 hb7
  have o7 := o6.kept CeOwn.loc CeOwn.sized hb7
  go_wp2_with fail
  refine (eqCellS x1 _ _ _ (o7.reads CeOwn.reads) (tz1_0.reads CeOwn.reads)).mono ?_
  rintro e w8 ⟨rfl, hb8⟩
  have B8 := below_tr B7 hb8
  go_wp2
  go_ret
  exact ⟨rfl, B8⟩

/-! ### THE ROW's STEP: WRITTEN OUT: LEAVE IT -/
theorem door_met (os : Os) (args : Array Value) : laidMetH Tryd.prog Rows.fnExactShowRow.laid ((World.doorLaid Tryd.prog 400 os).forCall (fun _ _ => 0) ⟨#[], args, []⟩).memory :=
  laidMetH_of_parts3 (fuel := 8) (laidMet_of_run' 8 (by kernel_rfl) (by kernel_rfl)) (by kernel_rfl) (by kernel_rfl)
set_option maxRecDepth 100000 in
theorem lifted (os : Os) (started : os.Started) (H : Type) (enc : TypeId × Value → H) :
    ReturnsInHanded {} Tryd.checked os 4 .any (fun w args => (Rows.fnExactShowSpec.pre enc Tryd.prog Tryd.f4 [] false w args ∧ laidMetH Tryd.prog Rows.fnExactShowRow.laid w) ∧ sizedMet enc Tryd.prog Tryd.f4 (OpenSpec.ofChange Rows.fnExactShowSpec) false w args)
      (Rows.fnExactShowSpec.post enc Tryd.prog Tryd.f4 false true false false) := by
  refine returnsInHanded_of_change_and (C := Tryd.checked) (X := fun w _ => laidMetH Tryd.prog Rows.fnExactShowRow.laid w) (fun _ _ _ hh h => h.of_heap hh) own started (by kernel_rfl) Tryd.func4
    (ChangeSpec.witness_shaped (enc := enc) (C := Tryd.checked) (os := os) (X := fun w _ => laidMetH Tryd.prog Rows.fnExactShowRow.laid w) false (World.doorLaid Tryd.prog 400 os) #[.slice none 0 0, .agg #[.int .i64 0, .int .i64 0, .string ByteArray.empty], .int .i64 0] 8 rfl (World.shaped_of_RefB (by kernel_rfl) (by kernel_rfl)) (by kernel_rfl) (by kernel_rfl) (by kernel_rfl) (door_met os _)) ?_
  intro W base args ds gs before hval0 hW _ _ hL _
  have hval : ∀ (j : Nat) t v, Tryd.f4.params[j]? = some t → args[j]? = some v → Value.okWide Tryd.prog W .any base t v := hval0
  have hW' := hW
  obtain ⟨p, q, hA0, hV, rfl, hfz, hnd⟩ := hW
  have hA : DataW.TrodAll enc Tryd.prog W 0 (fun _ => true) true Tryd.f4.params.toList args.toList ds p := hA0
  rw [Tryd.params4] at hA hval
  obtain ⟨v0, vs0, d0, ds0, p0, q0, hargs, rfl, rfl, h0, r0⟩ := trodAll_cons hA
  obtain ⟨v1, vs1, d1, ds1, p1, q1, rfl, rfl, rfl, h1, r1⟩ := trodAll_cons r0
  obtain ⟨v2, vs2, d2, ds2, p2, q2, rfl, rfl, rfl, h2, r2⟩ := trodAll_cons r1
  obtain ⟨rfl, rfl, rfl⟩ := trodAll_nil r2
  obtain rfl : args = #[v0, v1, v2] := by cases args; simp_all
  obtain ⟨rfl, rfl⟩ := trodVars_none hV
  have lt0 : ∀ x ∈ p0, x.block < W.heap.size := by have k0 := h0; obtain ⟨m, hm⟩ := k0; exact DataW.trod_lt m _ _ _ hm
  have lt1 : ∀ x ∈ p1, x.block < W.heap.size := by have k1 := h1; obtain ⟨m, hm⟩ := k1; exact DataW.trod_lt m _ _ _ hm
  have lt2 : ∀ x ∈ p2, x.block < W.heap.size := by have k2 := h2; obtain ⟨m, hm⟩ := k2; exact DataW.trod_lt m _ _ _ hm
  clear hA0 hval0
  refine (walk v0 v1 v2 W ⟨H, enc, base, d0, p0, hval 0 35 v0 rfl rfl, h0⟩ ⟨H, enc, base, d1, p1, hval 1 36 v1 rfl rfl, h1⟩ ⟨H, enc, base, d2, p2, hval 2 3 v2 rfl rfl, h2⟩ hL).mono fun e W' ⟨he, bel⟩ => ?_
  subst he
  exact ⟨_, rfl, _, _, _, [], _, [], hW', trodAll_mk1 (shut_bool Tryd.underlying4 _), (trodAll_cons_mk (Below.trod laidOut (by kernel_rfl) (of_decide_eq_true (by kernel_rfl)) h0 bel lt0) (trodAll_cons_mk (Below.trod laidOut (by kernel_rfl) (of_decide_eq_true (by kernel_rfl)) h1 bel lt1) (trodAll_cons_mk (Below.trod laidOut (by kernel_rfl) (of_decide_eq_true (by kernel_rfl)) h2 bel lt2) trodAll_mk0))), rfl, bel.frame _, fun h => by cases h⟩

theorem over : Rows.fnExactShowRow.holds Tryd.pinned (OpenSpec.ofChange Rows.fnExactShowSpec) :=
  OpenClaim.holds_of_wide 4 Tryd.f4 rfl rfl rfl rfl rfl rfl rfl ⟨rfl, rfl, rfl, rfl, rfl⟩ rfl rfl rfl rfl rfl (by kernel_rfl) Tryd.func4 (by kernel_rfl)
    (of_decide_eq_true (by kernel_rfl)) (by unfold Func.isWrapper; first | (rw [if_pos (by decide +kernel)]; kernel_rfl) | (rw [if_neg (by decide +kernel)]; exact ⟨rfl, rfl⟩))
    (fun os started H enc _ => lifted os started H enc)

theorem proved : Rows.FnExactShowCardSaid :=
  Claim7.holds_tied_plain_at .later [] [.data, .data, .data] true (true, "f3bccd5bc21860951ec28201d953c65fcd9eec64fd88db1b6a50d3a4aa6069d3") false
    over (fun _ h => by cases h) (by kernel_rfl) (fun _ h => by cases h) fnExactShow_row_tie rfl ⟨rfl, rfl⟩ (by kernel_rfl) rfl
    (fun f fn hf hfn => by
      obtain rfl : f = 4 := Option.some.inj ((show Tryd.prog.funcNamed "loop.example/g00395/laws.FnExactShow" = some 4 by kernel_rfl).symm.trans hf) |>.symm
      obtain rfl : fn = Tryd.f4 := (Option.some.inj (Tryd.func4.symm.trans hfn)).symm
      exact ⟨by kernel_rfl, fun j t ht => by
        rw [Tryd.params4] at ht
        have hm : t ∈ [35, 36, 3] := by simpa using Array.mem_of_getElem? ht
        have hall : ([35, 36, 3].all fun u => !Tryd.prog.wantsStandIn u) = true := by kernel_rfl
        exact (show Tryd.prog.wantsStandIn t = false by simpa using List.all_eq_true.1 hall t hm)⟩)
    (by kernel_rfl)
#print axioms proved
end Go.Proofs.YtdhpmblhejcehaaDoor.fnExactShow
