/- The law FnExactLex of this commit's code returns true for every input and leaves its arguments as they were: no conditions. -/
/-
  THE SHELL OF A PROOF OF 'Rows.FnExactLexSaid' ('loop.example/g00395/laws.FnExactLex'), WRITTEN BY PROGRAM (proof-skeleton.mjs) off the guide's own print for that function. Not trusted: Lean checks it.
  YOURS ARE THE HOLES MARKED 'HOLE' (each bears 'sorry'). ALL ELSE IS THE GUIDE's TEMPLATE (howto/template/XProofs.lean) at this function's number and types: leave it.
-/
import Derived.Test.YtjflnpcmjibcpaaDoorRows
import Derived.Test.YtjflnpcmjibcpaaDoorLexLaw
import Derived.Test.YtjflnpcmjibcpaaDoorVars
import Derived.Test.YtjflnpcmjibcpaaDoorCards
import Derived.Test.YtjflnpcmjibcpaaDoorTie
import Derived.WalkKit
import Derived.LaidMore
import Derived.Stop.Joined
import Derived.Stop.LaidErr
import Derived.SevenTiedAt
import Derived.ProofKit
import Derived.OpenShut
import Derived.ShutString
namespace Go.Proofs.YtjflnpcmjibcpaaDoor.fnExactLex
open Go.ChangeShapes Go.WideShapes Go.ChangeAt Go.RowKit
open Go.ChangeMaps (open_string shut_string)
set_option linter.unusedVariables false      -- a walk need not use every 'w<i>' (that an integer argument fits its kind)

theorem own : ownKnob Tryd.prog.godebug = none := by kernel_rfl

theorem vars {w : World} (hL : laidMetH Tryd.prog Rows.fnExactLexRow.laid w) : Vars w := by
  rw [MakeChecks.laidMetH_plain _ _ _ (by kernel_rfl)] at hL
  exact vars_of hL
/-! ### STEP 1: THE WALK: the Go text returns true. 'Grown w w'': the world has at most new blocks (Derived/RowKit3.lean). Part the cases AHEAD of 'go_enter' where a test parts the walk; take each callee by a contract of your own. -/
theorem walk (a0 : ByteArray) (w0 : a0.size ≤ maxLen) (w : World) (hL : laidMetH Tryd.prog Rows.fnExactLexRow.laid w) :
    Calls Tryd.prog 3 #[.string a0] w fun e w' => e = .returned (.bool true) ∧ Below w.heap.size w w' := by
  have hV := vars hL
  clear hL
  have hs := w0
  unfold maxLen at w0
  have hlen := lexL_len a0.data.toList
  obtain ⟨l, c, p, hR⟩ : ∃ l c p, lexL a0.data.toList = (l, c, p) := ⟨_, _, _, rfl⟩
  have HS := fun W => Lib.hid (sLexG a0 l c p W hs hR)
  have HI := fun W (hV : Vars W) => Lib.hid (iLexG a0 l c p W hs hV hR)
  rw [hR] at hlen
  clear hR
  have hl4 : l.length ≤ 4000 := hlen
  clear hlen
  by_cases hb : a0.size ≤ 1048576
  · go_enter Tryd.func3, Tryd.ntmps3
    go_wp2_with fail
    refine (HS _).out.mono ?_
    rintro e w1 ⟨v1, rfl, hown1, hb1⟩
    go_wp2_with fail
    refine (HI _ (hV.below hb1)).out.mono ?_
    rintro e w2 ⟨v2, rfl, hown2, hb2⟩
    rcases own_toks hown1 with ⟨hl, a1, cap1, rfl⟩ | ⟨hl, g1, cap1, rfl, hg1, hr1, hm1⟩
    · rcases own_toks hown2 with ⟨_, a2, cap2, rfl⟩ | ⟨hl2, _⟩
      · clear hown1 hown2
        go_wp2_with fail
        refine (eqTok0 _ _ _ _ _).mono ?_
        rintro e w3 ⟨rfl, rfl⟩
        go_wp2_with fail
        refine (markTok0 _ _ 1 _).mono ?_
        rintro e w4 ⟨rfl, rfl⟩
        go_wp2_with fail
        refine (heldTok0 _ _ 1 _).mono ?_
        rintro e w5 ⟨rfl, rfl⟩
        have hb12 := hb1.trans (hb2.mono hb1.size)
        go_wp2_with fail
        refine (HI _ (hV.below hb12)).out.mono ?_
        rintro e w6 ⟨v6, rfl, hown6, hb6⟩
        rcases own_toks hown6 with ⟨_, a6, cap6, rfl⟩ | ⟨hl6, _⟩
        · go_wp2_with fail
          refine (eqTok0 _ _ _ _ _).mono ?_
          rintro e w7 ⟨rfl, rfl⟩
          go_wp2_with fail
          refine (heldTok0 _ _ 1 _).mono ?_
          rintro e w8 ⟨rfl, rfl⟩
          go_wp2
          go_ret
          exact ⟨rfl, hb12.trans (hb6.mono hb12.size)⟩
        · rw [hl] at hl6; simp at hl6
      · rw [hl] at hl2; simp at hl2
    · rcases own_toks hown2 with ⟨hl2, _⟩ | ⟨_, g2, cap2, rfl, hg2, hr2, hm2⟩
      · rw [hl2] at hl; simp at hl
      have hr1' := hr1.below hb2
      have hgl := hr1.elim (fun h => by rw [h] at hl; simp at hl) (fun ⟨g, h1, h2, _⟩ => by cases h1; exact h2)
      have hg2' := (hm2 1).1
      clear hown1 hown2 hm1
      go_wp2_with fail
      refine (eqTokS _ _ _ _ l _ hl4 hr2 hr1').mono ?_
      rintro e w3 ⟨rfl, hb3⟩
      have hM3 := (hm2 1).below hb3
      have hr13 := hr1'.below hb3
      have hb13 := (hb1.trans (hb2.mono hb1.size)).trans (hb3.mono (Nat.le_trans hb1.size hb2.size))
      clear hm2 hr1 hr1' hr2
      go_wp2_with fail
      refine (markTok1 _ _ _ _ hl4 hM3).mono ?_
      rintro e w4 ⟨rfl, hM4, hbut⟩
      have hg12 : w.heap.size ≤ g2 := Nat.le_trans hb1.size hg2
      have hb14 := hb13.trans (hbut.bel hg12 hb13.size)
      have hr14 := hr13.but hbut (by omega)
      clear hM3 hr13 hbut
      go_wp2_with fail
      refine (heldTok1 _ _ _ _ hl4 hM4).mono ?_
      rintro e w5 ⟨rfl, hb5⟩
      have hb15 := hb14.trans (hb5.mono hb14.size)
      have hM5 := hM4.below hb5
      have hr15 := hr14.below hb5
      clear hM4 hr14 hb5
      go_wp2_with fail
      refine (HI _ (hV.below hb15)).out.mono ?_
      rintro e w6 ⟨v6, rfl, hown6, hb6⟩
      rcases own_toks hown6 with ⟨hl6, _⟩ | ⟨_, g6, cap6, rfl, hg6, hr6, hm6⟩
      · rw [hl6] at hl; simp at hl
      have hb16 := hb15.trans (hb6.mono hb15.size)
      have hM6 := hM5.below hb6
      have hr16 := hr15.below hb6
      clear hM5 hr15 hb6 hown6 hm6
      go_wp2_with fail
      refine (eqTokS _ _ _ _ l _ hl4 hr6 hr16).mono ?_
      rintro e w7 ⟨rfl, hb7⟩
      have hM7 := hM6.below hb7
      have hb17 := hb16.trans (hb7.mono hb16.size)
      clear hM6 hr6 hr16 hb7
      go_wp2_with fail
      refine (heldTok1 _ _ _ _ hl4 hM7).mono ?_
      rintro e w8 ⟨rfl, hb8⟩
      go_wp2
      go_ret
      exact ⟨rfl, hb17.trans (hb8.mono hb17.size)⟩
  · go_enter Tryd.func3, Tryd.ntmps3
    go_wp2
    go_ret
    exact ⟨rfl, Below.refl _ _⟩

/-! ### THE ROW's STEP: WRITTEN OUT: LEAVE IT -/
theorem door_met (os : Os) (args : Array Value) : laidMetH Tryd.prog Rows.fnExactLexRow.laid ((World.doorLaid Tryd.prog 400 os).forCall (fun _ _ => 0) ⟨#[], args, []⟩).memory :=
  laidMetH_of_parts3 (fuel := 8) (laidMet_of_run' 8 (by kernel_rfl) (by kernel_rfl)) (by kernel_rfl) (by kernel_rfl)
set_option maxRecDepth 100000 in
theorem lifted (os : Os) (started : os.Started) (H : Type) (enc : TypeId × Value → H) :
    ReturnsInHanded {} Tryd.checked os 3 .any (fun w args => (Rows.fnExactLexSpec.pre enc Tryd.prog Tryd.f3 [] false w args ∧ laidMetH Tryd.prog Rows.fnExactLexRow.laid w) ∧ sizedMet enc Tryd.prog Tryd.f3 (OpenSpec.ofChange Rows.fnExactLexSpec) false w args)
      (Rows.fnExactLexSpec.post enc Tryd.prog Tryd.f3 false true false false) := by
  refine returnsInHanded_of_change_and (C := Tryd.checked) (X := fun w _ => laidMetH Tryd.prog Rows.fnExactLexRow.laid w) (fun _ _ _ hh h => h.of_heap hh) own started (by kernel_rfl) Tryd.func3
    (ChangeSpec.witness_shaped (enc := enc) (C := Tryd.checked) (os := os) (X := fun w _ => laidMetH Tryd.prog Rows.fnExactLexRow.laid w) false (World.doorLaid Tryd.prog 400 os) #[.string ByteArray.empty] 8 rfl (World.shaped_of_RefB (by kernel_rfl) (by kernel_rfl)) (by kernel_rfl) (by kernel_rfl) (by kernel_rfl) (door_met os _)) ?_
  intro W base args ds gs before hval0 hW _ _ hL _
  have hval : ∀ (j : Nat) t v, Tryd.f3.params[j]? = some t → args[j]? = some v → Value.okWide Tryd.prog W .any base t v := hval0
  have hW' := hW
  obtain ⟨p, q, hA0, hV, rfl, hfz, hnd⟩ := hW
  have hA : DataW.TrodAll enc Tryd.prog W 0 (fun _ => true) true Tryd.f3.params.toList args.toList ds p := hA0
  rw [Tryd.params3] at hA hval
  obtain ⟨v0, vs0, d0, ds0, p0, q0, hargs, rfl, rfl, h0, r0⟩ := trodAll_cons hA
  obtain ⟨rfl, rfl, rfl⟩ := trodAll_nil r0
  obtain rfl : args = #[v0] := by cases args; simp_all
  obtain ⟨rfl, rfl⟩ := trodVars_none hV
  obtain ⟨a0, rfl, rfl, rfl, w0⟩ := open_string Tryd.underlying9 (hval 0 9 v0 rfl rfl) h0
  clear hA0 hval0
  simp only [List.append_nil] at hW'
  refine (walk a0 w0 W hL).mono fun e W' ⟨he, hg⟩ => ?_
  subst he
  exact ⟨_, rfl, _, _, _, [], _, [], hW', (trodAll_cons_mk (shut_bool Tryd.underlying4 _) trodAll_mk0), (trodAll_cons_mk (shut_string Tryd.underlying9 w0) trodAll_mk0), rfl, hg.frame _, fun h => by cases h⟩

theorem over : Rows.fnExactLexRow.holds Tryd.pinned (OpenSpec.ofChange Rows.fnExactLexSpec) :=
  OpenClaim.holds_of_wide 3 Tryd.f3 rfl rfl rfl rfl rfl rfl rfl ⟨rfl, rfl, rfl, rfl, rfl⟩ rfl rfl rfl rfl rfl (by kernel_rfl) Tryd.func3 (by kernel_rfl)
    (of_decide_eq_true (by kernel_rfl)) (by unfold Func.isWrapper; first | (rw [if_pos (by decide +kernel)]; kernel_rfl) | (rw [if_neg (by decide +kernel)]; exact ⟨rfl, rfl⟩))
    (fun os started H enc _ => lifted os started H enc)

theorem proved : Rows.FnExactLexCardSaid :=
  Claim7.holds_tied_plain_at .later [] [.data, .data, .data, .sentinel, .sentinel] true (true, "d8881259b8b5b325d32ed33935fb57e261bc131258eb7accb3db8a3d19fd88af") true
    over (fun _ h => by cases h) (by kernel_rfl) (fun _ h => by cases h) fnExactLex_row_tie rfl ⟨rfl, rfl⟩ (by kernel_rfl) rfl
    (fun f fn hf hfn => by
      obtain rfl : f = 3 := Option.some.inj ((show Tryd.prog.funcNamed "loop.example/g00395/laws.FnExactLex" = some 3 by kernel_rfl).symm.trans hf) |>.symm
      obtain rfl : fn = Tryd.f3 := (Option.some.inj (Tryd.func3.symm.trans hfn)).symm
      exact ⟨by kernel_rfl, fun j t ht => by
        rw [Tryd.params3] at ht
        have hm : t ∈ [9] := by simpa using Array.mem_of_getElem? ht
        have hall : ([9].all fun u => !Tryd.prog.wantsStandIn u) = true := by kernel_rfl
        exact (show Tryd.prog.wantsStandIn t = false by simpa using List.all_eq_true.1 hall t hm)⟩)
    (by kernel_rfl)
#print axioms proved
end Go.Proofs.YtjflnpcmjibcpaaDoor.fnExactLex
