/- The law FnExactSubsOk of this commit's code returns true for every input and leaves its arguments as they were: no conditions. -/
/-
  THE SHELL OF A PROOF OF 'Rows.FnExactSubsOkSaid' ('loop.example/g00395/laws.FnExactSubsOk'), for parameters of whatever type.
-/
import Derived.Test.YtdedkjpbdpmjlaaRows
import Derived.Test.YtdedkjpbdpmjlaaArgs
import Derived.Test.YtdedkjpbdpmjlaaSz
import Derived.Test.YtdedkjpbdpmjlaaTo
import Derived.Test.YtdedkjpbdpmjlaaEq
import Derived.Test.YtdedkjpbdpmjlaaSb
import Derived.Test.YtdedkjpbdpmjlaaSbI
import Derived.WalkKit
import Derived.ProofKit
import Derived.OpenShut
import Derived.ShutString
import Derived.ChangeOld
import Derived.Below
namespace Go.Proofs.Ytdedkjpbdpmjlaa.fnExactSubsOk
open Go.ChangeShapes Go.WideShapes Go.ChangeAt Go.RowKit
open Go.ChangeMaps (open_string shut_string)
set_option linter.unusedVariables false

theorem own : ownKnob Try.prog.godebug = none := by kernel_rfl
theorem laidOut : laidOutB Try.prog = true := by kernel_rfl

/-! ### STEP 1: THE WALK -/
set_option maxHeartbeats 1000000 in
set_option maxRecDepth 100000 in
theorem walk (v0 : Value) (w : World) (w0 : ArgIn Try.prog 38 w v0) :
    Calls Try.prog 5 #[v0] w fun e w' => e = .returned (.bool true) ∧ Below w.heap.size w w' := by
  obtain ⟨x, r0⟩ := open_SubS w0
  have s0 := r0
  obtain ⟨a0, ca0, a_e0, -, -⟩ := r0.form
  subst a_e0
  go_enter Try.func5, Try.ntmps5
  go_wp2_with fail
  refine (szSubS x _ 1048576 _ (by omega) s0).mono ?_
  rintro e w1 ⟨hb1, ⟨rfl, _⟩ | ⟨q, rfl, hq⟩⟩
  · go_wp2
    go_ret
    exact ⟨rfl, hb1⟩
  have hzb : bulkL bSb x ≤ 1048576 := by omega
  have hlen : x.length ≤ 1048576 := Nat.le_trans (bulkL_len _ _) hzb
  clear hq
  go_wp2_with fail
  refine (toSubS x _ _ (s0.kept SbEl.st (Kept.of_below hb1)) hlen hzb).mono ?_
  rintro e w2 ⟨up, Fp, rfl, rop, -, -, hb2⟩
  have tp := rop.reads SbOwn.reads
  obtain ⟨ap, cp, e_p, -, -⟩ := tp.form
  subst e_p
  have B2 := below_tr hb1 hb2
  go_wp2_with fail
  refine (sSubsOkC x _ _ tp hzb).mono ?_
  rintro e w3 ⟨rfl, hb3⟩
  have B3 := below_tr B2 hb3
  clear tp rop hb2 hb3
  go_wp2_with fail
  refine (toSubS x _ _ (s0.kept SbEl.st (Kept.of_below B3)) hlen hzb).mono ?_
  rintro e w4 ⟨uq, Fq, rfl, roq, -, -, hb4⟩
  have tq := roq.reads SbOwn.reads
  obtain ⟨aq, cq, e_q, -, -⟩ := tq.form
  subst e_q
  have B4 := below_tr B3 hb4
  go_wp2_with fail
  refine (iSubsOkC x _ _ tq hzb).mono ?_
  rintro e w5 ⟨rfl, hb5⟩
  have B5 := below_tr B4 hb5
  go_wp2_with fail
  refine (toSubS x _ _ (s0.kept SbEl.st (Kept.of_below B5)) hlen hzb).mono ?_
  rintro e w6 ⟨uz, Fz, rfl, roz, -, -, hb6⟩
  have tz := roz.reads SbOwn.reads
  obtain ⟨az, cz, e_z, -, -⟩ := tz.form
  subst e_z
  have B6 := below_tr B5 hb6
  go_wp2_with fail
  refine (eqSubS x _ _ _ (tq.kept SbEl.st (Kept.of_below (below_tr hb5 hb6))) tz).mono ?_
  rintro e w7 ⟨rfl, hb7⟩
  go_wp2
  go_ret
  exact ⟨rfl, below_tr B6 hb7⟩

/-! ### THE ROW's STEP: WRITTEN OUT: LEAVE IT -/
set_option maxRecDepth 100000 in
theorem lifted (os : Os) (started : os.Started) (H : Type) (enc : TypeId × Value → H) :
    ReturnsInHanded {} Try.checked os 5 .any (Rows.fnExactSubsOkSpec.pre6 enc Try.prog Try.f5 Rows.fnExactSubsOkRow.domain false) (Rows.fnExactSubsOkSpec.post enc Try.prog Try.f5 false true false false) := by
  refine returnsInHanded_of_change (C := Try.checked) own started (by kernel_rfl) Try.func5
    (ChangeSpec.witness6 (enc := enc) (C := Try.checked) false ⟨#[], #[.slice none 0 0], []⟩ 8 (by kernel_rfl) (by kernel_rfl) (by kernel_rfl) (by kernel_rfl)) ?_
  intro W base args ds gs before hval0 hW hcnd _
  have hval : ∀ (j : Nat) t v, Try.f5.params[j]? = some t → args[j]? = some v → Value.okWide Try.prog W .any base t v := hval0
  have hW' := hW
  obtain ⟨p, q, hA0, hV, rfl, hfz, hnd⟩ := hW
  have hA : DataW.TrodAll enc Try.prog W 0 (fun _ => true) true Try.f5.params.toList args.toList ds p := hA0
  rw [Try.params5] at hA hval
  obtain ⟨v0, vs0, d0, ds0, p0, q0, hargs, rfl, rfl, h0, r0⟩ := trodAll_cons hA
  obtain ⟨rfl, rfl, rfl⟩ := trodAll_nil r0
  obtain rfl : args = #[v0] := by cases args; simp_all
  obtain ⟨rfl, rfl⟩ := trodVars_none hV
  have lt0 : ∀ x ∈ p0, x.block < W.heap.size := by have k0 := h0; obtain ⟨m, hm⟩ := k0; exact DataW.trod_lt m _ _ _ hm
  clear hA0 hval0
  refine (walk v0 W ⟨H, enc, base, d0, p0, hval 0 38 v0 rfl rfl, h0⟩).mono fun e W' ⟨he, bel⟩ => ?_
  subst he
  exact ⟨_, rfl, _, _, _, [], _, [], hW', trodAll_mk1 (shut_bool Try.underlying4 _), (trodAll_cons_mk (Below.trod laidOut (by kernel_rfl) (of_decide_eq_true (by kernel_rfl)) h0 bel lt0) trodAll_mk0), rfl, bel.frame _, fun h => by cases h⟩

theorem over : Rows.fnExactSubsOkRow.holds Try.pinned (OpenSpec.ofChange Rows.fnExactSubsOkSpec) :=
  OpenClaim.holds_of_wide 5 Try.f5 rfl rfl rfl rfl rfl rfl rfl ⟨rfl, rfl, rfl, rfl, rfl⟩ rfl rfl rfl rfl rfl (by kernel_rfl) Try.func5 (by kernel_rfl)
    (of_decide_eq_true (by kernel_rfl)) (by unfold Func.isWrapper; first | (rw [if_pos (by decide +kernel)]; kernel_rfl) | (rw [if_neg (by decide +kernel)]; exact ⟨rfl, rfl⟩))
    (fun os started H enc _ => lifted os started H enc)

/-- ████ THE STATEMENT ████ -/
theorem proved : Rows.FnExactSubsOkSaid := over
#print axioms proved
end Go.Proofs.Ytdedkjpbdpmjlaa.fnExactSubsOk
