/- The law FnSweep of this commit's code returns true for every input and leaves its arguments as they were: no conditions. -/
/-
  THE SHELL OF A PROOF OF 'Rows.FnSweepSaid' ('loop.example/g00395/laws.FnSweep'), WRITTEN BY PROGRAM (proof-skeleton.mjs, third state) off the guide's own print for that function. Not trusted: Lean checks it.
  YOURS IS THE HOLE MARKED 'HOLE' (it bears 'sorry'). ALL ELSE IS THE GUIDE's OWN WAY (howto/template/XProofs.lean; Derived/Test/ChunkProofs.lean for 'Below') at this function's number and types: leave it.
-/
import Derived.Test.YtdhpmblhejcehaaRows
import Derived.Test.YtdhpmblhejcehaaHpP
import Derived.WalkKit
import Derived.ProofKit
import Derived.OpenShut
import Derived.ShutString
import Derived.ChangeOld
import Derived.Below
namespace Go.Proofs.Ytdhpmblhejcehaa.fnSweep
open Go.ChangeShapes Go.WideShapes Go.ChangeAt Go.RowKit
open Go.ChangeMaps (open_string shut_string)
set_option linter.unusedVariables false

theorem own : ownKnob Try.prog.godebug = none := by kernel_rfl
theorem laidOut : laidOutB Try.prog = true := by kernel_rfl

/-- WHAT THE WALK IS TOLD OF A SLICE OF INTEGERS THAT CAME IN: it is nil; or it leads to a row of 'cap' cells, the numbers 'zs' (the first 'len' are its elements, the rest its spare room), each fitting its kind. -/
def IsRow (k : IntKind) (w : World) (a : Option Addr) (len cap : Nat) (zs : List Int) : Prop :=
  (a = none ∧ len = 0 ∧ cap = 0 ∧ zs = []) ∨
  ∃ x, a = some x ∧ len ≤ cap ∧ cap ≤ maxLen ∧ zs.length = cap ∧ (∀ i, i < zs.length → w.cell? (x.add i) = some (.int k (zs.getD i 0))) ∧ ∀ n ∈ zs, (Lit.int k n).wf = true

/-! ### STEP 1: THE WALK: the Go text returns true, AND WRITES NOTHING THAT WAS THERE: 'Below w.heap.size w w'' (Derived/Below.lean: '.refl', '.alloc', '.drew', '.setCell' at a new block, '.trans'). Open each 'IsRow' by 'rcases' AHEAD of 'go_enter'; part every test ahead of the walk. -/
set_option maxRecDepth 100000 in
set_option maxHeartbeats 4000000 in
theorem walk (a0 : Option Addr) (len0 cap0 : Nat) (z0 : List Int) (w : World) (w0 : IsRow .u8 w a0 len0 cap0 z0) :
    Calls Try.prog 3 #[.slice a0 len0 cap0] w fun e w' => e = .returned (.bool true) ∧ Below w.heap.size w w' := by
  by_cases hb : len0 ≤ 1048576
  · have hB : Bytes w.heap.size w a0 len0 cap0 z0 := bytes_of w0
    go_enter Try.func3, Try.ntmps3
    go_wp2_with fail
    refine (sDrawSweep _ _ _ _ _ hB).mono ?_
    rintro e w1 ⟨u, v, h, r, rfl, hu, hv, zh, zr, hb1⟩
    obtain ⟨ua, uc, rfl, hm1, -⟩ := hu.form
    obtain ⟨va, vcc, rfl, hm2, -⟩ := hv.form
    unfold maxLen at hm1 hm2
    clear hB
    go_wp2_with fail
    refine (iReachC h r _ _ _ hu hv zh zr).mono ?_
    rintro e w2 ⟨x, Fx, rfl, hx, -, -, hb2⟩
    have xa := hx.reads (Flat.reads IntEl)
    obtain ⟨xb, xc, rfl, hm3, -⟩ := xa.form
    have hu2 := hu.kept CeEl.st (Kept.of_below hb2)
    have hv2 := hv.kept VlEl.st (Kept.of_below hb2)
    have B2 := below_tr hb1 hb2
    clear hx hu hv hb1 hb2
    go_wp2_with fail
    refine (iSweepC h r _ _ _ hu2 hv2 zh zr).mono ?_
    rintro e w3 ⟨y, Fy, rfl, hy, -, -, hb3⟩
    have ya := hy.reads (Flat.reads IntEl)
    obtain ⟨yb, yc, rfl, hm4, -⟩ := ya.form
    have hu3 := hu2.kept CeEl.st (Kept.of_below hb3)
    have hv3 := hv2.kept VlEl.st (Kept.of_below hb3)
    have xa3 := xa.kept IntEl.st (Kept.of_below hb3)
    have B3 := below_tr B2 hb3
    clear hy hu2 hv2 hb3 B2 xa
    go_wp2_with fail
    refine (sHeapOkC h r _ _ _ hu3 hv3 zh zr).mono ?_
    rintro e w4 ⟨rfl, hb4⟩
    have hu4 := Lib.hid (hu3.kept CeEl.st (Kept.of_below hb4))
    have hv4 := Lib.hid (hv3.kept VlEl.st (Kept.of_below hb4))
    have xa4 := Lib.hid (xa3.kept IntEl.st (Kept.of_below hb4))
    have ya4 := Lib.hid (ya.kept IntEl.st (Kept.of_below hb4))
    have B4 := Lib.hid (below_tr B3 hb4)
    have ZH := Lib.hid zh
    have ZR := Lib.hid zr
    clear hu3 hv3 xa3 ya B3 hb4 zh zr
    unfold maxLen at hm3 hm4
    cases hval : heapB h r
    · have e1 : (resReach h r).length = 0 := by simp [resReach, hval]
      have e2 : (resSweep h r).length = 0 := by simp [resSweep, hval]
      have HI := Lib.hid (iHeapOkC h r _ _ _ hu4.out hv4.out ZH.out ZR.out)
      rw [hval] at HI
      clear hval
      generalize (resReach h r).length = m1 at *
      generalize (resSweep h r).length = m2 at *
      subst e1 e2
      go_wp2_with fail
      refine HI.out.mono ?_
      rintro e w5 ⟨rfl, hb5⟩
      have B5 := Lib.hid (below_tr B4.out hb5)
      clear hb5
      go_wp2
      go_ret
      exact ⟨rfl, B5.out⟩
    · have e1 : resReach h r = placesL (rchB h r) h.length := by simp [resReach, hval]
      have e2 : resSweep h r = placesL (fun i => !rchB h r i) h.length := by simp [resSweep, hval]
      have HS := fun W (k : Kept w4 W) => Lib.hid (sReachC h r _ _ W (hu4.out.kept CeEl.st k) (hv4.out.kept VlEl.st k) ZH.out ZR.out)
      have h2 := placesL_two (rchB h r) h.length
      rw [← e1, ← e2] at h2
      have hp1 : ∀ i, i < h.length → decide ((i : Int) ∈ resReach h r) = rchB h r i := fun i hi => by rw [e1]; exact placesL_has _ hi
      have hp2 : ∀ i, i < h.length → decide ((i : Int) ∈ resSweep h r) = !rchB h r i := fun i hi => by rw [e2]; exact placesL_has (fun i => !rchB h r i) hi
      have HP1 := Lib.hid hp1
      have HP2 := Lib.hid hp2
      clear e1 e2 hp1 hp2 hval
      generalize hm5 : h.length = n at *
      generalize hm6 : (resReach h r).length = m1 at *
      generalize hm7 : (resSweep h r).length = m2 at *
      have HM6 := Lib.hid hm6
      clear hm5 hm6 hm7
      go_wp2
      go_loop [42] (fun i => ∃ k : Nat, i = .int .i64 k ∧ k ≤ n) (fun i => n - (intOf i).toNat)
      case atStart => exact ⟨0, rfl, Nat.zero_le _⟩
      case round =>
        obtain ⟨k, rfl, hk⟩ := hrel
        by_cases hlt : k < n
        · have q1 := HP1.out k hlt
          have q2 := HP2.out k hlt
          have C1 := lHasInt _ (k : Int) _ _ xa4.out
          have C2 := lHasInt _ (k : Int) _ _ ya4.out
          rw [q1] at C1
          rw [q2] at C2
          have D1 := Lib.hid C1
          have D2 := Lib.hid C2
          clear HS HP1 HP2 q1 q2 C1 C2
          generalize rchB h r k = fk at *
          cases fk
          all_goals (
            simp only [Bool.not_false, Bool.not_true] at D1 D2
            go_wp2_with (first | (go_at_call 13; (with_reducible (refine Calls.mono D1.out ?_)); rintro e w' ⟨rfl, rfl⟩) | (go_at_call 13; (with_reducible (refine Calls.mono D2.out ?_)); rintro e w' ⟨rfl, rfl⟩))
            go_round
            case rel => exact ⟨k + 1, by go_num, by omega⟩
            case measure => simp [intOf]; omega)
        · obtain rfl : k = n := by omega
          go_wp2_with fail
          refine (HS _ (Kept.refl _)).out.mono ?_
          rintro e w5 ⟨z, Fz, rfl, hz, -, -, hb5⟩
          have za := hz.reads (Flat.reads IntEl)
          obtain ⟨zb, zc, rfl, hm8, -⟩ := za.form
          unfold maxLen at hm8
          rw [HM6.out] at hm8 ⊢
          have B5 := Lib.hid (below_tr B4.out hb5)
          clear hb5 hz za
          go_wp2
          go_ret
          exact ⟨rfl, B5.out⟩
  · have hm : len0 ≤ 9223372036854775807 := (bytes_of w0).len_le
    go_enter Try.func3, Try.ntmps3
    go_wp2
    go_ret
    exact ⟨rfl, Below.refl _ _⟩

/-! ### THE ROW's STEP: WRITTEN OUT: LEAVE IT -/
set_option maxRecDepth 100000 in
theorem lifted (os : Os) (started : os.Started) (H : Type) (enc : TypeId × Value → H) :
    ReturnsInHanded {} Try.checked os 3 .any (Rows.fnSweepSpec.pre6 enc Try.prog Try.f3 Rows.fnSweepRow.domain false) (Rows.fnSweepSpec.post enc Try.prog Try.f3 false true false false) := by
  refine returnsInHanded_of_change (C := Try.checked) own started (by kernel_rfl) Try.func3
    (ChangeSpec.witness6 (enc := enc) (C := Try.checked) false ⟨#[], #[.slice none 0 0], []⟩ 8 (by kernel_rfl) (by kernel_rfl) (by kernel_rfl) (by kernel_rfl)) ?_
  intro W base args ds gs before hval0 hW hcnd _
  have hval : ∀ (j : Nat) t v, Try.f3.params[j]? = some t → args[j]? = some v → Value.okWide Try.prog W .any base t v := hval0
  have hW' := hW
  obtain ⟨p, q, hA0, hV, rfl, hfz, hnd⟩ := hW
  have hA : DataW.TrodAll enc Try.prog W 0 (fun _ => true) true Try.f3.params.toList args.toList ds p := hA0
  rw [Try.params3] at hA hval
  obtain ⟨v0, vs0, d0, ds0, p0, q0, hargs, rfl, rfl, h0, r0⟩ := trodAll_cons hA
  obtain ⟨rfl, rfl, rfl⟩ := trodAll_nil r0
  obtain rfl : args = #[v0] := by cases args; simp_all
  obtain ⟨rfl, rfl⟩ := trodVars_none hV
  obtain ⟨a0, len0, cap0, rfl⟩ := okWide_slice Try.underlying22 (hval 0 22 v0 rfl rfl)
  have k0 := h0
  have lt0 : ∀ x ∈ p0, x.block < W.heap.size := by obtain ⟨m, hm⟩ := k0; exact DataW.trod_lt m _ _ _ hm
  obtain ⟨z0, w0⟩ : ∃ zs, IsRow .u8 W a0 len0 cap0 zs := by
    obtain ⟨fuel, hf⟩ := h0
    rcases open_ints Try.underlying22 Try.underlying5 (by kernel_rfl) hf with ⟨hcs, _⟩ | ⟨x, l, c, zs, hcs, _, hl, hm, hz, _, hcell, hwz⟩
    · simp [Value.cells] at hcs
      obtain ⟨rfl, rfl, rfl⟩ := hcs
      exact ⟨[], .inl ⟨rfl, rfl, rfl, rfl⟩⟩
    · simp [Value.cells] at hcs
      obtain ⟨rfl, rfl, rfl⟩ := hcs
      exact ⟨zs, .inr ⟨_, rfl, hl, hm, by simpa using hz, hcell, hwz⟩⟩
  clear hA0 hval0
  refine (walk a0 len0 cap0 z0 W w0).mono fun e W' ⟨he, bel⟩ => ?_
  subst he
  exact ⟨_, rfl, _, _, _, [], _, [], hW', trodAll_mk1 (shut_bool Try.underlying4 _), (trodAll_cons_mk (Below.trod laidOut (by kernel_rfl) (of_decide_eq_true (by kernel_rfl)) k0 bel lt0) trodAll_mk0), rfl, bel.frame _, fun h => by cases h⟩

theorem over : Rows.fnSweepRow.holds Try.pinned (OpenSpec.ofChange Rows.fnSweepSpec) :=
  OpenClaim.holds_of_wide 3 Try.f3 rfl rfl rfl rfl rfl rfl rfl ⟨rfl, rfl, rfl, rfl, rfl⟩ rfl rfl rfl rfl rfl (by kernel_rfl) Try.func3 (by kernel_rfl)
    (of_decide_eq_true (by kernel_rfl)) (by unfold Func.isWrapper; first | (rw [if_pos (by decide +kernel)]; kernel_rfl) | (rw [if_neg (by decide +kernel)]; exact ⟨rfl, rfl⟩))
    (fun os started H enc _ => lifted os started H enc)

/-- ████ THE STATEMENT ████ -/
theorem proved : Rows.FnSweepSaid := over
#print axioms proved
end Go.Proofs.Ytdhpmblhejcehaa.fnSweep
