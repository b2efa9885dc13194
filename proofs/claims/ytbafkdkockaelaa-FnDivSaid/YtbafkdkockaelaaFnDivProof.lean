/- The law FnDiv of this commit's code returns true for every input and leaves its arguments as they were: no conditions. -/
/-
  THE SHELL OF A PROOF OF 'Rows.FnDivSaid' ('loop.example/g00395/laws.FnDiv'), WRITTEN BY PROGRAM (proof-skeleton.mjs, third state) off the guide's own print for that function. Not trusted: Lean checks it.
  YOURS IS THE HOLE MARKED 'HOLE' (it bears 'sorry'). ALL ELSE IS THE GUIDE's OWN WAY (howto/template/XProofs.lean; Derived/Test/ChunkProofs.lean for 'Below') at this function's number and types: leave it.
-/
import Derived.Test.YtbafkdkockaelaaRows
import Derived.Test.YtbafkdkockaelaaNum
import Derived.Test.YtbafkdkockaelaaRaw
import Derived.WalkKit
import Derived.ProofKit
import Derived.OpenShut
import Derived.ShutString
import Derived.ChangeOld
import Derived.Below
namespace Go.Proofs.Ytbafkdkockaelaa.fnDiv
open Go.ChangeShapes Go.WideShapes Go.ChangeAt Go.RowKit
open Go.ChangeMaps (open_string shut_string)
set_option linter.unusedVariables false

theorem own : ownKnob Try.prog.godebug = none := by kernel_rfl
theorem laidOut : laidOutB Try.prog = true := by kernel_rfl

/-- WHAT THE WALK IS TOLD OF A SLICE OF INTEGERS THAT CAME IN: it is nil; or it leads to a row of 'cap' cells, the numbers 'zs' (the first 'len' are its elements, the rest its spare room), each fitting its kind. -/
def IsRow (k : IntKind) (w : World) (a : Option Addr) (len cap : Nat) (zs : List Int) : Prop :=
  (a = none ∧ len = 0 ∧ cap = 0 ∧ zs = []) ∨
  ∃ x, a = some x ∧ len ≤ cap ∧ cap ≤ maxLen ∧ zs.length = cap ∧ (∀ i, i < zs.length → w.cell? (x.add i) = some (.int k (zs.getD i 0))) ∧ ∀ n ∈ zs, (Lit.int k n).wf = true

theorem size_of (n : Int) (w : World) (h : -4611686018427387904 ≤ n ∧ n ≤ 4611686018427387903) :
    Calls Try.prog 24 #[.int .i64 n] w fun e w' => e = .returned (.int .i64 (n.natAbs : Int)) ∧ w = w' := by
  by_cases hn : n < 0
  · go_enter Try.func24, Try.ntmps24
    go_wp2
    go_ret
    exact ⟨ret_int (by omega), rfl⟩
  · go_enter Try.func24, Try.ntmps24
    go_wp2
    go_ret
    exact ⟨ret_int (by omega), rfl⟩
theorem div_back (x y : Int) : W (W (Dv x y * y) + Rm x y) = W x := by
  rw [W_add_l]
  have h1 : W (Dv x y * y + Rm x y) = W (W (Dv x y * y) + Rm x y) := (W_add_l _ _).symm
  have h2 : W (Dv x y * y) = W ((W x).tdiv (W y) * W y) := by
    unfold Dv; rw [W_mul_l, Int.mul_comm _ y, Int.mul_comm _ (W y), W_mul_l]
  rw [h1, h2, W_add_l]
  unfold Rm
  rw [Int.mul_comm, Int.mul_tdiv_add_tmod, W_W]
theorem rm_bd (x y : Int) (h : W y ≠ 0) : (Rm x y).natAbs < (W y).natAbs := by
  unfold Rm; rw [Int.natAbs_tmod]; exact Nat.mod_lt _ (by omega)
/-! ### STEP 1: THE WALK: the Go text returns true, AND WRITES NOTHING THAT WAS THERE: 'Below w.heap.size w w'' (Derived/Below.lean: '.refl', '.alloc', '.drew', '.setCell' at a new block, '.trans'). Open each 'IsRow' by 'rcases' AHEAD of 'go_enter'; part every test ahead of the walk. -/
theorem walk (a0 : Option Addr) (len0 cap0 : Nat) (z0 : List Int) (w : World) (w0 : IsRow .u8 w a0 len0 cap0 z0) :
    Calls Try.prog 4 #[.slice a0 len0 cap0] w fun e w' => e = .returned (.bool true) ∧ Below w.heap.size w w' := by
  by_cases hb : len0 ≤ 1048576
  · have hB : Bytes w.heap.size w a0 len0 cap0 z0 := bytes_of w0
    by_cases hz0 : True
    · go_enter Try.func4, Try.ntmps4
      go_wp2_with fail
      refine (DrawDivW _ _ _ _ _ hB).mono ?_
      rintro e w1 ⟨x, y, hx, hy, rfl, hM⟩
      have hwy := W_range y
      by_cases hz : W y = 0
      · have hZ := Lib.hid hz
        have t1 : (W y != 0) = false := by simp [hz]
        clear hz
        go_wp2_with (first | (go_at_call 20; refine (sWrap _ _).mono ?_; rintro e w' ⟨rfl, rfl⟩) | (go_at_call 22; refine (iDivW_no _ _ _ hZ.out).mono ?_; rintro e w' ⟨rfl, rfl⟩) | (go_at_call 23; refine (iRemW_no _ _ _ hZ.out).mono ?_; rintro e w' ⟨rfl, rfl⟩))
        go_ret
        exact ⟨rfl, hM⟩
      · have hZ := Lib.hid hz
        have t1 : (W y != 0) = true := by simp [hz]
        have hr := rm_bd x y hz
        have t2 : (W (W (Dv x y * y) + Rm x y) == W x) = true := by simp [div_back]
        clear hz
        obtain ⟨r, hrr⟩ : ∃ r, r = Rm x y := ⟨_, rfl⟩
        by_cases hn : Rm x y < 0
        · have t3 : ¬ (Rm x y ≤ -((W y).natAbs : Int)) := by omega
          go_wp2_with (first | (go_at_call 20; refine (sWrap _ _).mono ?_; rintro e w' ⟨rfl, rfl⟩) | (go_at_call 24; refine (size_of _ _ hwy).mono ?_; rintro e w' ⟨rfl, rfl⟩) | (go_at_call 22; refine (iDivW_yes _ _ _ hZ.out).mono ?_; rintro e w' ⟨rfl, rfl⟩) | (go_at_call 23; refine (iRemW_yes _ _ _ hZ.out).mono ?_; rintro e w' ⟨rfl, rfl⟩) | (go_at_call 17; refine (iAddW _ _ _).mono ?_; rintro e w' ⟨rfl, rfl⟩) | (go_at_call 18; refine (iMulW _ _ _).mono ?_; rintro e w' ⟨rfl, rfl⟩))
          go_ret
          exact ⟨rfl, hM⟩
        · by_cases hp : 0 < Rm x y
          · have t3 : ¬ ((W y).natAbs : Int) ≤ Rm x y := by omega
            go_wp2_with (first | (go_at_call 20; refine (sWrap _ _).mono ?_; rintro e w' ⟨rfl, rfl⟩) | (go_at_call 24; refine (size_of _ _ hwy).mono ?_; rintro e w' ⟨rfl, rfl⟩) | (go_at_call 22; refine (iDivW_yes _ _ _ hZ.out).mono ?_; rintro e w' ⟨rfl, rfl⟩) | (go_at_call 23; refine (iRemW_yes _ _ _ hZ.out).mono ?_; rintro e w' ⟨rfl, rfl⟩) | (go_at_call 17; refine (iAddW _ _ _).mono ?_; rintro e w' ⟨rfl, rfl⟩) | (go_at_call 18; refine (iMulW _ _ _).mono ?_; rintro e w' ⟨rfl, rfl⟩))
            go_ret
            exact ⟨rfl, hM⟩
          · go_wp2_with (first | (go_at_call 20; refine (sWrap _ _).mono ?_; rintro e w' ⟨rfl, rfl⟩) | (go_at_call 24; refine (size_of _ _ hwy).mono ?_; rintro e w' ⟨rfl, rfl⟩) | (go_at_call 22; refine (iDivW_yes _ _ _ hZ.out).mono ?_; rintro e w' ⟨rfl, rfl⟩) | (go_at_call 23; refine (iRemW_yes _ _ _ hZ.out).mono ?_; rintro e w' ⟨rfl, rfl⟩) | (go_at_call 17; refine (iAddW _ _ _).mono ?_; rintro e w' ⟨rfl, rfl⟩) | (go_at_call 18; refine (iMulW _ _ _).mono ?_; rintro e w' ⟨rfl, rfl⟩))
            go_ret
            exact ⟨rfl, hM⟩
    · exact absurd trivial hz0
  · have hm : len0 ≤ 9223372036854775807 := (bytes_of w0).len_le
    go_enter Try.func4, Try.ntmps4
    go_wp2
    go_ret
    exact ⟨rfl, Below.refl _ _⟩

/-! ### THE ROW's STEP: WRITTEN OUT: LEAVE IT -/
set_option maxRecDepth 100000 in
theorem lifted (os : Os) (started : os.Started) (H : Type) (enc : TypeId × Value → H) :
    ReturnsInHanded {} Try.checked os 4 .any (Rows.fnDivSpec.pre6 enc Try.prog Try.f4 Rows.fnDivRow.domain false) (Rows.fnDivSpec.post enc Try.prog Try.f4 false true false false) := by
  refine returnsInHanded_of_change (C := Try.checked) own started (by kernel_rfl) Try.func4
    (ChangeSpec.witness6 (enc := enc) (C := Try.checked) false ⟨#[], #[.slice none 0 0], []⟩ 8 (by kernel_rfl) (by kernel_rfl) (by kernel_rfl) (by kernel_rfl)) ?_
  intro W base args ds gs before hval0 hW hcnd _
  have hval : ∀ (j : Nat) t v, Try.f4.params[j]? = some t → args[j]? = some v → Value.okWide Try.prog W .any base t v := hval0
  have hW' := hW
  obtain ⟨p, q, hA0, hV, rfl, hfz, hnd⟩ := hW
  have hA : DataW.TrodAll enc Try.prog W 0 (fun _ => true) true Try.f4.params.toList args.toList ds p := hA0
  rw [Try.params4] at hA hval
  obtain ⟨v0, vs0, d0, ds0, p0, q0, hargs, rfl, rfl, h0, r0⟩ := trodAll_cons hA
  obtain ⟨rfl, rfl, rfl⟩ := trodAll_nil r0
  obtain rfl : args = #[v0] := by cases args; simp_all
  obtain ⟨rfl, rfl⟩ := trodVars_none hV
  obtain ⟨a0, len0, cap0, rfl⟩ := okWide_slice Try.underlying22 (hval 0 22 v0 rfl rfl)
  have k0 := h0
  have lt0 : ∀ x ∈ p0, x.block < W.heap.size := by obtain ⟨m, hm⟩ := k0; exact DataW.trod_lt m _ _ _ hm
  obtain ⟨z0, w0⟩ : ∃ zs, IsRow .u8 W a0 len0 cap0 zs := by
    obtain ⟨fuel, hf⟩ := h0
    rcases open_ints Try.underlying22 Try.underlying5 (by kernel_rfl) hf with ⟨hcs, _⟩ | ⟨x, l, c, zs, hcs, _, hl, hm, hz, _, hcell, hwz⟩
    · simp [Value.cells] at hcs
      obtain ⟨rfl, rfl, rfl⟩ := hcs
      exact ⟨[], .inl ⟨rfl, rfl, rfl, rfl⟩⟩
    · simp [Value.cells] at hcs
      obtain ⟨rfl, rfl, rfl⟩ := hcs
      exact ⟨zs, .inr ⟨_, rfl, hl, hm, by simpa using hz, hcell, hwz⟩⟩
  clear hA0 hval0
  refine (walk a0 len0 cap0 z0 W w0).mono fun e W' ⟨he, bel⟩ => ?_
  subst he
  exact ⟨_, rfl, _, _, _, [], _, [], hW', trodAll_mk1 (shut_bool Try.underlying4 _), (trodAll_cons_mk (Below.trod laidOut (by kernel_rfl) (of_decide_eq_true (by kernel_rfl)) k0 bel lt0) trodAll_mk0), rfl, bel.frame _, fun h => by cases h⟩

theorem over : Rows.fnDivRow.holds Try.pinned (OpenSpec.ofChange Rows.fnDivSpec) :=
  OpenClaim.holds_of_wide 4 Try.f4 rfl rfl rfl rfl rfl rfl rfl ⟨rfl, rfl, rfl, rfl, rfl⟩ rfl rfl rfl rfl rfl (by kernel_rfl) Try.func4 (by kernel_rfl)
    (of_decide_eq_true (by kernel_rfl)) (by unfold Func.isWrapper; first | (rw [if_pos (by decide +kernel)]; kernel_rfl) | (rw [if_neg (by decide +kernel)]; exact ⟨rfl, rfl⟩))
    (fun os started H enc _ => lifted os started H enc)

/-- ████ THE STATEMENT ████ -/
theorem proved : Rows.FnDivSaid := over
#print axioms proved
end Go.Proofs.Ytbafkdkockaelaa.fnDiv
