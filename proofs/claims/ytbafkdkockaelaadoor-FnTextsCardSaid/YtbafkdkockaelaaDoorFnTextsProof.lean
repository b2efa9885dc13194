/- The law FnTexts of this commit's code returns true for every input and leaves its arguments as they were: no conditions. -/
/-
  THE SHELL OF A PROOF OF 'Rows.FnTextsSaid' ('loop.example/g00395/laws.FnTexts'), WRITTEN BY PROGRAM (proof-skeleton.mjs, third state) off the guide's own print for that function. Not trusted: Lean checks it.
  YOURS IS THE HOLE MARKED 'HOLE' (it bears 'sorry'). ALL ELSE IS THE GUIDE's OWN WAY (howto/template/XProofs.lean; Derived/Test/ChunkProofs.lean for 'Below') at this function's number and types: leave it.
-/
import Derived.Test.YtbafkdkockaelaaDoorRows
import Derived.Test.YtbafkdkockaelaaDoorDrawText
import Derived.Test.YtbafkdkockaelaaDoorUnquoteI
import Derived.Test.YtbafkdkockaelaaDoorVars
import Derived.Test.YtbafkdkockaelaaDoorCards
import Derived.Test.YtbafkdkockaelaaDoorTie
import Derived.WalkKit
import Derived.LaidMore
import Derived.Stop.Joined
import Derived.Stop.LaidErr
import Derived.SevenTiedAt
import Derived.ProofKit
import Derived.OpenShut
import Derived.ShutString
import Derived.ChangeOld
import Derived.Below
namespace Go.Proofs.YtbafkdkockaelaaDoor.fnTexts
open Go.ChangeShapes Go.WideShapes Go.ChangeAt Go.RowKit
open Go.ChangeMaps (open_string shut_string)
set_option linter.unusedVariables false

theorem own : ownKnob Tryd.prog.godebug = none := by kernel_rfl
theorem laidOut : laidOutB Tryd.prog = true := by kernel_rfl

/-- WHAT THE WALK IS TOLD OF A SLICE OF INTEGERS THAT CAME IN: it is nil; or it leads to a row of 'cap' cells, the numbers 'zs' (the first 'len' are its elements, the rest its spare room), each fitting its kind. -/
def IsRow (k : IntKind) (w : World) (a : Option Addr) (len cap : Nat) (zs : List Int) : Prop :=
  (a = none ∧ len = 0 ∧ cap = 0 ∧ zs = []) ∨
  ∃ x, a = some x ∧ len ≤ cap ∧ cap ≤ maxLen ∧ zs.length = cap ∧ (∀ i, i < zs.length → w.cell? (x.add i) = some (.int k (zs.getD i 0))) ∧ ∀ n ∈ zs, (Lit.int k n).wf = true

theorem vars {w : World} (hL : laidMetH Tryd.prog Rows.fnTextsRow.laid w) : Vars w := by
  rw [MakeChecks.laidMetH_plain _ _ _ (by kernel_rfl)] at hL
  exact vars_of hL
theorem itoa_ne (v : Int) : Lib.itoa v ≠ [] := by
  unfold Lib.itoa
  split
  · simp
  · exact digits_ne _
theorem itoa_len (v : Int) (h : -4611686018427387904 ≤ v ∧ v ≤ 4611686018427387903) : (Lib.itoa v).length ≤ 21 := Lib.itoa_length_le v (by omega) (by omega)
theorem quote_len (l : List UInt8) (h : l.length ≤ 12) : (quoteL l).length ≤ 50 := by
  have := flat_length l
  unfold quoteL
  simp only [List.length_cons, List.length_append, List.length_nil]; omega
/-! ### STEP 1: THE WALK: the Go text returns true, AND WRITES NOTHING THAT WAS THERE: 'Below w.heap.size w w'' (Derived/Below.lean: '.refl', '.alloc', '.drew', '.setCell' at a new block, '.trans'). Open each 'IsRow' by 'rcases' AHEAD of 'go_enter'; part every test ahead of the walk. -/
theorem walk (a0 : Option Addr) (len0 cap0 : Nat) (z0 : List Int) (w : World) (w0 : IsRow .u8 w a0 len0 cap0 z0) (hL : laidMetH Tryd.prog Rows.fnTextsRow.laid w) :
    Calls Tryd.prog 3 #[.slice a0 len0 cap0] w fun e w' => e = .returned (.bool true) ∧ Below w.heap.size w w' := by
  have hV := vars hL
  clear hL
  by_cases hb : len0 ≤ 1048576
  · have hB : Bytes w.heap.size w a0 len0 cap0 z0 := bytes_of w0
    go_enter Tryd.func3, Tryd.ntmps3
    go_wp2_with fail
    refine (DrawNumText _ _ _ _ _ hB).mono ?_
    rintro e w1 ⟨n, hn, rfl, hM⟩
    have hB1 := hB.keep hM hM.size
    go_wp2_with fail
    refine (DrawQuote _ _ _ _ _ hB1).mono ?_
    rintro e w2 ⟨s, hs, rfl, hM2⟩
    have hM3 := hM.trans (hM2.mono hM.size)
    have hV2 := hV.below hM3
    clear hB hB1 w0
    go_wp2_with fail
    refine (iNumText _ _ hn hV2.tab).mono ?_
    rintro e w3 ⟨rfl, hM4⟩
    have hV3 := hV2.below hM4
    have hM5 := hM3.trans (hM4.mono hM3.size)
    have hsl : s.data.toList.length ≤ 12 := hs
    have hql := quote_len _ hsl
    have HU := fun W (hV : Vars W) => iUnquote_yes ⟨(quoteL s.data.toList).toArray⟩ s.data.toList W (by show (quoteL s.data.toList).toArray.size ≤ _; simp; omega) hV rfl
    have hbk : (s.data.toList == s.toList) = true := by rw [eq_list]; simp
    by_cases hw : W n = n
    · have hr := W_range n
      rw [hw] at hr
      have hil := itoa_len n hr
      have hnl : numL n = Lib.itoa n := by rw [numL, if_pos hw]
      have hne : (numL n == []) = false := by rw [hnl]; simpa using itoa_ne n
      have hemp : (numL n).isEmpty = false := by rw [hnl]; simpa using itoa_ne n
      have t1 : (W n == n) = true := by simpa using hw
      have HT := fun W (hV : Vars W) => iTextNum_yes ⟨(numL n).toArray⟩ n W (by show (numL n).toArray.size ≤ _; rw [hnl]; simp; omega) hV ⟨hw, by rw [← hnl]⟩
      have HTH := Lib.hid HT
      have HUH := Lib.hid HU
      clear HT HU hnl hw hsl hql
      go_wp2_with (go_at_call 10; refine (sWrap _ _).mono ?_; rintro e w' ⟨rfl, rfl⟩)
      refine (HTH.out w3 hV3).mono ?_
      rintro e w4 ⟨rfl, hM6⟩
      have hV4 := hV3.below hM6
      have hM7 := hM5.trans (hM6.mono hM5.size)
      go_wp2_with fail
      refine (iQuote s w4 (by omega)).mono ?_
      rintro e w5 ⟨rfl, hM8⟩
      have hV5 := hV4.below hM8
      have hM9 := hM7.trans (hM8.mono hM7.size)
      go_wp2_with fail
      refine (HUH.out w5 hV5).mono ?_
      rintro e w6 ⟨rfl, hM10⟩
      go_wp2
      go_ret
      exact ⟨rfl, hM9.trans (hM10.mono hM9.size)⟩
    · have hnl : numL n = [] := by rw [numL, if_neg hw]
      have hne : (numL n == []) = true := by rw [hnl]; rfl
      have t1 : (W n == n) = false := by simpa using hw
      have HT := fun W (hV : Vars W) => iTextNum_no ⟨(numL n).toArray⟩ W (by show (numL n).toArray.size ≤ _; rw [hnl]; simp) hV (fun v h => itoa_ne v (by rw [h.2, hnl]))
      have HTH := Lib.hid HT
      have HUH := Lib.hid HU
      have HNL := Lib.hid hnl
      clear HT HU hnl hw hsl hql
      go_wp2_with (go_at_call 10; refine (sWrap _ _).mono ?_; rintro e w' ⟨rfl, rfl⟩)
      refine (HTH.out w3 hV3).mono ?_
      rintro e w4 ⟨rfl, hM6⟩
      have hV4 := hV3.below hM6
      have hM7 := hM5.trans (hM6.mono hM5.size)
      go_wp2_with fail
      refine (iQuote s w4 (by omega)).mono ?_
      rintro e w5 ⟨rfl, hM8⟩
      have hV5 := hV4.below hM8
      have hM9 := hM7.trans (hM8.mono hM7.size)
      go_wp2_with fail
      refine (HUH.out w5 hV5).mono ?_
      rintro e w6 ⟨rfl, hM10⟩
      go_wp2
      go_ret
      exact ⟨rfl, hM9.trans (hM10.mono hM9.size)⟩
  · have hm : len0 ≤ 9223372036854775807 := (bytes_of w0).len_le
    go_enter Tryd.func3, Tryd.ntmps3
    go_wp2
    go_ret
    exact ⟨rfl, Below.refl _ _⟩

/-! ### THE ROW's STEP: WRITTEN OUT: LEAVE IT -/
theorem door_met (os : Os) (args : Array Value) : laidMetH Tryd.prog Rows.fnTextsRow.laid ((World.doorLaid Tryd.prog 400 os).forCall (fun _ _ => 0) ⟨#[], args, []⟩).memory :=
  laidMetH_of_parts3 (fuel := 8) (laidMet_of_run' 8 (by kernel_rfl) (by kernel_rfl)) (by kernel_rfl) (by kernel_rfl)
set_option maxRecDepth 100000 in
theorem lifted (os : Os) (started : os.Started) (H : Type) (enc : TypeId × Value → H) :
    ReturnsInHanded {} Tryd.checked os 3 .any (fun w args => (Rows.fnTextsSpec.pre enc Tryd.prog Tryd.f3 [] false w args ∧ laidMetH Tryd.prog Rows.fnTextsRow.laid w) ∧ sizedMet enc Tryd.prog Tryd.f3 (OpenSpec.ofChange Rows.fnTextsSpec) false w args)
      (Rows.fnTextsSpec.post enc Tryd.prog Tryd.f3 false true false false) := by
  refine returnsInHanded_of_change_and (C := Tryd.checked) (X := fun w _ => laidMetH Tryd.prog Rows.fnTextsRow.laid w) (fun _ _ _ hh h => h.of_heap hh) own started (by kernel_rfl) Tryd.func3
    (ChangeSpec.witness_shaped (enc := enc) (C := Tryd.checked) (os := os) (X := fun w _ => laidMetH Tryd.prog Rows.fnTextsRow.laid w) false (World.doorLaid Tryd.prog 400 os) #[.slice none 0 0] 8 rfl (World.shaped_of_RefB (by kernel_rfl) (by kernel_rfl)) (by kernel_rfl) (by kernel_rfl) (by kernel_rfl) (door_met os _)) ?_
  intro W base args ds gs before hval0 hW _ _ hL _
  have hval : ∀ (j : Nat) t v, Tryd.f3.params[j]? = some t → args[j]? = some v → Value.okWide Tryd.prog W .any base t v := hval0
  have hW' := hW
  obtain ⟨p, q, hA0, hV, rfl, hfz, hnd⟩ := hW
  have hA : DataW.TrodAll enc Tryd.prog W 0 (fun _ => true) true Tryd.f3.params.toList args.toList ds p := hA0
  rw [Tryd.params3] at hA hval
  obtain ⟨v0, vs0, d0, ds0, p0, q0, hargs, rfl, rfl, h0, r0⟩ := trodAll_cons hA
  obtain ⟨rfl, rfl, rfl⟩ := trodAll_nil r0
  obtain rfl : args = #[v0] := by cases args; simp_all
  obtain ⟨rfl, rfl⟩ := trodVars_none hV
  obtain ⟨a0, len0, cap0, rfl⟩ := okWide_slice Tryd.underlying22 (hval 0 22 v0 rfl rfl)
  have k0 := h0
  have lt0 : ∀ x ∈ p0, x.block < W.heap.size := by obtain ⟨m, hm⟩ := k0; exact DataW.trod_lt m _ _ _ hm
  obtain ⟨z0, w0⟩ : ∃ zs, IsRow .u8 W a0 len0 cap0 zs := by
    obtain ⟨fuel, hf⟩ := h0
    rcases open_ints Tryd.underlying22 Tryd.underlying5 (by kernel_rfl) hf with ⟨hcs, _⟩ | ⟨x, l, c, zs, hcs, _, hl, hm, hz, _, hcell, hwz⟩
    · simp [Value.cells] at hcs
      obtain ⟨rfl, rfl, rfl⟩ := hcs
      exact ⟨[], .inl ⟨rfl, rfl, rfl, rfl⟩⟩
    · simp [Value.cells] at hcs
      obtain ⟨rfl, rfl, rfl⟩ := hcs
      exact ⟨zs, .inr ⟨_, rfl, hl, hm, by simpa using hz, hcell, hwz⟩⟩
  clear hA0 hval0
  refine (walk a0 len0 cap0 z0 W w0 hL).mono fun e W' ⟨he, bel⟩ => ?_
  subst he
  exact ⟨_, rfl, _, _, _, [], _, [], hW', trodAll_mk1 (shut_bool Tryd.underlying4 _), (trodAll_cons_mk (Below.trod laidOut (by kernel_rfl) (of_decide_eq_true (by kernel_rfl)) k0 bel lt0) trodAll_mk0), rfl, bel.frame _, fun h => by cases h⟩

theorem over : Rows.fnTextsRow.holds Tryd.pinned (OpenSpec.ofChange Rows.fnTextsSpec) :=
  OpenClaim.holds_of_wide 3 Tryd.f3 rfl rfl rfl rfl rfl rfl rfl ⟨rfl, rfl, rfl, rfl, rfl⟩ rfl rfl rfl rfl rfl (by kernel_rfl) Tryd.func3 (by kernel_rfl)
    (of_decide_eq_true (by kernel_rfl)) (by unfold Func.isWrapper; first | (rw [if_pos (by decide +kernel)]; kernel_rfl) | (rw [if_neg (by decide +kernel)]; exact ⟨rfl, rfl⟩))
    (fun os started H enc _ => lifted os started H enc)

theorem proved : Rows.FnTextsCardSaid :=
  Claim7.holds_tied_plain_at .later [] [.data, .data, .data, .sentinel, .sentinel] true (true, "ce0723f97c5d00119891c9ae36a446bcaf21dbfa7fcad0add5409b122d938917") true
    over (fun _ h => by cases h) (by kernel_rfl) (fun _ h => by cases h) fnTexts_row_tie rfl ⟨rfl, rfl⟩ (by kernel_rfl) rfl
    (fun f fn hf hfn => by
      obtain rfl : f = 3 := Option.some.inj ((show Tryd.prog.funcNamed "loop.example/g00395/laws.FnTexts" = some 3 by kernel_rfl).symm.trans hf) |>.symm
      obtain rfl : fn = Tryd.f3 := (Option.some.inj (Tryd.func3.symm.trans hfn)).symm
      exact ⟨by kernel_rfl, fun j t ht => by
        rw [Tryd.params3] at ht
        have hm : t ∈ [22] := by simpa using Array.mem_of_getElem? ht
        have hall : ([22].all fun u => !Tryd.prog.wantsStandIn u) = true := by kernel_rfl
        exact (show Tryd.prog.wantsStandIn t = false by simpa using List.all_eq_true.1 hall t hm)⟩)
    (by kernel_rfl)
#print axioms proved
end Go.Proofs.YtbafkdkockaelaaDoor.fnTexts
