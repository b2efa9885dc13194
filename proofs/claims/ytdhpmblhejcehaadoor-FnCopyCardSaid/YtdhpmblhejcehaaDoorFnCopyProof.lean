/- The law FnCopy of this commit's code returns true for every input and leaves its arguments as they were: no conditions. -/
/-
  THE SHELL OF A PROOF OF 'Rows.FnCopySaid' ('loop.example/g00395/laws.FnCopy'), WRITTEN BY PROGRAM (proof-skeleton.mjs, third state) off the guide's own print for that function. Not trusted: Lean checks it.
  YOURS IS THE HOLE MARKED 'HOLE' (it bears 'sorry'). ALL ELSE IS THE GUIDE's OWN WAY (howto/template/XProofs.lean; Derived/Test/ChunkProofs.lean for 'Below') at this function's number and types: leave it.
-/
import Derived.Test.YtdhpmblhejcehaaDoorRows
import Derived.Test.YtdhpmblhejcehaaDoorCCpQ
import Derived.Test.YtdhpmblhejcehaaDoorCCpM
import Derived.Test.YtdhpmblhejcehaaDoorHqT
import Derived.Test.YtdhpmblhejcehaaDoorCShJ
import Derived.Test.YtdhpmblhejcehaaDoorShTab
import Derived.Test.YtdhpmblhejcehaaDoorTake
import Derived.Deep.RegionHeld3
import Derived.Test.YtdhpmblhejcehaaDoorCards
import Derived.Test.YtdhpmblhejcehaaDoorTie
import Derived.WalkKit
import Derived.LaidMore
import Derived.Stop.Joined
import Derived.Stop.LaidErr
import Derived.SevenTiedAt
import Derived.ProofKit
import Derived.OpenShut
import Derived.ShutString
import Derived.ChangeOld
import Derived.Below
namespace Go.Proofs.YtdhpmblhejcehaaDoor.fnCopy
open Go.ChangeShapes Go.WideShapes Go.ChangeAt Go.RowKit
open Go.ChangeMaps (open_string shut_string)
set_option linter.unusedVariables false

theorem own : ownKnob Tryd.prog.godebug = none := by kernel_rfl
theorem laidOut : laidOutB Tryd.prog = true := by kernel_rfl

/-- WHAT THE WALK IS TOLD OF A SLICE OF INTEGERS THAT CAME IN: it is nil; or it leads to a row of 'cap' cells, the numbers 'zs' (the first 'len' are its elements, the rest its spare room), each fitting its kind. -/
def IsRow (k : IntKind) (w : World) (a : Option Addr) (len cap : Nat) (zs : List Int) : Prop :=
  (a = none ∧ len = 0 ∧ cap = 0 ∧ zs = []) ∨
  ∃ x, a = some x ∧ len ≤ cap ∧ cap ≤ maxLen ∧ zs.length = cap ∧ (∀ i, i < zs.length → w.cell? (x.add i) = some (.int k (zs.getD i 0))) ∧ ∀ n ∈ zs, (Lit.int k n).wf = true

theorem vars {w : World} (hL : laidMetH Tryd.prog Rows.fnCopyRow.laid w) : TabS w := by
  rw [MakeChecks.laidMetH_plain _ _ _ (by kernel_rfl)] at hL
  exact ⟨tab_of (rest := []) hL⟩
/-! ### STEP 1: THE WALK: the Go text returns true, AND WRITES NOTHING THAT WAS THERE: 'Below w.heap.size w w'' (Derived/Below.lean: '.refl', '.alloc', '.drew', '.setCell' at a new block, '.trans'). Open each 'IsRow' by 'rcases' AHEAD of 'go_enter'; part every test ahead of the walk. -/
set_option maxRecDepth 100000 in
set_option maxHeartbeats 4000000 in
theorem walk (a0 : Option Addr) (len0 cap0 : Nat) (z0 : List Int) (w : World) (w0 : IsRow .u8 w a0 len0 cap0 z0) (hL : laidMetH Tryd.prog Rows.fnCopyRow.laid w) :
    Calls Tryd.prog 3 #[.slice a0 len0 cap0] w fun e w' => e = .returned (.bool true) ∧ Below w.heap.size w w' := by
  have hE := vars hL
  clear hL
  by_cases hb : len0 ≤ 1048576
  · have hB : Bytes w.heap.size w a0 len0 cap0 z0 := bytes_of w0
    go_enter Tryd.func3, Tryd.ntmps3
    go_wp2_with fail
    refine (sDrawCopy _ _ _ _ _ hB).mono ?_
    rintro e w1 ⟨u, v, h, r, rfl, hu, hv, hl11, hl5, h15, r5, hb1⟩
    obtain ⟨ua, uc, rfl, -, -⟩ := hu.form
    obtain ⟨va, vcc, rfl, -, -⟩ := hv.form
    have ZH := Lib.hid (bulk_ce h15 hl11)
    have ZR := Lib.hid (bulk_vl r5 hl5)
    have H15 := Lib.hid h15
    have R5 := Lib.hid r5
    have E1 := hE.below hb1
    clear hB w0 h15 r5 hE
    go_wp2_with fail
    refine (iCopyC h r _ _ _ hu hv ZH.out ZR.out).mono ?_
    rintro e w2 ⟨u2, v2, F, G, rfl, hg, hn, -, -, hb2⟩
    have g2 := hg.reads CeOwn.reads
    have n2 := hn.reads VlOwn.reads
    obtain ⟨ga, gc, rfl, -, -⟩ := g2.form
    obtain ⟨na, nc, rfl, -, -⟩ := n2.form
    have hu2 := hu.kept CeEl.st (Kept.of_below hb2)
    have hv2 := hv.kept VlEl.st (Kept.of_below hb2)
    have B2 := below_tr hb1 hb2
    have E2 := E1.below hb2
    clear hg hn hu hv hb1 hb2 E1
    go_wp2_with fail
    refine (sHeapOkC h r _ _ _ hu2 hv2 ZH.out ZR.out).mono ?_
    rintro e w3 ⟨rfl, hb3⟩
    have hu3 := Lib.hid (hu2.kept CeEl.st (Kept.of_below hb3))
    have hv3 := Lib.hid (hv2.kept VlEl.st (Kept.of_below hb3))
    have g3 := g2.kept CeEl.st (Kept.of_below hb3)
    have n3 := n2.kept VlEl.st (Kept.of_below hb3)
    have B3 := Lib.hid (below_tr B2 hb3)
    have E3 := Lib.hid (E2.below hb3)
    clear hu2 hv2 g2 n2 B2 E2 hb3
    cases hval : heapB h r
    · have e1 : (resCopy h r).1.length = 0 := by simp [resCopy, hval]
      have e2 : (resCopy h r).2.length = 0 := by simp [resCopy, hval]
      have HI := Lib.hid (iHeapOkC h r _ _ _ hu3.out hv3.out ZH.out ZR.out)
      rw [hval] at HI
      clear hval g3 n3
      generalize (resCopy h r).1.length = m1 at *
      generalize (resCopy h r).2.length = m2 at *
      subst e1 e2
      go_wp2_with fail
      refine HI.out.mono ?_
      rintro e w5 ⟨rfl, hb5⟩
      have B5 := Lib.hid (below_tr B3.out hb5)
      clear hb5
      go_wp2
      go_ret
      exact ⟨rfl, B5.out⟩
    · obtain ⟨g, now, hc1, hc2, hgl, hnl, hgok, htw, hsw, hsh, zg, zn, n5⟩ := copy_all hval hl11 hl5 H15.out R5.out
      rw [hc1, hgl] at g3
      rw [hc2, hnl] at n3
      rw [hc1, hc2, hgl, hnl]
      have HR := fun W (k : Kept w3 W) => Lib.hid (iReachC h r _ _ W (hu3.out.kept CeEl.st k) (hv3.out.kept VlEl.st k) ZH.out ZR.out)
      have HOK := fun W (k : Kept w3 W) => iHeapOkC g now _ _ W (g3.kept CeEl.st k) (n3.kept VlEl.st k) zg zn
      rw [hgok] at HOK
      have HOK2 := fun W k => Lib.hid (HOK W k)
      have hrm : (resReach h r).length ≤ 11 := by
        unfold resReach; rw [if_pos hval]; have := placesL_len (rchB h r) h.length; omega
      have HGL := Lib.hid hgl
      have HNL := Lib.hid hnl
      have HTW := Lib.hid htw
      have HSW := Lib.hid hsw
      have HSH := Lib.hid hsh
      have ZG := Lib.hid zg
      have ZN := Lib.hid zn
      have N5 := Lib.hid n5
      have G3 := Lib.hid g3
      have N3 := Lib.hid n3
      clear HOK hgl hnl htw hsw hsh hgok zg zn n5 g3 n3 hc1 hc2 hval
      go_wp2_with fail
      refine (HR w3 (Kept.refl _)).out.mono ?_
      rintro e w4 ⟨x, Fx, rfl, hx, -, -, hb4⟩
      obtain ⟨xb, xc, rfl, -, -⟩ := (hx.reads (Flat.reads IntEl)).form
      have HOK4 := HOK2 w4 (Kept.of_below hb4)
      clear hx HR HOK2
      go_wp2_with fail
      refine HOK4.out.mono ?_
      rintro e w5 ⟨rfl, hb5⟩
      have K5 : Kept w3 w5 := (Kept.of_below hb4).trans (Kept.of_below hb5)
      have hu5 := Lib.hid (hu3.out.kept CeEl.st K5)
      have hv5 := Lib.hid (hv3.out.kept VlEl.st K5)
      have g5 := Lib.hid (G3.out.kept CeEl.st K5)
      have n5 := Lib.hid (N3.out.kept VlEl.st K5)
      have B5 := Lib.hid (below_tr (below_tr B3.out hb4) hb5)
      have E5 := Lib.hid ((E3.out.below hb4).below hb5)
      clear hb4 hb5 K5 HOK4 hu3 hv3 G3 N3 B3 E3
      go_wp2
      go_loopw [65] (fun i wr => ∃ k : Nat, i = .int .i64 k ∧ k ≤ r.length ∧ Below w5.heap.size w5 wr) (fun i _ => r.length - (intOf i).toNat)
      case atStart => exact ⟨0, rfl, Nat.zero_le _, Below.refl _ _⟩
      case round =>
        obtain ⟨k, rfl, hk, hbel⟩ := hrel
        by_cases hlt : k < r.length
        · have hlt2 : k < now.length := by rw [HNL.out]; exact hlt
          have hvr := hv5.out.kept VlEl.st (Kept.of_below hbel)
          have hnr := n5.out.kept VlEl.st (Kept.of_below hbel)
          obtain ⟨rb, ro, rfl, hrb, hrc⟩ := row_get hvr (by omega)
          obtain ⟨nb, no, rfl, hnb, hnc⟩ := row_get hnr (by omega)
          have q := hrc k hlt
          have q2 := hnc k hlt2
          obtain ⟨hs1, hs2⟩ := HSH.out k hlt hlt2
          have hz1 := R5.out _ (List.getElem_mem hlt)
          have hz2 := N5.out _ (List.getElem_mem hlt2)
          obtain ⟨⟨c0, i0⟩, ⟨c1, i1⟩, ⟨c2, i2⟩⟩ := q
          obtain ⟨⟨d0, j0⟩, ⟨d1, j1⟩, ⟨d2, j2⟩⟩ := q2
          have I6 : I64 6 := by unfold I64; omega
          have HS1 := fun W (hW : Below wr.heap.size wr W) => iShowC h r[k] 6 _ W (hu5.out.kept CeEl.st (Kept.of_below (below_tr hbel hW))) ZH.out (by have : bVl r[k] = r[k].s.size := rfl; omega) i0 i1 I6 (E5.out.below (below_tr hbel hW))
          have HS2 := fun W (hW : Below wr.heap.size wr W) => iShowC g now[k] 6 _ W (g5.out.kept CeEl.st (Kept.of_below (below_tr hbel hW))) ZG.out (by have : bVl now[k] = now[k].s.size := rfl; omega) j0 j1 I6 (E5.out.below (below_tr hbel hW))
          rw [hs1] at HS2
          clear hrc hnc hvr hnr hs1 hz1 hz2 HSH
          generalize shRes h r[k] 6 = st at *
          generalize r[k] = y at *
          generalize now[k] = y2 at *
          have hI : ∀ W, Below wr.heap.size wr W → (W.cell? ⟨rb, ro + k * 3, none⟩ = some (.int .i64 y.kind) ∧ W.cell? ⟨rb, ro + k * 3 + 1, none⟩ = some (.int .i64 y.n) ∧ W.cell? ⟨rb, ro + k * 3 + 2, none⟩ = some (.string y.s) ∧ W.cell? ⟨nb, no + k * 3, none⟩ = some (.int .i64 y2.kind) ∧ W.cell? ⟨nb, no + k * 3 + 1, none⟩ = some (.int .i64 y2.n) ∧ W.cell? ⟨nb, no + k * 3 + 2, none⟩ = some (.string y2.s)) := fun W hW =>
            ⟨(hW.cell (p := ⟨rb, _, none⟩) hrb).trans c0, (hW.cell (p := ⟨rb, _, none⟩) hrb).trans c1, (hW.cell (p := ⟨rb, _, none⟩) hrb).trans c2, (hW.cell (p := ⟨nb, _, none⟩) hnb).trans d0, (hW.cell (p := ⟨nb, _, none⟩) hnb).trans d1, (hW.cell (p := ⟨nb, _, none⟩) hnb).trans d2⟩
          clear c0 c1 c2 d0 d1 d2 hrb hnb
          go_wp2_with fail
          refine region_begin (n := 22) (S := (fun W => Below wr.heap.size wr W ∧ (W.cell? ⟨rb, ro + k * 3, none⟩ = some (.int .i64 y.kind) ∧ W.cell? ⟨rb, ro + k * 3 + 1, none⟩ = some (.int .i64 y.n) ∧ W.cell? ⟨rb, ro + k * 3 + 2, none⟩ = some (.string y.s) ∧ W.cell? ⟨nb, no + k * 3, none⟩ = some (.int .i64 y2.kind) ∧ W.cell? ⟨nb, no + k * 3 + 1, none⟩ = some (.int .i64 y2.n) ∧ W.cell? ⟨nb, no + k * 3 + 2, none⟩ = some (.string y2.s)))) (by kernel_rfl) rfl (by kernel_rfl) ⟨(Below.refl _ _).drew, hI _ (Below.refl _ _).drew⟩ (fun hHeld => ?_)
          refine take_next (i := 0) (v := ?_) [] (ts' := [0]) rfl (by kernel_rfl) (by kernel_rfl) (by kernel_rfl) (fun _ _ _ h => h) (.inl ⟨by rfl, ?_⟩) (by assumption) (by kernel_rfl) (d := 68) rfl (by simp only [Act.put, List.setIfInBounds_toArray, List.set_cons_zero, List.set_cons_succ]; rfl) ?_
          rotate_left
          · intro w' hSw
            try dsimp only at hSw
            go_split_ands
            go_simp
            try with_reducible rfl
          refine take_next (i := 1) (v := ?_) [0] (ts' := [0, 1]) rfl (by kernel_rfl) (by kernel_rfl) (by kernel_rfl) (fun _ _ _ h => h) (.inl ⟨by rfl, ?_⟩) (by assumption) (by kernel_rfl) (d := 69) rfl (by simp only [Act.put, List.setIfInBounds_toArray, List.set_cons_zero, List.set_cons_succ]; rfl) ?_
          rotate_left
          · intro w' hSw
            try dsimp only at hSw
            go_split_ands
            go_simp
            try with_reducible rfl
          refine take_next (i := 2) (v := ?_) [0, 1] (ts' := [0, 1, 2]) rfl (by kernel_rfl) (by kernel_rfl) (by kernel_rfl) (fun _ _ _ h => h) (.inl ⟨by rfl, ?_⟩) (by assumption) (by kernel_rfl) (d := 70) rfl (by simp only [Act.put, List.setIfInBounds_toArray, List.set_cons_zero, List.set_cons_succ]; rfl) ?_
          rotate_left
          · intro w' hSw
            try dsimp only at hSw
            go_split_ands
            go_simp
            try with_reducible rfl
          refine take_next (i := 3) (v := ?_) [0, 1, 2] (ts' := [0, 1, 2, 3]) rfl (by kernel_rfl) (by kernel_rfl) (by kernel_rfl) (fun _ _ _ h => h) (.inl ⟨by rfl, ?_⟩) (by assumption) (by kernel_rfl) (d := 71) rfl (by simp only [Act.put, List.setIfInBounds_toArray, List.set_cons_zero, List.set_cons_succ]; rfl) ?_
          rotate_left
          · intro w' hSw
            try dsimp only at hSw
            go_split_ands
            go_simp
            try with_reducible rfl
          refine take_next (i := 4) (v := ?_) [0, 1, 2, 3] (ts' := [0, 1, 2, 3, 4]) rfl (by kernel_rfl) (by kernel_rfl) (by kernel_rfl) (fun _ _ _ h => h) (.inl ⟨by rfl, ?_⟩) (by assumption) (by kernel_rfl) (d := 72) rfl (by simp only [Act.put, List.setIfInBounds_toArray, List.set_cons_zero, List.set_cons_succ]; rfl) ?_
          rotate_left
          · intro w' hSw
            try dsimp only at hSw
            go_split_ands
            go_simp
            try with_reducible rfl
          refine take_next (i := 6) (v := ?_) [0, 1, 2, 3, 4] (ts' := [0, 1, 2, 3, 4, 6]) rfl (by kernel_rfl) (by kernel_rfl) (by kernel_rfl) (fun _ _ _ h => h) (.inl ⟨by rfl, ?_⟩) (by assumption) (by kernel_rfl) (d := 74) rfl (by simp only [Act.put, List.setIfInBounds_toArray, List.set_cons_zero, List.set_cons_succ]; rfl) ?_
          rotate_left
          · intro w' hSw
            try dsimp only at hSw
            go_split_ands
            go_simp
            try with_reducible rfl
          refine take_next (i := 7) (v := ?_) [0, 1, 2, 3, 4, 6] (ts' := [0, 1, 2, 3, 4, 6, 7]) rfl (by kernel_rfl) (by kernel_rfl) (by kernel_rfl) (fun _ _ _ h => h) (.inl ⟨by rfl, ?_⟩) (by assumption) (by kernel_rfl) (d := 75) rfl (by simp only [Act.put, List.setIfInBounds_toArray, List.set_cons_zero, List.set_cons_succ]; rfl) ?_
          rotate_left
          · intro w' hSw
            try dsimp only at hSw
            go_split_ands
            go_simp
            try with_reducible rfl
          refine take_next (i := 8) (v := ?_) [0, 1, 2, 3, 4, 6, 7] (ts' := [0, 1, 2, 3, 4, 6, 7, 8]) rfl (by kernel_rfl) (by kernel_rfl) (by kernel_rfl) (fun _ _ _ h => h) (.inl ⟨by rfl, ?_⟩) (by assumption) (by kernel_rfl) (d := 76) rfl (by simp only [Act.put, List.setIfInBounds_toArray, List.set_cons_zero, List.set_cons_succ]; rfl) ?_
          rotate_left
          · intro w' hSw
            try dsimp only at hSw
            go_split_ands
            go_simp
            try with_reducible rfl
          refine take_next (i := 9) (v := ?_) [0, 1, 2, 3, 4, 6, 7, 8] (ts' := [0, 1, 2, 3, 4, 6, 7, 8, 9]) rfl (by kernel_rfl) (by kernel_rfl) (by kernel_rfl) (fun _ _ _ h => h) (.inl ⟨by rfl, ?_⟩) (by assumption) (by kernel_rfl) (d := 77) rfl (by simp only [Act.put, List.setIfInBounds_toArray, List.set_cons_zero, List.set_cons_succ]; rfl) ?_
          rotate_left
          · intro w' hSw
            try dsimp only at hSw
            go_split_ands
            go_simp
            try with_reducible rfl
          refine take_next (i := 10) (v := ?_) [0, 1, 2, 3, 4, 6, 7, 8, 9] (ts' := [0, 1, 2, 3, 4, 6, 7, 8, 9, 10]) rfl (by kernel_rfl) (by kernel_rfl) (by kernel_rfl) (fun _ _ _ h => h) (.inl ⟨by rfl, ?_⟩) (by assumption) (by kernel_rfl) (d := 78) rfl (by simp only [Act.put, List.setIfInBounds_toArray, List.set_cons_zero, List.set_cons_succ]; rfl) ?_
          rotate_left
          · intro w' hSw
            try dsimp only at hSw
            go_split_ands
            go_simp
            try with_reducible rfl
          refine wpAnyH_ready (rs := [5]) (by kernel_rfl) (by simp) ?_
          refine AllReadyH.cons (o := _) rfl (fun K hK => ?_) AllReadyH.nil
          go_simp
          refine (HS1 _ hHeld.1).mono ?_
          rintro e w5 ⟨rfl, hb5⟩
          dsimp only
          refine hK.out _ _ ⟨below_tr hHeld.1 hb5, hI _ (below_tr hHeld.1 hb5)⟩ (fun hHeld => ?_)
          clear hK K
          refine mask_is (n := 22) [0, 1, 2, 3, 4, 6, 7, 8, 9, 10, 5] (by kernel_rfl) ?_
          refine wpAnyH_ready (rs := [11]) (by kernel_rfl) (by simp) ?_
          refine AllReadyH.cons (o := _) rfl (fun K hK => ?_) AllReadyH.nil
          go_simp
          refine (HS2 _ hHeld.1).mono ?_
          rintro e w11 ⟨rfl, hb11⟩
          dsimp only
          refine hK.out _ _ ⟨below_tr hHeld.1 hb11, hI _ (below_tr hHeld.1 hb11)⟩ (fun hHeld => ?_)
          clear hK K
          refine mask_is (n := 22) [0, 1, 2, 3, 4, 6, 7, 8, 9, 10, 5, 11] (by kernel_rfl) ?_
          refine take_next (i := 12) (v := ?_) [0, 1, 2, 3, 4, 6, 7, 8, 9, 10, 5, 11] (ts' := [0, 1, 2, 3, 4, 6, 7, 8, 9, 10, 5, 11, 12]) rfl (by kernel_rfl) (by kernel_rfl) (by kernel_rfl) (fun _ _ _ h => h) (.inl ⟨by rfl, ?_⟩) (by assumption) (by kernel_rfl) (d := 80) rfl (by simp only [Act.put, List.setIfInBounds_toArray, List.set_cons_zero, List.set_cons_succ]; rfl) ?_
          rotate_left
          · intro w' hSw
            try dsimp only at hSw
            go_split_ands
            go_simp
            try with_reducible rfl
          refine take_next (i := 13) (v := ?_) [0, 1, 2, 3, 4, 6, 7, 8, 9, 10, 5, 11, 12] (ts' := [0, 1, 2, 3, 4, 6, 7, 8, 9, 10, 5, 11, 12, 13]) rfl (by kernel_rfl) (by kernel_rfl) (by kernel_rfl) (fun _ _ _ h => h) (.inl ⟨by rfl, ?_⟩) (by assumption) (by kernel_rfl) (d := 81) rfl (by simp only [Act.put, List.setIfInBounds_toArray, List.set_cons_zero, List.set_cons_succ]; rfl) ?_
          rotate_left
          · intro w' hSw
            try dsimp only at hSw
            go_split_ands
            go_simp
            try with_reducible rfl
          refine take_next (i := 14) (v := ?_) [0, 1, 2, 3, 4, 6, 7, 8, 9, 10, 5, 11, 12, 13] (ts' := [0, 1, 2, 3, 4, 6, 7, 8, 9, 10, 5, 11, 12, 13, 14]) rfl (by kernel_rfl) (by kernel_rfl) (by kernel_rfl) (fun _ _ _ h => h) (.inl ⟨by rfl, ?_⟩) (by assumption) (by kernel_rfl) (d := 82) rfl (by simp only [Act.put, List.setIfInBounds_toArray, List.set_cons_zero, List.set_cons_succ]; rfl) ?_
          rotate_left
          · intro w' hSw
            try dsimp only at hSw
            go_split_ands
            go_simp
            try with_reducible rfl
          refine take_next (i := 15) (v := ?_) [0, 1, 2, 3, 4, 6, 7, 8, 9, 10, 5, 11, 12, 13, 14] (ts' := [0, 1, 2, 3, 4, 6, 7, 8, 9, 10, 5, 11, 12, 13, 14, 15]) rfl (by kernel_rfl) (by kernel_rfl) (by kernel_rfl) (fun _ _ _ h => h) (.inl ⟨by rfl, ?_⟩) (by assumption) (by kernel_rfl) (d := 83) rfl (by simp only [Act.put, List.setIfInBounds_toArray, List.set_cons_zero, List.set_cons_succ]; rfl) ?_
          rotate_left
          · intro w' hSw
            try dsimp only at hSw
            go_split_ands
            go_simp
            try with_reducible rfl
          refine take_next (i := 16) (v := ?_) [0, 1, 2, 3, 4, 6, 7, 8, 9, 10, 5, 11, 12, 13, 14, 15] (ts' := [0, 1, 2, 3, 4, 6, 7, 8, 9, 10, 5, 11, 12, 13, 14, 15, 16]) rfl (by kernel_rfl) (by kernel_rfl) (by kernel_rfl) (fun _ _ _ h => h) (.inl ⟨by rfl, ?_⟩) (by assumption) (by kernel_rfl) (d := 84) rfl (by simp only [Act.put, List.setIfInBounds_toArray, List.set_cons_zero, List.set_cons_succ]; rfl) ?_
          rotate_left
          · intro w' hSw
            try dsimp only at hSw
            go_split_ands
            go_simp
            try with_reducible rfl
          refine take_next (i := 17) (v := ?_) [0, 1, 2, 3, 4, 6, 7, 8, 9, 10, 5, 11, 12, 13, 14, 15, 16] (ts' := [0, 1, 2, 3, 4, 6, 7, 8, 9, 10, 5, 11, 12, 13, 14, 15, 16, 17]) rfl (by kernel_rfl) (by kernel_rfl) (by kernel_rfl) (fun _ _ _ h => h) (.inl ⟨by rfl, ?_⟩) (by assumption) (by kernel_rfl) (d := 85) rfl (by simp only [Act.put, List.setIfInBounds_toArray, List.set_cons_zero, List.set_cons_succ]; rfl) ?_
          rotate_left
          · intro w' hSw
            try dsimp only at hSw
            go_split_ands
            go_simp
            try with_reducible rfl
          refine take_next (i := 18) (v := ?_) [0, 1, 2, 3, 4, 6, 7, 8, 9, 10, 5, 11, 12, 13, 14, 15, 16, 17] (ts' := [0, 1, 2, 3, 4, 6, 7, 8, 9, 10, 5, 11, 12, 13, 14, 15, 16, 17, 18]) rfl (by kernel_rfl) (by kernel_rfl) (by kernel_rfl) (fun _ _ _ h => h) (.inl ⟨by rfl, ?_⟩) (by assumption) (by kernel_rfl) (d := 86) rfl (by simp only [Act.put, List.setIfInBounds_toArray, List.set_cons_zero, List.set_cons_succ]; rfl) ?_
          rotate_left
          · intro w' hSw
            try dsimp only at hSw
            go_split_ands
            go_simp
            try with_reducible rfl
          refine wpAnyH_ready (rs := [19]) (by kernel_rfl) (by simp) ?_
          refine AllReadyH.cons (o := _) rfl (fun K hK => ?_) AllReadyH.nil
          go_simp
          refine (HS1 _ hHeld.1).mono ?_
          rintro e w19 ⟨rfl, hb19⟩
          dsimp only
          refine hK.out _ _ ⟨below_tr hHeld.1 hb19, hI _ (below_tr hHeld.1 hb19)⟩ (fun hHeld => ?_)
          clear hK K
          refine mask_is (n := 22) [0, 1, 2, 3, 4, 6, 7, 8, 9, 10, 5, 11, 12, 13, 14, 15, 16, 17, 18, 19] (by kernel_rfl) ?_
          refine take_next (i := 20) (v := ?_) [0, 1, 2, 3, 4, 6, 7, 8, 9, 10, 5, 11, 12, 13, 14, 15, 16, 17, 18, 19] (ts' := [0, 1, 2, 3, 4, 6, 7, 8, 9, 10, 5, 11, 12, 13, 14, 15, 16, 17, 18, 19, 20]) rfl (by kernel_rfl) (by kernel_rfl) (by kernel_rfl) (fun _ _ _ h => h) (.inl ⟨by rfl, ?_⟩) (by assumption) (by kernel_rfl) (d := 88) rfl (by simp only [Act.put, List.setIfInBounds_toArray, List.set_cons_zero, List.set_cons_succ]; rfl) ?_
          rotate_left
          · intro w' hSw
            try dsimp only at hSw
            go_split_ands
            go_simp
            try with_reducible rfl
          refine take_next (i := 21) (v := ?_) [0, 1, 2, 3, 4, 6, 7, 8, 9, 10, 5, 11, 12, 13, 14, 15, 16, 17, 18, 19, 20] (ts' := [0, 1, 2, 3, 4, 6, 7, 8, 9, 10, 5, 11, 12, 13, 14, 15, 16, 17, 18, 19, 20, 21]) rfl (by kernel_rfl) (by kernel_rfl) (by kernel_rfl) (fun _ _ _ h => h) (.inl ⟨by rfl, ?_⟩) (by assumption) (by kernel_rfl) (d := 89) rfl (by simp only [Act.put, List.setIfInBounds_toArray, List.set_cons_zero, List.set_cons_succ]; rfl) ?_
          rotate_left
          · intro w' hSw
            try dsimp only at hSw
            go_split_ands
            go_simp
            try with_reducible rfl
          refine wpAnyH_done (by kernel_rfl) ?_ _
          try dsimp only at hHeld
          have hH := below_tr hbel hHeld.1
          clear hHeld hI HS1 HS2
          go_wp2
          go_roundw
          case rel => exact ⟨k + 1, by go_num, by omega, hH⟩
          case measure => simp [intOf]; omega
        · obtain rfl : k = r.length := by omega
          clear HSH
          have g6 := g5.out.kept CeEl.st (Kept.of_below hbel)
          have n6 := n5.out.kept VlEl.st (Kept.of_below hbel)
          go_wp2_with fail
          refine (iCopyC g now _ _ _ g6 n6 ZG.out ZN.out).mono ?_
          rintro e w6 ⟨u6, v6, F6, G6, rfl, f6, a6, -, -, hb6⟩
          rw [HTW.out] at f6 a6
          have f7 : RowRd 9 CeEl w6 u6 g := f6.reads CeOwn.reads
          have a7 : RowRd 3 VlEl w6 v6 now := a6.reads VlOwn.reads
          obtain ⟨fa, fc, rfl, -, -⟩ := f7.form
          obtain ⟨aa, ac, rfl, -, -⟩ := a7.form
          rw [HNL.out] at a7
          rw [HGL.out, HNL.out]
          have n7 := Lib.hid (n6.kept VlEl.st (Kept.of_below hb6))
          have g7 := Lib.hid (g6.kept CeEl.st (Kept.of_below hb6))
          have A7 := Lib.hid a7
          have B7 := Lib.hid (below_tr (below_tr B5.out hbel) hb6)
          clear f6 a6 f7 a7 hb6 g6 n6 hbel
          go_wp2
          go_loopw [99] (fun i wr => ∃ k : Nat, i = .int .i64 k ∧ k ≤ r.length ∧ Below w6.heap.size w6 wr) (fun i _ => r.length - (intOf i).toNat)
          case atStart => exact ⟨0, rfl, Nat.zero_le _, Below.refl _ _⟩
          case round =>
            obtain ⟨k, rfl, hk, hbel⟩ := hrel
            by_cases hlt : k < r.length
            · have hlt2 : k < now.length := by rw [HNL.out]; exact hlt
              have har := A7.out.kept VlEl.st (Kept.of_below hbel)
              have hnr := n7.out.kept VlEl.st (Kept.of_below hbel)
              obtain ⟨rb, ro, rfl, hrb, hrc⟩ := row_get har (by omega)
              obtain ⟨nb, no, rfl, hnb, hnc⟩ := row_get hnr (by omega)
              obtain ⟨⟨c0, i0⟩, ⟨c1, i1⟩, ⟨c2, i2⟩⟩ := hrc k hlt2
              obtain ⟨⟨d0, j0⟩, ⟨d1, j1⟩, ⟨d2, j2⟩⟩ := hnc k hlt2
              clear hrc hnc har hnr
              generalize now[k] = y2 at *
              have hI : ∀ W, Below wr.heap.size wr W → (W.cell? ⟨rb, ro + k * 3, none⟩ = some (.int .i64 y2.kind) ∧ W.cell? ⟨rb, ro + k * 3 + 1, none⟩ = some (.int .i64 y2.n) ∧ W.cell? ⟨rb, ro + k * 3 + 2, none⟩ = some (.string y2.s) ∧ W.cell? ⟨nb, no + k * 3, none⟩ = some (.int .i64 y2.kind) ∧ W.cell? ⟨nb, no + k * 3 + 1, none⟩ = some (.int .i64 y2.n) ∧ W.cell? ⟨nb, no + k * 3 + 2, none⟩ = some (.string y2.s)) := fun W hW =>
                ⟨(hW.cell (p := ⟨rb, _, none⟩) hrb).trans c0, (hW.cell (p := ⟨rb, _, none⟩) hrb).trans c1, (hW.cell (p := ⟨rb, _, none⟩) hrb).trans c2, (hW.cell (p := ⟨nb, _, none⟩) hnb).trans d0, (hW.cell (p := ⟨nb, _, none⟩) hnb).trans d1, (hW.cell (p := ⟨nb, _, none⟩) hnb).trans d2⟩
              clear c0 c1 c2 d0 d1 d2 hrb hnb
              go_wp2_with fail
              refine region_begin (n := 9) (S := (fun W => Below wr.heap.size wr W ∧ (W.cell? ⟨rb, ro + k * 3, none⟩ = some (.int .i64 y2.kind) ∧ W.cell? ⟨rb, ro + k * 3 + 1, none⟩ = some (.int .i64 y2.n) ∧ W.cell? ⟨rb, ro + k * 3 + 2, none⟩ = some (.string y2.s) ∧ W.cell? ⟨nb, no + k * 3, none⟩ = some (.int .i64 y2.kind) ∧ W.cell? ⟨nb, no + k * 3 + 1, none⟩ = some (.int .i64 y2.n) ∧ W.cell? ⟨nb, no + k * 3 + 2, none⟩ = some (.string y2.s)))) (by kernel_rfl) rfl (by kernel_rfl) ⟨(Below.refl _ _).drew, hI _ (Below.refl _ _).drew⟩ (fun hHeld => ?_)
              refine take_next (i := 0) (v := ?_) [] (ts' := [0]) rfl (by kernel_rfl) (by kernel_rfl) (by kernel_rfl) (fun _ _ _ h => h) (.inl ⟨by rfl, ?_⟩) (by assumption) (by kernel_rfl) (d := 102) rfl (by simp only [Act.put, List.setIfInBounds_toArray, List.set_cons_zero, List.set_cons_succ]; rfl) ?_
              rotate_left
              · intro w' hSw
                try dsimp only at hSw
                go_split_ands
                go_simp
                try with_reducible rfl
              refine take_next (i := 1) (v := ?_) [0] (ts' := [0, 1]) rfl (by kernel_rfl) (by kernel_rfl) (by kernel_rfl) (fun _ _ _ h => h) (.inl ⟨by rfl, ?_⟩) (by assumption) (by kernel_rfl) (d := 103) rfl (by simp only [Act.put, List.setIfInBounds_toArray, List.set_cons_zero, List.set_cons_succ]; rfl) ?_
              rotate_left
              · intro w' hSw
                try dsimp only at hSw
                go_split_ands
                go_simp
                try with_reducible rfl
              refine take_next (i := 2) (v := ?_) [0, 1] (ts' := [0, 1, 2]) rfl (by kernel_rfl) (by kernel_rfl) (by kernel_rfl) (fun _ _ _ h => h) (.inl ⟨by rfl, ?_⟩) (by assumption) (by kernel_rfl) (d := 104) rfl (by simp only [Act.put, List.setIfInBounds_toArray, List.set_cons_zero, List.set_cons_succ]; rfl) ?_
              rotate_left
              · intro w' hSw
                try dsimp only at hSw
                go_split_ands
                go_simp
                try with_reducible rfl
              refine take_next (i := 3) (v := ?_) [0, 1, 2] (ts' := [0, 1, 2, 3]) rfl (by kernel_rfl) (by kernel_rfl) (by kernel_rfl) (fun _ _ _ h => h) (.inl ⟨by rfl, ?_⟩) (by assumption) (by kernel_rfl) (d := 105) rfl (by simp only [Act.put, List.setIfInBounds_toArray, List.set_cons_zero, List.set_cons_succ]; rfl) ?_
              rotate_left
              · intro w' hSw
                try dsimp only at hSw
                go_split_ands
                go_simp
                try with_reducible rfl
              refine take_next (i := 4) (v := ?_) [0, 1, 2, 3] (ts' := [0, 1, 2, 3, 4]) rfl (by kernel_rfl) (by kernel_rfl) (by kernel_rfl) (fun _ _ _ h => h) (.inl ⟨by rfl, ?_⟩) (by assumption) (by kernel_rfl) (d := 106) rfl (by simp only [Act.put, List.setIfInBounds_toArray, List.set_cons_zero, List.set_cons_succ]; rfl) ?_
              rotate_left
              · intro w' hSw
                try dsimp only at hSw
                go_split_ands
                go_simp
                try with_reducible rfl
              refine take_next (i := 5) (v := ?_) [0, 1, 2, 3, 4] (ts' := [0, 1, 2, 3, 4, 5]) rfl (by kernel_rfl) (by kernel_rfl) (by kernel_rfl) (fun _ _ _ h => h) (.inl ⟨by rfl, ?_⟩) (by assumption) (by kernel_rfl) (d := 107) rfl (by simp only [Act.put, List.setIfInBounds_toArray, List.set_cons_zero, List.set_cons_succ]; rfl) ?_
              rotate_left
              · intro w' hSw
                try dsimp only at hSw
                go_split_ands
                go_simp
                try with_reducible rfl
              refine take_next (i := 6) (v := ?_) [0, 1, 2, 3, 4, 5] (ts' := [0, 1, 2, 3, 4, 5, 6]) rfl (by kernel_rfl) (by kernel_rfl) (by kernel_rfl) (fun _ _ _ h => h) (.inl ⟨by rfl, ?_⟩) (by assumption) (by kernel_rfl) (d := 108) rfl (by simp only [Act.put, List.setIfInBounds_toArray, List.set_cons_zero, List.set_cons_succ]; rfl) ?_
              rotate_left
              · intro w' hSw
                try dsimp only at hSw
                go_split_ands
                go_simp
                try with_reducible rfl
              refine take_next (i := 7) (v := ?_) [0, 1, 2, 3, 4, 5, 6] (ts' := [0, 1, 2, 3, 4, 5, 6, 7]) rfl (by kernel_rfl) (by kernel_rfl) (by kernel_rfl) (fun _ _ _ h => h) (.inl ⟨by rfl, ?_⟩) (by assumption) (by kernel_rfl) (d := 109) rfl (by simp only [Act.put, List.setIfInBounds_toArray, List.set_cons_zero, List.set_cons_succ]; rfl) ?_
              rotate_left
              · intro w' hSw
                try dsimp only at hSw
                go_split_ands
                go_simp
                try with_reducible rfl
              refine take_next (i := 8) (v := ?_) [0, 1, 2, 3, 4, 5, 6, 7] (ts' := [0, 1, 2, 3, 4, 5, 6, 7, 8]) rfl (by kernel_rfl) (by kernel_rfl) (by kernel_rfl) (fun _ _ _ h => h) (.inl ⟨by rfl, ?_⟩) (by assumption) (by kernel_rfl) (d := 110) rfl (by simp only [Act.put, List.setIfInBounds_toArray, List.set_cons_zero, List.set_cons_succ]; rfl) ?_
              rotate_left
              · intro w' hSw
                try dsimp only at hSw
                go_split_ands
                go_simp
                try with_reducible rfl
              refine wpAnyH_done (by kernel_rfl) ?_ _
              try dsimp only at hHeld
              have hH := below_tr hbel hHeld.1
              clear hHeld hI
              go_wp2
              go_roundw
              case rel => exact ⟨k + 1, by go_num, by omega, hH⟩
              case measure => simp [intOf]; omega
            · obtain rfl : k = r.length := by omega
              have HSW2 := iSweepC g now _ _ wr (g7.out.kept CeEl.st (Kept.of_below hbel)) (n7.out.kept VlEl.st (Kept.of_below hbel)) ZG.out ZN.out
              rw [HSW.out] at HSW2
              have HS3 := Lib.hid HSW2
              have B8 := Lib.hid (below_tr B7.out hbel)
              clear HSW2 hbel
              go_wp2_with fail
              refine HS3.out.mono ?_
              rintro e w9 ⟨z, Fz, rfl, hz, -, -, hb9⟩
              obtain ⟨zb, zc, rfl, -, -⟩ := (hz.reads (Flat.reads IntEl)).form
              have B9 := Lib.hid (below_tr B8.out hb9)
              clear hz hb9
              go_wp2
              go_ret
              exact ⟨rfl, B9.out⟩
  · have hm : len0 ≤ 9223372036854775807 := (bytes_of w0).len_le
    go_enter Tryd.func3, Tryd.ntmps3
    go_wp2
    go_ret
    exact ⟨rfl, Below.refl _ _⟩

/-! ### THE ROW's STEP: WRITTEN OUT: LEAVE IT -/
theorem door_met (os : Os) (args : Array Value) : laidMetH Tryd.prog Rows.fnCopyRow.laid ((World.doorLaid Tryd.prog 400 os).forCall (fun _ _ => 0) ⟨#[], args, []⟩).memory :=
  laidMetH_of_parts3 (fuel := 8) (laidMet_of_run' 8 (by kernel_rfl) (by kernel_rfl)) (by kernel_rfl) (by kernel_rfl)
set_option maxRecDepth 100000 in
theorem lifted (os : Os) (started : os.Started) (H : Type) (enc : TypeId × Value → H) :
    ReturnsInHanded {} Tryd.checked os 3 .any (fun w args => (Rows.fnCopySpec.pre enc Tryd.prog Tryd.f3 [] false w args ∧ laidMetH Tryd.prog Rows.fnCopyRow.laid w) ∧ sizedMet enc Tryd.prog Tryd.f3 (OpenSpec.ofChange Rows.fnCopySpec) false w args)
      (Rows.fnCopySpec.post enc Tryd.prog Tryd.f3 false true false false) := by
  refine returnsInHanded_of_change_and (C := Tryd.checked) (X := fun w _ => laidMetH Tryd.prog Rows.fnCopyRow.laid w) (fun _ _ _ hh h => h.of_heap hh) own started (by kernel_rfl) Tryd.func3
    (ChangeSpec.witness_shaped (enc := enc) (C := Tryd.checked) (os := os) (X := fun w _ => laidMetH Tryd.prog Rows.fnCopyRow.laid w) false (World.doorLaid Tryd.prog 400 os) #[.slice none 0 0] 8 rfl (World.shaped_of_RefB (by kernel_rfl) (by kernel_rfl)) (by kernel_rfl) (by kernel_rfl) (by kernel_rfl) (door_met os _)) ?_
  intro W base args ds gs before hval0 hW _ _ hL _
  have hval : ∀ (j : Nat) t v, Tryd.f3.params[j]? = some t → args[j]? = some v → Value.okWide Tryd.prog W .any base t v := hval0
  have hW' := hW
  obtain ⟨p, q, hA0, hV, rfl, hfz, hnd⟩ := hW
  have hA : DataW.TrodAll enc Tryd.prog W 0 (fun _ => true) true Tryd.f3.params.toList args.toList ds p := hA0
  rw [Tryd.params3] at hA hval
  obtain ⟨v0, vs0, d0, ds0, p0, q0, hargs, rfl, rfl, h0, r0⟩ := trodAll_cons hA
  obtain ⟨rfl, rfl, rfl⟩ := trodAll_nil r0
  obtain rfl : args = #[v0] := by cases args; simp_all
  obtain ⟨rfl, rfl⟩ := trodVars_none hV
  obtain ⟨a0, len0, cap0, rfl⟩ := okWide_slice Tryd.underlying22 (hval 0 22 v0 rfl rfl)
  have k0 := h0
  have lt0 : ∀ x ∈ p0, x.block < W.heap.size := by obtain ⟨m, hm⟩ := k0; exact DataW.trod_lt m _ _ _ hm
  obtain ⟨z0, w0⟩ : ∃ zs, IsRow .u8 W a0 len0 cap0 zs := by
    obtain ⟨fuel, hf⟩ := h0
    rcases open_ints Tryd.underlying22 Tryd.underlying5 (by kernel_rfl) hf with ⟨hcs, _⟩ | ⟨x, l, c, zs, hcs, _, hl, hm, hz, _, hcell, hwz⟩
    · simp [Value.cells] at hcs
      obtain ⟨rfl, rfl, rfl⟩ := hcs
      exact ⟨[], .inl ⟨rfl, rfl, rfl, rfl⟩⟩
    · simp [Value.cells] at hcs
      obtain ⟨rfl, rfl, rfl⟩ := hcs
      exact ⟨zs, .inr ⟨_, rfl, hl, hm, by simpa using hz, hcell, hwz⟩⟩
  clear hA0 hval0
  refine (walk a0 len0 cap0 z0 W w0 hL).mono fun e W' ⟨he, bel⟩ => ?_
  subst he
  exact ⟨_, rfl, _, _, _, [], _, [], hW', trodAll_mk1 (shut_bool Tryd.underlying4 _), (trodAll_cons_mk (Below.trod laidOut (by kernel_rfl) (of_decide_eq_true (by kernel_rfl)) k0 bel lt0) trodAll_mk0), rfl, bel.frame _, fun h => by cases h⟩

theorem over : Rows.fnCopyRow.holds Tryd.pinned (OpenSpec.ofChange Rows.fnCopySpec) :=
  OpenClaim.holds_of_wide 3 Tryd.f3 rfl rfl rfl rfl rfl rfl rfl ⟨rfl, rfl, rfl, rfl, rfl⟩ rfl rfl rfl rfl rfl (by kernel_rfl) Tryd.func3 (by kernel_rfl)
    (of_decide_eq_true (by kernel_rfl)) (by unfold Func.isWrapper; first | (rw [if_pos (by decide +kernel)]; kernel_rfl) | (rw [if_neg (by decide +kernel)]; exact ⟨rfl, rfl⟩))
    (fun os started H enc _ => lifted os started H enc)

theorem proved : Rows.FnCopyCardSaid :=
  Claim7.holds_tied_plain_at .later [] [.data, .data, .data] true (true, "f3bccd5bc21860951ec28201d953c65fcd9eec64fd88db1b6a50d3a4aa6069d3") false
    over (fun _ h => by cases h) (by kernel_rfl) (fun _ h => by cases h) fnCopy_row_tie rfl ⟨rfl, rfl⟩ (by kernel_rfl) rfl
    (fun f fn hf hfn => by
      obtain rfl : f = 3 := Option.some.inj ((show Tryd.prog.funcNamed "loop.example/g00395/laws.FnCopy" = some 3 by kernel_rfl).symm.trans hf) |>.symm
      obtain rfl : fn = Tryd.f3 := (Option.some.inj (Tryd.func3.symm.trans hfn)).symm
      exact ⟨by kernel_rfl, fun j t ht => by
        rw [Tryd.params3] at ht
        have hm : t ∈ [22] := by simpa using Array.mem_of_getElem? ht
        have hall : ([22].all fun u => !Tryd.prog.wantsStandIn u) = true := by kernel_rfl
        exact (show Tryd.prog.wantsStandIn t = false by simpa using List.all_eq_true.1 hall t hm)⟩)
    (by kernel_rfl)
#print axioms proved
end Go.Proofs.YtdhpmblhejcehaaDoor.fnCopy
