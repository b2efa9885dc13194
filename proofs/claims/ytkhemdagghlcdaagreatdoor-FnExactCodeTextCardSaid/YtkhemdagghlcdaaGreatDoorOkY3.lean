/- The program's check of patterns: names that occur twice, the whole. -/
import Derived.Test.YtkhemdagghlcdaaGreatDoorPrePN
import Derived.Test.YtkhemdagghlcdaaGreatDoorOkY2
import Derived.Test.YtkhemdagghlcdaaGreatDoorTake
namespace Go.Proofs.YtkhemdagghlcdaaGreatDoor
set_option linter.unusedVariables false
set_option maxRecDepth 100000
open Go.ChangeShapes Go.WideShapes Go.ChangeAt Go.RowKit Go.Maps Go.WideMaps

set_option maxHeartbeats 4000000 in
theorem iTwice (q : List PN) (v : Value) (w : World) (hR : RowRd 4 PNEl w v q) :
    Calls Tryz.prog 69 #[.agg #[v]] w fun e w' => e = .returned (.bool (propB (TwiceP q))) ∧ Below w.heap.size w w' := by
  obtain ⟨p, cap, rfl, hm, hRf⟩ := hR.form
  unfold maxLen at hm
  have hmm := @run_makeMap Tryz.prog
  have hbm := fun O => below_tr (Joins.below_alloc1 w O) (Joins.below_alloc1 _ (.map #[] 0))
  go_enter Tryz.func69, Tryz.ntmps69
  go_wp2
  go_loopw [10] (fun i wr => ∃ (k : Nat) (D : DataW Unit), i = .int .i64 k ∧ k ≤ q.length ∧ wr.ownsMap Tryz.prog 9 (plainElem Tryz.prog 4) (w.heap.size + 1) k D ∧ namesD q k D ∧ onceP q k ∧ Below w.heap.size w wr) (fun i _ => q.length - (intOf i).toNat)
  case atStart =>
    refine ⟨0, .map [], rfl, Nat.zero_le _, ?_, names_zero q, fun i j hi hj h => absurd h (by omega), hbm _⟩
    have := World.ownsMap_made (H := Unit) (w.alloc (.cells #[.slice p q.length cap] 59)) Tryz.prog 9 (plainElem Tryz.prog 4)
    simpa using this
  case round =>
    obtain ⟨k, D, rfl, hk, hown, hnm, honce, hbel⟩ := hrel
    have HNm := Lib.hid hnm
    have HO := Lib.hid honce
    clear hnm honce hmm hbm
    by_cases hlt : k < q.length
    · obtain ⟨b, o, rfl, hbw, hc⟩ := hRf (by omega)
      have ex := PNEl.st w wr b _ _ (Kept.of_below hbel) hbw (hc k hlt)
      have HSk := Lib.hid (fun h2 => names_skip HNm.out hlt h2)
      have HPut := Lib.hid (fun h2 => names_put HNm.out hown.isMap hlt h2)
      have HSt := Lib.hid (once_step q k hlt HO.out)
      have HTw := Lib.hid (twice_yes q k hlt)
      clear hc hRf hR
      generalize q[k] = x at *
      obtain ⟨⟨e0, i0⟩, ⟨e1, i1⟩, ⟨e2, i2⟩, ⟨v3, e3, r3⟩⟩ := ex
      obtain ⟨p3, c3, rfl, m3, -⟩ := r3.form
      have hb1 := below_tr hbel (Joins.below_alloc1 wr (.cells #[.int .i64 x.kind, .int .i64 x.n, .string x.s, .slice p3 x.kids.length c3] 85))
      have hown0 := hown.alloc (.cells #[.int .i64 x.kind, .int .i64 x.n, .string x.s, .slice p3 x.kids.length c3] 85)
      by_cases h2 : x.kind = 2
      · have h2' : (x.kind != 2) = false := by simpa using h2
        obtain ⟨c, hrun, hat⟩ := look_bool hown0 (string_keyed Tryz.underlying9) Tryz.underlying116 Tryz.underlying4 (zero_bool _) (key_str i2)
        have hcs : c = seenB (q.take k) x.s := by
          have := HNm.out x.s
          rw [hat] at this
          simpa using this
        have HC := Lib.hid hcs
        have H2 := Lib.hid h2
        clear hcs hat h2
        cases c
        · go_wp2_with (at_mapUpdate; refine wpList_mapUpdate_own _ rfl _ _ _ 116 rfl 9 4 (string_keyed Tryz.underlying9) Tryz.underlying116 (plainElem (H := Unit) Tryz.prog 4) (w.heap.size + 1) k _ rfl hown0 (by unfold maxLen; omega) _ _ _ rfl rfl (key_str i2) _ [] (plainElem_bool Tryz.underlying4 true) ?_; intro w1 hown1 hgrow1)
          go_roundw
          case rel => exact ⟨k + 1, _, by go_num, by omega, hown1, HPut.out H2.out, HSt.out (by rintro ⟨_, h⟩; rw [← HC.out] at h; cases h), hb1.grown hgrow1 hb1.size (fun j hj => by cases hj; omega)⟩
          case measure => simp [intOf]; omega
        · go_wp2
          go_ret
          exact ⟨ret_bool (propB_t (HTw.out H2.out HC.out.symm)).symm, hb1⟩
      · have h2' : (x.kind != 2) = true := by simpa using h2
        have H2 := Lib.hid h2
        clear h2
        go_wp2
        go_roundw
        case rel => exact ⟨k + 1, D, by go_num, by omega, hown0.mono (by omega), HSk.out H2.out, HSt.out (fun h => H2.out h.1), hb1⟩
        case measure => simp [intOf]; omega
    · obtain rfl : k = q.length := by omega
      go_wp2
      go_ret
      exact ⟨ret_bool (propB_f (once_end q HO.out)).symm, hbel⟩
set_option maxHeartbeats 4000000 in
theorem iRightPair (q : List PN) (vq : Value) (x : PN) (v3 : Value) (w : World) (hR : RowRd 4 PNEl w vq q) (r3 : RowRd 1 IntEl w v3 x.kids) (i2 : x.s.size ≤ maxLen) (hcons : isConsB x = true → x.kids.length = 1) (hk : ∀ k ∈ x.kids, 0 ≤ k ∧ k < (q.length : Int)) :
    Calls Tryz.prog 65 #[vq, .agg #[.int .i64 x.kind, .int .i64 x.n, .string x.s, v3]] w fun e w' => e = .returned (.bool (!isConsB x || decide (firstPK q x.kids = 5))) ∧ Below w.heap.size w w' := by
  have hC := fun W => iConsPat x.kind x.n x.s v3 W i2
  have e2 : (decide (x.kind = 4) && decide (x.s.toList = [58, 58])) = isConsB x := rfl
  rw [e2] at hC
  obtain ⟨p3, c3, rfl, hm3, hkf⟩ := r3.form
  unfold maxLen at hm3
  obtain ⟨O, hO⟩ : ∃ O, O = Obj.cells #[.int .i64 x.kind, .int .i64 x.n, .string x.s, .slice p3 x.kids.length c3] 85 := ⟨_, rfl⟩
  have kO : Kept w (w.alloc O) := Kept.alloc _ _
  have z0 : w.heap.size < (w.alloc O).heap.size := by simp
  have d0 : (w.alloc O).cell? ⟨w.heap.size, 0, none⟩ = some (.int .i64 x.kind) := by rw [hO]; simp
  have d1 : (w.alloc O).cell? ⟨w.heap.size, 1, none⟩ = some (.int .i64 x.n) := by rw [hO]; simp
  have d2 : (w.alloc O).cell? ⟨w.heap.size, 2, none⟩ = some (.string x.s) := by rw [hO]; simp
  have d3 : (w.alloc O).cell? ⟨w.heap.size, 3, none⟩ = some (.slice p3 x.kids.length c3) := by rw [hO]; simp
  have bO : Below w.heap.size w (w.alloc O) := Joins.below_alloc1 w O
  have HC := fun W (hB : Below (w.alloc O).heap.size (w.alloc O) W) => hC W
  have hRO := hR.kept PNEl.st kO
  have r3O := r3.kept IntEl.st kO
  obtain ⟨p2, cap2, rfl, hm2, _⟩ := hRO.form
  unfold maxLen at hm2
  clear hC hR r3 hkf
  cases hb2 : isConsB x
  · rw [hb2] at HC
    clear hcons hk
    go_enter Tryz.func65, Tryz.ntmps65
    go_wp2_with fail
    rw [← hO]
    clear hO
    generalize w.alloc O = wb at *
    have hI := fun W (hB : Below wb.heap.size wb W) => (⟨(hB.cell (p := ⟨_, 0, none⟩) z0).trans d0, (hB.cell (p := ⟨_, 1, none⟩) z0).trans d1, (hB.cell (p := ⟨_, 2, none⟩) z0).trans d2, (hB.cell (p := ⟨_, 3, none⟩) z0).trans d3⟩ : W.cell? ⟨w.heap.size, 0, none⟩ = some (.int .i64 x.kind) ∧ W.cell? ⟨w.heap.size, 1, none⟩ = some (.int .i64 x.n) ∧ W.cell? ⟨w.heap.size, 2, none⟩ = some (.string x.s) ∧ W.cell? ⟨w.heap.size, 3, none⟩ = some (.slice p3 x.kids.length c3))
    clear hRO r3O e2
    refine (HC _ (Below.refl _ _)).mono ?_
    rintro e w1 ⟨rfl, hb1⟩
    have hB1 := hb1
    have hcs1 := hI _ hB1
    go_split_ands
    have hHeld := hB1
    go_wp2
    go_ret
    exact ⟨by simp, below_tr bO hHeld⟩
  · rw [hb2] at HC
    have hl := hcons hb2
    obtain ⟨k, hkk⟩ : ∃ k, x.kids = [k] := List.length_eq_one_iff.1 hl
    obtain ⟨hk0, hk1⟩ := hk k (by simp [hkk])
    obtain ⟨n, rfl⟩ : ∃ n : Nat, k = n := ⟨k.toNat, by omega⟩
    have hn : n < q.length := by omega
    have hg := List.getElem?_eq_getElem hn
    have HF := Lib.hid (show (!true || decide (firstPK q x.kids = 5)) = decide (q[n].kind = 5) from by rw [hkk]; simp [firstPK, hg])
    obtain ⟨_, _, eq3, _, hkf⟩ := r3O.form
    cases eq3
    obtain ⟨b3, o3, rfl, hb3, hks⟩ := hkf (by omega)
    have hk3 := (hks 0 (by omega)).1
    simp only [hkk, List.getElem_cons_zero, Nat.zero_mul, Nat.add_zero] at hk3
    obtain ⟨_, _, eq2, _, hqf⟩ := hRO.form
    cases eq2
    obtain ⟨b2, o2, rfl, hb2', hqs⟩ := hqf (by omega)
    have hq5 := (hqs n hn).1.1
    have hl1 : (0 : Int) < (x.kids.length : Int) := by omega
    have hl2 : 0 < x.kids.length := by omega
    clear hcons hk hks hkf hqf hqs hRO r3O hg
    generalize q[n] = y at *
    clear hkk hl hk0 hk1
    go_enter Tryz.func65, Tryz.ntmps65
    go_wp2_with fail
    rw [← hO]
    clear hO
    generalize w.alloc O = wb at *
    have hI := fun W (hB : Below wb.heap.size wb W) => (⟨(hB.cell (p := ⟨_, 0, none⟩) z0).trans d0, (hB.cell (p := ⟨_, 1, none⟩) z0).trans d1, (hB.cell (p := ⟨_, 2, none⟩) z0).trans d2, (hB.cell (p := ⟨_, 3, none⟩) z0).trans d3, (hB.cell (p := ⟨_, _, none⟩) hb3).trans hk3, (hB.cell (p := ⟨_, _, none⟩) hb2').trans hq5⟩ : W.cell? ⟨w.heap.size, 0, none⟩ = some (.int .i64 x.kind) ∧ W.cell? ⟨w.heap.size, 1, none⟩ = some (.int .i64 x.n) ∧ W.cell? ⟨w.heap.size, 2, none⟩ = some (.string x.s) ∧ W.cell? ⟨w.heap.size, 3, none⟩ = some (.slice (some ⟨b3, o3, none⟩) x.kids.length c3) ∧ W.cell? ⟨b3, o3, none⟩ = some (.int .i64 n) ∧ W.cell? ⟨b2, o2 + n * 4, none⟩ = some (.int .i64 y.kind))
    clear e2
    refine (HC _ (Below.refl _ _)).mono ?_
    rintro e w1 ⟨rfl, hb1⟩
    have hB1 := hb1
    have hcs1 := hI _ hB1
    go_split_ands
    have hHeld := hB1
    go_wp2
    go_ret
    refine ⟨ret_bool ?_, below_tr bO hHeld⟩
    rw [HF.out, Bool.eq_iff_iff]; simp
set_option maxHeartbeats 4000000 in
theorem iRightPN (q : List PN) (vq : Value) (bq : Nat) (x : PN) (u : Value) (w : World) (hcq : w.cell? ⟨bq, 0, none⟩ = some vq) (hbq : bq < w.heap.size) (hR : RowRd 4 PNEl w vq q) (hu : PNVal w u x) (hk : ∀ k ∈ x.kids, 0 ≤ k ∧ k < (q.length : Int)) :
    Calls Tryz.prog 63 #[u, .pointer (some ⟨bq, 0, none⟩)] w fun e w' => e = .returned (.bool (rightPB q x)) ∧ Below w.heap.size w w' := by
  obtain ⟨v3, rfl, i0, i1, i2, r3⟩ := hu
  have hP := fun W (hK : Kept w W) => iPNode x.kind x.n x.s x.kids v3 W (r3.kept IntEl.st hK) i2
  have HR := Lib.hid (show rightPB q x = (isPNB x && (!isConsB x || decide (firstPK q x.kids = 5))) from rfl)
  have hcons := isPN_cons x
  have e1 : pnodeB true x.kind x.n x.s (x.kids.length : Int) = isPNB x := rfl
  rw [e1] at hP
  have hC := fun W (hK : Kept w W) (h1 : isPNB x = true) => iRightPair q vq x v3 W (hR.kept PNEl.st hK) (r3.kept IntEl.st hK) i2 (hcons h1) hk
  obtain ⟨p3, c3, rfl, hm3, _⟩ := r3.form
  unfold maxLen at hm3
  obtain ⟨O, hO⟩ : ∃ O, O = Obj.cells #[.int .i64 x.kind, .int .i64 x.n, .string x.s, .slice p3 x.kids.length c3] 85 := ⟨_, rfl⟩
  have kO : Kept w (w.alloc O) := Kept.alloc _ _
  have z0 : w.heap.size < (w.alloc O).heap.size := by simp
  have d0 : (w.alloc O).cell? ⟨w.heap.size, 0, none⟩ = some (.int .i64 x.kind) := by rw [hO]; simp
  have d1 : (w.alloc O).cell? ⟨w.heap.size, 1, none⟩ = some (.int .i64 x.n) := by rw [hO]; simp
  have d2 : (w.alloc O).cell? ⟨w.heap.size, 2, none⟩ = some (.string x.s) := by rw [hO]; simp
  have d3 : (w.alloc O).cell? ⟨w.heap.size, 3, none⟩ = some (.slice p3 x.kids.length c3) := by rw [hO]; simp
  have dq := (kO.cell bq 0 hbq).trans hcq
  have bO : Below w.heap.size w (w.alloc O) := Joins.below_alloc1 w O
  have HP := fun W (hB : Below (w.alloc O).heap.size (w.alloc O) W) => hP W (kO.trans (Kept.of_below hB))
  have HC := fun (h1 : isPNB x = true) W (hB : Below (w.alloc O).heap.size (w.alloc O) W) => hC W (kO.trans (Kept.of_below hB)) h1
  have bq0 : bq < (w.alloc O).heap.size := Nat.lt_trans hbq z0
  clear hP hC hR r3 hcq hcons hk
  cases hb : isPNB x
  · rw [hb] at HP HR
    have HF := Lib.hid (show rightPB q x = false from by rw [HR.out]; rfl)
    clear HR HC
    go_enter Tryz.func63, Tryz.ntmps63
    go_wp2_with fail
    rw [← hO]
    clear hO
    generalize w.alloc O = wb at *
    have hI := fun W (hB : Below wb.heap.size wb W) => (⟨(hB.cell (p := ⟨_, 0, none⟩) z0).trans d0, (hB.cell (p := ⟨_, 1, none⟩) z0).trans d1, (hB.cell (p := ⟨_, 2, none⟩) z0).trans d2, (hB.cell (p := ⟨_, 3, none⟩) z0).trans d3⟩ : W.cell? ⟨w.heap.size, 0, none⟩ = some (.int .i64 x.kind) ∧ W.cell? ⟨w.heap.size, 1, none⟩ = some (.int .i64 x.n) ∧ W.cell? ⟨w.heap.size, 2, none⟩ = some (.string x.s) ∧ W.cell? ⟨w.heap.size, 3, none⟩ = some (.slice p3 x.kids.length c3))
    clear e1
    refine (HP _ (Below.refl _ _)).mono ?_
    rintro e w1 ⟨rfl, hb1⟩
    have hB1 := hb1
    have hcs1 := hI _ hB1
    go_split_ands
    have hHeld := hB1
    go_wp2
    go_ret
    exact ⟨ret_bool HF.out.symm, below_tr bO hHeld⟩
  · have HC := HC hb
    rw [hb] at HP HR
    have HF := Lib.hid (show (!isConsB x || decide (firstPK q x.kids = 5)) = rightPB q x from by rw [HR.out, Bool.true_and])
    rw [HF.out] at HC
    clear HR HF
    generalize rightPB q x = rr at *
    go_enter Tryz.func63, Tryz.ntmps63
    go_wp2_with fail
    rw [← hO]
    clear hO
    generalize w.alloc O = wb at *
    have hI := fun W (hB : Below wb.heap.size wb W) => (⟨(hB.cell (p := ⟨_, 0, none⟩) z0).trans d0, (hB.cell (p := ⟨_, 1, none⟩) z0).trans d1, (hB.cell (p := ⟨_, 2, none⟩) z0).trans d2, (hB.cell (p := ⟨_, 3, none⟩) z0).trans d3, (hB.cell (p := ⟨_, 0, none⟩) bq0).trans dq⟩ : W.cell? ⟨w.heap.size, 0, none⟩ = some (.int .i64 x.kind) ∧ W.cell? ⟨w.heap.size, 1, none⟩ = some (.int .i64 x.n) ∧ W.cell? ⟨w.heap.size, 2, none⟩ = some (.string x.s) ∧ W.cell? ⟨w.heap.size, 3, none⟩ = some (.slice p3 x.kids.length c3) ∧ W.cell? ⟨bq, 0, none⟩ = some vq)
    clear e1
    refine (HP _ (Below.refl _ _)).mono ?_
    rintro e w1 ⟨rfl, hb1⟩
    have hB1 := hb1
    have hcs1 := hI _ hB1
    go_split_ands
    go_wp2_with fail
    refine (HC _ hB1).mono ?_
    rintro e w2 ⟨rfl, hb2⟩
    have hB2 := below_tr hB1 hb2
    have hcs2 := hI _ hB2
    go_split_ands
    have hHeld := hB2
    go_wp2
    go_ret
    exact ⟨rfl, below_tr bO hHeld⟩
theorem e_iRightPN : ∀ args w, (callFunc 63 args).run Tryz.prog w = .ok (.enter 63 args) w := enters_of Tryz.func63 (by kernel_rfl) rfl
end Go.Proofs.YtkhemdagghlcdaaGreatDoor
