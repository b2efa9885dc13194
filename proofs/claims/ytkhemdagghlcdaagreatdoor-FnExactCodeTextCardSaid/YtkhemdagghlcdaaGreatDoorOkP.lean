/- The model's checks of patterns. -/
import Derived.Test.YtkhemdagghlcdaaGreatDoorOkS
import Derived.Deep.DeepCutAuto
namespace Go.Proofs.YtkhemdagghlcdaaGreatDoor
set_option linter.unusedVariables false
set_option maxRecDepth 100000
open Go.ChangeShapes Go.WideShapes Go.ChangeAt Go.RowKit

theorem sConOk4 (s : ByteArray) (n : Int) (p : Bool) (w : World) (hs : s.size ≤ maxLen) (hn : 0 ≤ n) :
    Calls Tryz.prog 51 #[.string s, .int .i64 n, .bool p] w fun e w' => e = .returned (.bool (conOkB s n p)) ∧ w = w' := by
  by_cases h1 : s.toList = [58, 58]
  · have HB := Lib.hid (show conOkB s n p = (decide (n = 1) && p) from by rw [conOkB, if_pos h1])
    cases p
    all_goals
      go_enter Tryz.func51, Tryz.ntmps51
      go_wp2
      all_goals
        go_ret
        refine ⟨ret_bool ?_, rfl⟩
        rw [HB.out]
        first | (simp; done) | (rw [Bool.eq_iff_iff]; simp; done) | (simp; omega)
  · have b1 : (s.toList == [58, 58]) = false := by simpa using h1
    by_cases h2 : s.toList = [116, 114, 117, 101] ∨ (s.toList = [102, 97, 108, 115, 101] ∨ s.toList = [91, 93])
    · have HB := Lib.hid (show conOkB s n p = decide (n = 0) from by rw [conOkB, if_neg h1, if_pos h2])
      clear h1
      rcases h2 with h | h | h
      all_goals
        clear b1
        go_enter Tryz.func51, Tryz.ntmps51
        go_wp2
        go_ret
        refine ⟨ret_bool ?_, rfl⟩
        rw [HB.out, Bool.eq_iff_iff]; simp
    · obtain ⟨g1, g2⟩ := not_or.1 h2
      obtain ⟨g3, g4⟩ := not_or.1 g2
      have b2 : (s.toList == [116, 114, 117, 101]) = false := by simpa using g1
      have b3 : (s.toList == [102, 97, 108, 115, 101]) = false := by simpa using g3
      have b4 : (s.toList == [91, 93]) = false := by simpa using g4
      have HB := Lib.hid (show conOkB s n p = (conB s && decide (n ≤ 1)) from by rw [conOkB, if_neg h1, if_neg h2])
      clear h1 h2 g1 g2 g3 g4
      go_enter Tryz.func51, Tryz.ntmps51
      go_wp2_with fail
      refine (sConOk _ _ hs).mono ?_
      rintro e w1 ⟨rfl, rfl⟩
      generalize conB s = c at *
      cases c
      all_goals
        go_wp2
        all_goals
          go_ret
          refine ⟨ret_bool ?_, rfl⟩
          rw [HB.out]
          first | (simp; done) | (rw [Bool.eq_iff_iff]; simp; done) | (simp; omega)
set_option maxHeartbeats 4000000 in
theorem sPNode (q : List PN) (v : Value) (k n : Int) (s : ByteArray) (kids : List Int) (u : Value) (w : World) (hq : RowRd 4 PNEl w v q) (hk : RowRd 1 IntEl w u kids) (hs : s.size ≤ maxLen) :
    Calls Tryz.prog 49 #[.agg #[v], .agg #[.int .i64 k, .int .i64 n, .string s, u]] w fun e w' => e = .returned (.bool (pnodeB (pairB q kids) k n s kids.length)) ∧ Below w.heap.size w w' := by
  obtain ⟨a, cap, rfl, hm, hqf⟩ := hq.form
  obtain ⟨b, cap', rfl, hm', hkf⟩ := hk.form
  clear hq hk
  have hq := hqf
  have hk := hkf
  clear hqf hkf
  unfold maxLen at hm hm'
  have hT : (∃ y : Int, kids = [y]) ∨ kids.length ≠ 1 := by
    match kids with
    | [] => right; simp
    | [y] => left; exact ⟨y, rfl⟩
    | _ :: _ :: _ => right; simp
  go_enter Tryz.func49, Tryz.ntmps49
  go_upto_region 1 with fail
  go_cut [5] (fun s5 wx => s5 = .bool (pairB q kids) ∧ wx.cell? ⟨w.heap.size + 1, 0, none⟩ = some (.int .i64 k) ∧ wx.cell? ⟨w.heap.size + 1, 1, none⟩ = some (.int .i64 n) ∧ wx.cell? ⟨w.heap.size + 1, 2, none⟩ = some (.string s) ∧ wx.cell? ⟨w.heap.size + 1, 3, none⟩ = some (.slice b kids.length cap') ∧ Below w.heap.size w wx ∧ w.heap.size + 1 < wx.heap.size)
  case first =>
    rcases hT with ⟨y, rfl⟩ | hT
    · obtain ⟨bk, ok, rfl, hbk, hck⟩ := hk (by simp)
      obtain ⟨e0, i0, i1⟩ := hck 0 (by simp)
      simp only [List.getElem_cons_zero, Nat.zero_mul, Nat.add_zero] at e0 i0 i1
      clear hck hk
      by_cases h0 : y < 0
      · have HP := Lib.hid (show pairB q [y] = false from by rw [pairB]; simp; omega)
        have d0 : decide (0 ≤ y) = false := by simp; omega
        go_quiet (fail)
        all_goals (go_wp2_with fail; go_meet; exact ⟨by rw [HP.out], by simp, by simp, by simp, by simp, below_drewN (Joins.below_alloc2 w _ _) _, by simp⟩)
      · obtain ⟨m, rfl⟩ : ∃ m : Nat, y = m := ⟨y.toNat, by omega⟩
        have d0 : decide (0 ≤ (m : Int)) = true := by simp
        by_cases h1 : m < q.length
        · obtain ⟨bq, oq, rfl, hbq, hcq⟩ := hq (by omega)
          have ex := hcq m h1
          have HP := Lib.hid (show pairB q [(m : Int)] = (q[m].kind == 5) from by rw [pairB]; simp [h1]; rw [Bool.eq_iff_iff]; simp)
          clear hcq hq
          generalize q[m] = x at *
          obtain ⟨⟨f0, j0⟩, _⟩ := ex
          have d1 : decide (m < q.length) = true := by simpa using h1
          cases hx : (x.kind == 5)
          all_goals
            go_quiet (fail)
            all_goals (go_wp2_with fail; go_meet; exact ⟨by rw [HP.out, hx], by simp, by simp, by simp, by simp, below_drewN (Joins.below_alloc2 w _ _) _, by simp⟩)
        · have HP := Lib.hid (show pairB q [(m : Int)] = false from by rw [pairB]; simp [List.getElem?_eq_none (Nat.le_of_not_lt h1)])
          have d1 : decide (m < q.length) = false := by simpa using h1
          go_quiet (fail)
          all_goals (go_wp2_with fail; go_meet; exact ⟨by rw [HP.out], by simp, by simp, by simp, by simp, below_drewN (Joins.below_alloc2 w _ _) _, by simp⟩)
    · have HP := Lib.hid (show pairB q kids = false from by
        match kids, hT with
        | [], _ => rfl
        | [y], h => simp at h
        | _ :: _ :: _, _ => rfl)
      have d0 : ((kids.length : Int) == 1) = false := by simp; omega
      have HT := Lib.hid hT
      clear hT
      go_quiet (fail)
      all_goals (go_wp2_with fail; go_meet; exact ⟨by rw [HP.out], by simp, by simp, by simp, by simp, below_drewN (Joins.below_alloc2 w _ _) _, by simp⟩)
  case rest =>
    obtain ⟨rfl, c0, c1, c2, c3, hbel, hsz⟩ := hcut
    clear hT hk hq
    have hkc : k = 1 ∨ k = 6 ∨ k = 5 ∨ k = 2 ∨ k = 3 ∨ k = 4 ∨ (¬ k = 1 ∧ ¬ k = 6 ∧ ¬ k = 5 ∧ ¬ k = 2 ∧ ¬ k = 3 ∧ ¬ k = 4) := by omega
    rcases hkc with rfl | rfl | rfl | rfl | rfl | rfl | ⟨g1, g2, g3, g4, g5, g6⟩
    iterate 3
      · by_cases hn : n = 0
        · subst hn
          by_cases he : s.toList = []
          · have he1 : s.toList.isEmpty = true := by simp [he]
            go_wp2
            all_goals
              go_ret
              refine ⟨ret_bool ?_, hbel⟩
              first | (simp [pnodeB, he]; done) | (rw [Bool.eq_iff_iff]; simp [pnodeB, he]; done) | (simp [pnodeB, he]; omega)
          · have he1 : s.toList.isEmpty = false := by simpa using he
            go_wp2
            all_goals
              go_ret
              refine ⟨ret_bool ?_, hbel⟩
              simp [pnodeB, he]
        · have hn1 : (n == 0) = false := by simpa using hn
          have HN := Lib.hid hn
          clear hn
          go_wp2
          all_goals
            go_ret
            refine ⟨ret_bool ?_, hbel⟩
            simp [pnodeB, HN.out]
    · by_cases hn : n = 0
      · subst hn
        go_wp2_with fail
        refine (sNameOk _ _ hs).mono ?_
        rintro e w1 ⟨rfl, hb1⟩
        have d3 := (hb1.cell (p := ⟨w.heap.size + 1, 3, none⟩) hsz).trans c3
        cases hx : nameB s
        all_goals
          go_wp2
          all_goals
            go_ret
            refine ⟨ret_bool ?_, below_tr hbel hb1⟩
            first | (simp [pnodeB, hx]; done) | (rw [Bool.eq_iff_iff]; simp [pnodeB, hx]; done) | (rw [Bool.eq_iff_iff]; simp [pnodeB, hx]; omega)
      · have hn1 : (n == 0) = false := by simpa using hn
        have HN := Lib.hid hn
        clear hn
        go_wp2
        all_goals
          go_ret
          refine ⟨ret_bool ?_, hbel⟩
          simp [pnodeB, HN.out]
    · by_cases he : s.toList = []
      · have he1 : s.toList.isEmpty = true := by simp [he]
        by_cases hlo : n < -4611686018427387903
        · go_wp2
          all_goals
            go_ret
            refine ⟨ret_bool ?_, hbel⟩
            first | (simp [pnodeB, he]; done) | (simp [pnodeB, he]; omega)
        · by_cases hhi : 4611686018427387903 < n
          · go_wp2
            all_goals
              go_ret
              refine ⟨ret_bool ?_, hbel⟩
              first | (simp [pnodeB, he]; done) | (simp [pnodeB, he]; omega)
          · go_wp2
            all_goals
              go_ret
              refine ⟨ret_bool ?_, hbel⟩
              first | (rw [Bool.eq_iff_iff]; simp [pnodeB, he]; omega) | (rw [Bool.eq_iff_iff]; simp [pnodeB, he, hlo, hhi]; done) | (rw [Bool.eq_iff_iff]; simp [pnodeB, he]; intros; omega)
      · have he1 : s.toList.isEmpty = false := by simpa using he
        go_wp2
        all_goals
          go_ret
          refine ⟨ret_bool ?_, hbel⟩
          simp [pnodeB, he]
    · by_cases hn : n = 0
      · subst hn
        go_wp2_with fail
        refine (sConOk4 _ _ _ _ hs (by omega)).mono ?_
        rintro e w1 ⟨rfl, rfl⟩
        go_wp2
        all_goals
          go_ret
          refine ⟨ret_bool ?_, hbel⟩
          simp [pnodeB]
      · have hn1 : (n == 0) = false := by simpa using hn
        have HN := Lib.hid hn
        clear hn
        go_wp2
        all_goals
          go_ret
          refine ⟨ret_bool ?_, hbel⟩
          simp [pnodeB, HN.out]
    · have b1 : (k == 1) = false := by simpa using g1
      have b2 : (k == 2) = false := by simpa using g4
      have b3 : (k == 3) = false := by simpa using g5
      have b4 : (k == 4) = false := by simpa using g6
      have b5 : (k == 5) = false := by simpa using g3
      have b6 : (k == 6) = false := by simpa using g2
      have HF := Lib.hid (show pnodeB (pairB q kids) k n s (kids.length : Int) = false from by simp [pnodeB, g1, g2, g3, g4, g5, g6])
      clear g1 g2 g3 g4 g5 g6
      go_wp2
      all_goals
        go_ret
        exact ⟨ret_bool HF.out.symm, hbel⟩
theorem sPEnd : ∀ (f : Nat) (q : List PN) (v : Value) (a : Int) (w : World) (hR : RowRd 4 PNEl w v q) (ha : 0 ≤ a) (ha2 : a ≤ 9223372036854775807) (hf : (q.length : Int) < a + f),
    Calls Tryz.prog 50 #[.agg #[v], .int .i64 a] w fun e w' => e = .returned (.int .i64 (pendF f (q.map PN.kids) a)) ∧ Below w.heap.size w w' := by
  intro f
  induction f with
  | zero =>
    intro l v a w hR ha ha2 hf
    obtain ⟨p, cap, rfl, hm, _⟩ := hR.form
    have HB := Lib.hid (pendF_out 0 (l.map PN.kids) a (by rw [List.length_map]; omega))
    unfold maxLen at hm
    have h1 : (l.length : Int) ≤ a := by omega
    go_enter Tryz.func50, Tryz.ntmps50
    go_wp2
    go_ret
    exact ⟨ret_int' HB.out.symm, Joins.below_alloc1 w _⟩
  | succ f ih =>
    intro l v a w hR ha ha2 hf
    have hR0 := hR
    obtain ⟨p, cap, rfl, hm, hRf⟩ := hR.form
    clear hR
    unfold maxLen at hm
    by_cases h1 : (l.length : Int) ≤ a
    · have HB := Lib.hid (pendF_out (f + 1) (l.map PN.kids) a (by rw [List.length_map]; omega))
      go_enter Tryz.func50, Tryz.ntmps50
      go_wp2
      go_ret
      exact ⟨ret_int' HB.out.symm, Joins.below_alloc1 w _⟩
    obtain ⟨n, rfl⟩ : ∃ n : Nat, a = n := ⟨a.toNat, by omega⟩
    have hn : n < l.length := by omega
    have hB := pendF_in f (l.map PN.kids) n (by rw [List.length_map]; exact hn)
    rw [List.getElem_map] at hB
    have hfl : (l.length : Int) < (n : Int) + 1 + f := by omega
    clear h1 hf ha
    obtain ⟨b, o, rfl, hbw, hc⟩ := hRf (by omega)
    have ex := hc n hn
    clear hc hRf
    generalize l[n] = x at *
    have HB := Lib.hid hB
    clear hB
    obtain ⟨⟨e0, i0⟩, ⟨e1, i1⟩, ⟨e2, i2⟩, ⟨u, e3, r3⟩⟩ := ex
    have r3' := r3
    obtain ⟨bk, ck, rfl, hmk, hk⟩ := r3.form
    clear r3
    unfold maxLen at hmk
    have hnc : decide (l.length ≤ n) = false := by simp; omega
    go_enter Tryz.func50, Tryz.ntmps50
    go_wp2
    go_loopw [5, 22] (fun nx i wr => ∃ (k : Nat) (N : Int), i = .int .i64 k ∧ nx = .int .i64 N ∧ k ≤ x.kids.length ∧ pendF (f + 1) (l.map PN.kids) (n : Int) = kidsE (pendF f (l.map PN.kids)) (x.kids.drop k) N ∧ (n : Int) + 1 ≤ N ∧ N ≤ l.length ∧ Below (w.alloc (.cells #[.slice (some ⟨b, o, none⟩) l.length cap] 59)).heap.size (w.alloc (.cells #[.slice (some ⟨b, o, none⟩) l.length cap] 59)) wr) (fun _ i _ => x.kids.length - (intOf i).toNat)
    case atStart => exact ⟨0, (n : Int) + 1, rfl, rfl, Nat.zero_le _, by rw [HB.out]; rfl, Int.le_refl _, by omega, Below.refl _ _⟩
    case round =>
      obtain ⟨k, N, rfl, rfl, hkl, hE, hN1, hN2, hbel⟩ := hrel
      have HE := Lib.hid hE
      clear hE
      obtain ⟨hcl, hfr⟩ := bcell hbel
      have hsz := hbel.size
      simp at hsz
      have c0 : wr.cell? ⟨w.heap.size, 0, none⟩ = some (.slice (some ⟨b, o, none⟩) l.length cap) := by rw [hcl _ _ (by simp)]; simp
      have hK : Kept w wr := (Kept.alloc _ _).trans (Kept.of_below hbel)
      clear hcl hfr e0 e1 e2 e3
      by_cases hlt : k < x.kids.length
      · obtain ⟨b2, o2, rfl, hb2, hc2⟩ := hk (by omega)
        obtain ⟨g0, j0, j1⟩ := IntEl.st w wr b2 _ _ hK hb2 (hc2 k hlt)
        rw [Nat.mul_one] at g0
        have HNo := Lib.hid (kidsE_no (pendF f (l.map PN.kids)) x.kids k hlt)
        have HNeg := Lib.hid (kidsE_neg (pendF f (l.map PN.kids)) x.kids k hlt)
        have HSt := Lib.hid (kidsE_step (pendF f (l.map PN.kids)) x.kids k hlt)
        clear hc2 hk
        generalize x.kids[k] = y at *
        by_cases hy : y = N
        · subst hy
          have hyy : (y != y) = false := by simp
          go_wp2_with fail
          refine (ih l _ y _ (hR0.kept PNEl.st hK) (by omega) (by omega) (by omega)).mono ?_
          rintro e w1 ⟨rfl, hb1⟩
          have hgt := pendF_gt f (l.map PN.kids) y
          have hle := pendF_le f (l.map PN.kids) y
          rw [List.length_map] at hle
          obtain ⟨G, hG⟩ : ∃ G, G = pendF f (l.map PN.kids) y := ⟨_, rfl⟩
          rw [← hG] at hgt hle ⊢
          have HG := Lib.hid hG
          clear hG
          by_cases hneg : G < 0
          · go_wp2
            go_ret
            refine ⟨ret_int' ?_, (Joins.below_alloc1 w _).trans ((hbel.trans (hb1.mono (by simp; omega))).mono (by simp))⟩
            rw [HE.out, HNeg.out y rfl (by rw [← HG.out]; exact hneg)]
          · have hG0 : 0 ≤ G := by omega
            go_wp2
            go_roundw
            case rel => exact ⟨k + 1, G, by go_num, rfl, by omega, by rw [HE.out, HSt.out y rfl (by rw [← HG.out]; omega), HG.out], by omega, by omega, hbel.trans (hb1.mono (by simp; omega))⟩
            case measure => simp [intOf]; omega
        · have hyy : (y != N) = true := by simpa using hy
          have HY := Lib.hid hy
          clear hy
          go_wp2
          go_ret
          refine ⟨ret_int' ?_, (Joins.below_alloc1 w _).trans (hbel.mono (by simp))⟩
          rw [HE.out, HNo.out N HY.out]
      · obtain rfl : k = x.kids.length := by omega
        go_wp2
        go_ret
        refine ⟨ret_int' ?_, (Joins.below_alloc1 w _).trans (hbel.mono (by simp))⟩
        rw [HE.out, List.drop_length]; rfl
end Go.Proofs.YtkhemdagghlcdaaGreatDoor
