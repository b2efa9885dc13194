/- The program's check of heaps: a cell. -/
import Derived.Test.YtdhpmblhejcehaaDoorHqA
namespace Go.Proofs.YtdhpmblhejcehaaDoor
set_option linter.unusedVariables false
set_option maxRecDepth 100000
open Go.ChangeShapes Go.WideShapes Go.ChangeAt Go.RowKit

theorem iHasAddr (k n ak an bk bn : Int) (s sa sb : ByteArray) (w : World) :
    Calls Tryd.prog 43 #[.agg #[.int .i64 k, .int .i64 n, .string s, .int .i64 ak, .int .i64 an, .string sa, .int .i64 bk, .int .i64 bn, .string sb]] w fun e w' => e = .returned (.bool (decide (k = 3 ∨ k = 4))) ∧ Below w.heap.size w w' := by
  go_enter Tryd.func43, Tryd.ntmps43
  go_wp2
  all_goals
    go_ret
    exact ⟨ret_bool (by rw [Bool.eq_iff_iff]; simp_all), Joins.below_alloc1 w _⟩
theorem iHasSecond (k n ak an bk bn : Int) (s sa sb : ByteArray) (w : World) :
    Calls Tryd.prog 44 #[.agg #[.int .i64 k, .int .i64 n, .string s, .int .i64 ak, .int .i64 an, .string sa, .int .i64 bk, .int .i64 bn, .string sb]] w fun e w' => e = .returned (.bool (decide (k = 2 ∨ k = 6))) ∧ Below w.heap.size w w' := by
  go_enter Tryd.func44, Tryd.ntmps44
  go_wp2
  all_goals
    go_ret
    exact ⟨ret_bool (by rw [Bool.eq_iff_iff]; simp_all), Joins.below_alloc1 w _⟩
set_option maxHeartbeats 4000000 in
theorem iCell (m : Int) (x : Ce) (w : World) (hs : x.s.size ≤ maxLen) (hsa : x.a.s.size ≤ maxLen) (hsb : x.b.s.size ≤ maxLen) :
    Calls Tryd.prog 27 #[.agg #[.int .i64 x.kind, .int .i64 x.n, .string x.s, .int .i64 x.a.kind, .int .i64 x.a.n, .string x.a.s, .int .i64 x.b.kind, .int .i64 x.b.n, .string x.b.s], .int .i64 m] w fun e w' => e = .returned (.bool (cellB m x)) ∧ Below w.heap.size w w' := by
  obtain ⟨k, n, s, a, b⟩ := x
  simp only at hs hsa hsb
  have HA := fun W => Lib.hid (iVal m a W hsa)
  have HBv := fun W => Lib.hid (iVal m b W hsb)
  have HB := Lib.hid (show cellB m ⟨k, n, s, a, b⟩ = (decide (1 ≤ k) && (decide (k ≤ 6) && (valB m a && (cellBB m k b && ((decide (k = 3 ∨ k = 4) || decide (n = 0)) && (decide (k = 1) || decide (s.toList = []))))))) from rfl)
  obtain ⟨ad, had⟩ : ∃ ad, ad = decide (k = 3 ∨ k = 4) := ⟨_, rfl⟩
  obtain ⟨se, hse⟩ : ∃ se, se = decide (k = 2 ∨ k = 6) := ⟨_, rfl⟩
  have HAd := fun W => Lib.hid (iHasAddr k n a.kind a.n b.kind b.n s a.s b.s W)
  have HSe := fun W => Lib.hid (iHasSecond k n a.kind a.n b.kind b.n s a.s b.s W)
  rw [← had] at HAd HB
  rw [← hse] at HSe
  have HAD := Lib.hid had
  have HSE := Lib.hid hse
  have HBB := Lib.hid (show cellBB m k b = if se = true then valB m b else noneB b from by rw [hse]; unfold cellBB; by_cases hk : k = 2 ∨ k = 6 <;> simp [hk])
  clear had hse
  generalize hva : valB m a = va at *
  generalize hvb : valB m b = vb at *
  clear hva hvb
  obtain ⟨bk, bn, sb⟩ := b
  obtain ⟨ak, an, sa⟩ := a
  simp only at hsa hsb HA HBv HAd HSe
  obtain ⟨O, hO⟩ : ∃ O, O = Obj.cells #[.int .i64 k, .int .i64 n, .string s, .int .i64 ak, .int .i64 an, .string sa, .int .i64 bk, .int .i64 bn, .string sb] 53 := ⟨_, rfl⟩
  have bO : Below w.heap.size w (w.alloc O) := Joins.below_alloc1 w O
  have z : w.heap.size < (w.alloc O).heap.size := by simp
  have d : ∀ W, Below (w.alloc O).heap.size (w.alloc O) W → (W.cell? ⟨w.heap.size, 0, none⟩ = some (.int .i64 k) ∧ W.cell? ⟨w.heap.size, 1, none⟩ = some (.int .i64 n) ∧ W.cell? ⟨w.heap.size, 2, none⟩ = some (.string s)) ∧ (W.cell? ⟨w.heap.size, 3, none⟩ = some (.int .i64 ak) ∧ W.cell? ⟨w.heap.size, 4, none⟩ = some (.int .i64 an) ∧ W.cell? ⟨w.heap.size, 5, none⟩ = some (.string sa)) ∧ (W.cell? ⟨w.heap.size, 6, none⟩ = some (.int .i64 bk) ∧ W.cell? ⟨w.heap.size, 7, none⟩ = some (.int .i64 bn) ∧ W.cell? ⟨w.heap.size, 8, none⟩ = some (.string sb)) := by
    intro W hW
    have q : ∀ i, W.cell? ⟨w.heap.size, i, none⟩ = (w.alloc O).cell? ⟨w.heap.size, i, none⟩ := fun i => hW.cell (p := ⟨w.heap.size, i, none⟩) z
    simp only [q, hO]
    simp
  obtain ⟨tot, htot⟩ : ∃ t, t = cellB m ⟨k, n, s, ⟨ak, an, sa⟩, ⟨bk, bn, sb⟩⟩ := ⟨_, rfl⟩
  rw [← htot] at HB
  simp only [← htot]
  clear htot
  have HK1 := Lib.hid (show se = true → decide (1 ≤ k) = true ∧ decide (k ≤ 6) = true from fun e => by have := of_decide_eq_true (HSE.out ▸ e); rcases this with rfl | rfl <;> simp)
  go_enter Tryd.func27, Tryd.ntmps27
  by_cases hn : n = 0
  · by_cases hs0 : s.toList = []
    · have HT := Lib.hid (show tot = (decide (1 ≤ k) && (decide (k ≤ 6) && (va && (if se = true then vb else noneB ⟨bk, bn, sb⟩)))) from by rw [HB.out, HBB.out]; simp [hs0, hn])
      subst hn
      clear HB HBB HAD HSE HAd
      go_wp2_with fail
      rw [← hO]
      clear hO
      generalize w.alloc O = W at *
      refine (HSe _).out.mono ?_
      rintro e w1 ⟨rfl, hb1⟩
      obtain ⟨⟨d0, d1, d2⟩, ⟨d3, d4, d5⟩, ⟨d6, d7, d8⟩⟩ := d w1 hb1
      have bb1 := below_tr bO hb1
      cases se
      · by_cases h1 : 1 ≤ k
        · by_cases h6 : k ≤ 6
          · go_wp2_with fail
            refine (HA _).out.mono ?_
            rintro e w2 ⟨rfl, hb2⟩
            have hb3 := below_tr hb1 hb2
            obtain ⟨⟨d0, d1, d2⟩, ⟨d3, d4, d5⟩, ⟨d6, d7, d8⟩⟩ := d w2 hb3
            have bb2 := below_tr bO hb3
            cases va
            · go_wp2
              go_ret
              exact ⟨ret_bool (by rw [HT.out]; simp), bb2⟩
            · go_wp2
              all_goals
                go_ret
                exact ⟨ret_bool (by rw [HT.out, Bool.eq_iff_iff]; simp_all [noneB]), bb2⟩
          · go_wp2
            go_ret
            exact ⟨ret_bool (by rw [HT.out]; simp; omega), bb1⟩
        · go_wp2
          go_ret
          exact ⟨ret_bool (by rw [HT.out]; simp; omega), bb1⟩
      · obtain ⟨hk1, hk6⟩ := HK1.out rfl
        have HT2 := Lib.hid (show tot = (va && vb) from by rw [HT.out, hk1, hk6]; simp)
        clear HT hk1 hk6
        go_wp2_with fail
        refine (HA _).out.mono ?_
        rintro e w2 ⟨rfl, hb2⟩
        have hb3 := below_tr hb1 hb2
        obtain ⟨⟨d0, d1, d2⟩, ⟨d3, d4, d5⟩, ⟨d6, d7, d8⟩⟩ := d w2 hb3
        have bb2 := below_tr bO hb3
        cases va
        · go_wp2
          go_ret
          exact ⟨ret_bool (by rw [HT2.out]; rfl), bb2⟩
        · go_wp2_with fail
          refine (HBv _).out.mono ?_
          rintro e w3 ⟨rfl, hb4⟩
          go_wp2
          go_ret
          exact ⟨ret_bool (by rw [HT2.out]; rfl), below_tr bb2 hb4⟩
    · by_cases hk1 : k = 1
      · have HT := Lib.hid (show tot = (decide (1 ≤ k) && (decide (k ≤ 6) && (va && (if se = true then vb else noneB ⟨bk, bn, sb⟩)))) from by rw [HB.out, HBB.out]; simp [hn, hk1])
        have hk1b : (k != 1) = false := by simpa using hk1
        have hs0e : s.toList.isEmpty = false := by simpa using hs0
        subst hn
        clear HB HBB HAD HSE HAd hk1
        go_wp2_with fail
        rw [← hO]
        clear hO
        generalize w.alloc O = W at *
        refine (HSe _).out.mono ?_
        rintro e w1 ⟨rfl, hb1⟩
        obtain ⟨⟨d0, d1, d2⟩, ⟨d3, d4, d5⟩, ⟨d6, d7, d8⟩⟩ := d w1 hb1
        have bb1 := below_tr bO hb1
        cases se
        · by_cases h1 : 1 ≤ k
          · by_cases h6 : k ≤ 6
            · go_wp2_with fail
              refine (HA _).out.mono ?_
              rintro e w2 ⟨rfl, hb2⟩
              have hb3 := below_tr hb1 hb2
              obtain ⟨⟨d0, d1, d2⟩, ⟨d3, d4, d5⟩, ⟨d6, d7, d8⟩⟩ := d w2 hb3
              have bb2 := below_tr bO hb3
              cases va
              · go_wp2
                go_ret
                exact ⟨ret_bool (by rw [HT.out]; simp), bb2⟩
              · go_wp2
                all_goals
                  go_ret
                  exact ⟨ret_bool (by rw [HT.out, Bool.eq_iff_iff]; simp_all [noneB]), bb2⟩
            · go_wp2
              go_ret
              exact ⟨ret_bool (by rw [HT.out]; simp; omega), bb1⟩
          · go_wp2
            go_ret
            exact ⟨ret_bool (by rw [HT.out]; simp; omega), bb1⟩
        · obtain ⟨hk1, hk6⟩ := HK1.out rfl
          have HT2 := Lib.hid (show tot = (va && vb) from by rw [HT.out, hk1, hk6]; simp)
          clear HT hk1 hk6
          go_wp2_with fail
          refine (HA _).out.mono ?_
          rintro e w2 ⟨rfl, hb2⟩
          have hb3 := below_tr hb1 hb2
          obtain ⟨⟨d0, d1, d2⟩, ⟨d3, d4, d5⟩, ⟨d6, d7, d8⟩⟩ := d w2 hb3
          have bb2 := below_tr bO hb3
          cases va
          · go_wp2
            go_ret
            exact ⟨ret_bool (by rw [HT2.out]; rfl), bb2⟩
          · go_wp2_with fail
            refine (HBv _).out.mono ?_
            rintro e w3 ⟨rfl, hb4⟩
            go_wp2
            go_ret
            exact ⟨ret_bool (by rw [HT2.out]; rfl), below_tr bb2 hb4⟩
      · have HF := Lib.hid (show tot = false from by rw [HB.out]; simp [hk1, hs0])
        have hk1b : (k != 1) = true := by simpa using hk1
        have hs0e : s.toList.isEmpty = false := by simpa using hs0
        subst hn
        clear HB HBB HAD HSE HAd
        go_wp2
        go_ret
        exact ⟨ret_bool HF.out.symm, by first | exact bO | (rw [hO] at bO; exact bO)⟩
  · have hnb : (n != 0) = true := by simpa using hn
    go_wp2_with fail
    rw [← hO]
    clear hO
    generalize w.alloc O = W at *
    refine (HAd _).out.mono ?_
    rintro e w0 ⟨rfl, hb0⟩
    obtain ⟨⟨c0, c1, c2⟩, ⟨c3, c4, c5⟩, ⟨c6, c7, c8⟩⟩ := d w0 hb0
    have bb0 := below_tr bO hb0
    cases ad
    · have HF := Lib.hid (show tot = false from by rw [HB.out]; simp [hn])
      clear HB HBB HAD HSE HAd d
      go_wp2
      go_ret
      exact ⟨ret_bool HF.out.symm, bb0⟩
    · by_cases hs0 : s.toList = []
      · have HT := Lib.hid (show tot = (decide (1 ≤ k) && (decide (k ≤ 6) && (va && (if se = true then vb else noneB ⟨bk, bn, sb⟩)))) from by rw [HB.out, HBB.out]; simp [hs0])
        clear HB HBB HAD HSE HAd
        go_wp2_with fail
        refine (HSe _).out.mono ?_
        rintro e w1 ⟨rfl, hb1⟩
        have hb1 := below_tr hb0 hb1
        obtain ⟨⟨d0, d1, d2⟩, ⟨d3, d4, d5⟩, ⟨d6, d7, d8⟩⟩ := d w1 hb1
        have bb1 := below_tr bO hb1
        clear c0 c1 c2 c3 c4 c5 c6 c7 c8
        cases se
        · by_cases h1 : 1 ≤ k
          · by_cases h6 : k ≤ 6
            · go_wp2_with fail
              refine (HA _).out.mono ?_
              rintro e w2 ⟨rfl, hb2⟩
              have hb3 := below_tr hb1 hb2
              obtain ⟨⟨d0, d1, d2⟩, ⟨d3, d4, d5⟩, ⟨d6, d7, d8⟩⟩ := d w2 hb3
              have bb2 := below_tr bO hb3
              cases va
              · go_wp2
                go_ret
                exact ⟨ret_bool (by rw [HT.out]; simp), bb2⟩
              · go_wp2
                all_goals
                  go_ret
                  exact ⟨ret_bool (by rw [HT.out, Bool.eq_iff_iff]; simp_all [noneB]), bb2⟩
            · go_wp2
              go_ret
              exact ⟨ret_bool (by rw [HT.out]; simp; omega), bb1⟩
          · go_wp2
            go_ret
            exact ⟨ret_bool (by rw [HT.out]; simp; omega), bb1⟩
        · obtain ⟨hk1, hk6⟩ := HK1.out rfl
          have HT2 := Lib.hid (show tot = (va && vb) from by rw [HT.out, hk1, hk6]; simp)
          clear HT hk1 hk6
          go_wp2_with fail
          refine (HA _).out.mono ?_
          rintro e w2 ⟨rfl, hb2⟩
          have hb3 := below_tr hb1 hb2
          obtain ⟨⟨d0, d1, d2⟩, ⟨d3, d4, d5⟩, ⟨d6, d7, d8⟩⟩ := d w2 hb3
          have bb2 := below_tr bO hb3
          cases va
          · go_wp2
            go_ret
            exact ⟨ret_bool (by rw [HT2.out]; rfl), bb2⟩
          · go_wp2_with fail
            refine (HBv _).out.mono ?_
            rintro e w3 ⟨rfl, hb4⟩
            go_wp2
            go_ret
            exact ⟨ret_bool (by rw [HT2.out]; rfl), below_tr bb2 hb4⟩
      · have hk1 : k ≠ 1 := by have := of_decide_eq_true HAD.out.symm; omega
        have HF := Lib.hid (show tot = false from by rw [HB.out]; simp [hk1, hs0])
        have hk1b : (k != 1) = true := by simpa using hk1
        have hs0e : s.toList.isEmpty = false := by simpa using hs0
        clear HB HBB HAD HSE HAd d
        go_wp2
        go_ret
        exact ⟨ret_bool HF.out.symm, bb0⟩
end Go.Proofs.YtdhpmblhejcehaaDoor
