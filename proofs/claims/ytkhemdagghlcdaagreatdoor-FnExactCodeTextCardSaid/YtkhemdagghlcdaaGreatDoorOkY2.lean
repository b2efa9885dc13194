/- The program's check of patterns: a constructor, a node by itself, names that occur twice. -/
import Derived.Test.YtkhemdagghlcdaaGreatDoorOkY1
namespace Go.Proofs.YtkhemdagghlcdaaGreatDoor
set_option linter.unusedVariables false
set_option maxRecDepth 100000
open Go.ChangeShapes Go.WideShapes Go.ChangeAt Go.RowKit Go.Maps Go.WideMaps

theorem iConOkB (s : ByteArray) (w : World) (hs : s.size ≤ maxLen) :
    Calls Tryz.prog 80 #[.string s] w fun e w' => e = .returned (.bool (conB s)) ∧ Below w.heap.size w w' := (iConOk s w hs).mono fun e w' ⟨h, h'⟩ => ⟨h, by subst h'; exact Below.refl _ _⟩
theorem iConTakes (s : ByteArray) (n : Int) (w : World) (hs : s.size ≤ maxLen) :
    Calls Tryz.prog 56 #[.string s, .int .i64 n] w fun e w' => e = .returned (.bool (conOkB s n true)) ∧ Below w.heap.size w w' := by
  by_cases h1 : s.toList = [58, 58]
  · have HB := Lib.hid (show conOkB s n true = decide (n = 1) from by rw [conOkB, if_pos h1]; simp)
    go_enter Tryz.func56, Tryz.ntmps56
    go_wp2
    all_goals
      go_ret
      refine ⟨ret_bool ?_, Below.refl _ _⟩
      rw [HB.out]
      first | (simp; done) | (rw [Bool.eq_iff_iff]; simp; done)
  · have b1 : (s.toList == [58, 58]) = false := by simpa using h1
    by_cases h2 : s.toList = [116, 114, 117, 101] ∨ (s.toList = [102, 97, 108, 115, 101] ∨ s.toList = [91, 93])
    · have HB := Lib.hid (show conOkB s n true = decide (n = 0) from by rw [conOkB, if_neg h1, if_pos h2])
      clear h1
      rcases h2 with h | h | h
      all_goals
        clear b1
        go_enter Tryz.func56, Tryz.ntmps56
        go_wp2
        go_ret
        refine ⟨ret_bool ?_, Below.refl _ _⟩
        rw [HB.out, Bool.eq_iff_iff]; simp
    · obtain ⟨g1, g2⟩ := not_or.1 h2
      obtain ⟨g3, g4⟩ := not_or.1 g2
      have b2 : (s.toList == [116, 114, 117, 101]) = false := by simpa using g1
      have b3 : (s.toList == [102, 97, 108, 115, 101]) = false := by simpa using g3
      have b4 : (s.toList == [91, 93]) = false := by simpa using g4
      have HB := Lib.hid (show conOkB s n true = (conB s && decide (n ≤ 1)) from by rw [conOkB, if_neg h1, if_neg h2])
      clear h1 h2 g1 g2 g3 g4
      go_enter Tryz.func56, Tryz.ntmps56
      go_wp2_with fail
      refine (iConOkB _ _ hs).mono ?_
      rintro e w1 ⟨rfl, hb⟩
      generalize conB s = c at *
      cases c
      all_goals
        go_wp2
        all_goals
          go_ret
          refine ⟨ret_bool ?_, hb⟩
          rw [HB.out]
          first | (simp; done) | (rw [Bool.eq_iff_iff]; simp; done) | (simp; omega)
theorem iConsPat (k n : Int) (s : ByteArray) (u : Value) (w : World) (hs : s.size ≤ maxLen) :
    Calls Tryz.prog 86 #[.agg #[.int .i64 k, .int .i64 n, .string s, u]] w fun e w' => e = .returned (.bool (decide (k = 4) && decide (s.toList = [58, 58]))) ∧ Below w.heap.size w w' := by
  by_cases h4 : k = 4
  · subst h4
    go_enter Tryz.func86, Tryz.ntmps86
    go_wp2
    go_ret
    refine ⟨ret_bool ?_, Joins.below_alloc1 w _⟩
    rw [Bool.eq_iff_iff]; simp
  · have h4' : (k == 4) = false := by simpa using h4
    have HB := Lib.hid (show (decide (k = 4) && decide (s.toList = [58, 58])) = false from by simp [h4])
    clear h4
    go_enter Tryz.func86, Tryz.ntmps86
    go_wp2
    go_ret
    exact ⟨ret_bool HB.out.symm, Joins.below_alloc1 w _⟩
set_option maxHeartbeats 4000000 in
theorem iPNode (k n : Int) (s : ByteArray) (kids : List Int) (u : Value) (w : World) (hk : RowRd 1 IntEl w u kids) (hs : s.size ≤ maxLen) :
    Calls Tryz.prog 64 #[.agg #[.int .i64 k, .int .i64 n, .string s, u]] w fun e w' => e = .returned (.bool (pnodeB true k n s kids.length)) ∧ Below w.heap.size w w' := by
  obtain ⟨b, cap', rfl, hm', hkf⟩ := hk.form
  clear hk hkf
  unfold maxLen at hm'
  have hb0 := fun cs => Joins.below_alloc1 w (.cells cs 85)
  have hsz : ∀ cs, w.heap.size < (w.alloc (.cells cs 85)).heap.size := fun cs => by simp
  have hkc : k = 1 ∨ k = 6 ∨ k = 5 ∨ k = 2 ∨ k = 3 ∨ k = 4 ∨ (¬ k = 1 ∧ ¬ k = 6 ∧ ¬ k = 5 ∧ ¬ k = 2 ∧ ¬ k = 3 ∧ ¬ k = 4) := by omega
  by_cases hn : n = 0
  · subst hn
    by_cases he : s.toList = []
    · have he1 : s.toList.isEmpty = true := by simp [he]
      rcases hkc with rfl | rfl | rfl | rfl | rfl | rfl | ⟨g1, g2, g3, g4, g5, g6⟩
      iterate 3
        · go_enter Tryz.func64, Tryz.ntmps64
          go_wp2
          all_goals
            go_ret
            refine ⟨ret_bool ?_, Joins.below_alloc1 w _⟩
            first | (simp [pnodeB, he]; done) | (rw [Bool.eq_iff_iff]; simp [pnodeB, he]; done) | (simp [pnodeB, he]; omega)
      · go_enter Tryz.func64, Tryz.ntmps64
        go_wp2_with fail
        refine (iNameOkB _ _ hs).mono ?_
        rintro e w1 ⟨rfl, hb1⟩
        obtain ⟨hc, hf⟩ := bcell hb1
        cases hx : nameB s
        all_goals
          go_wp2
          all_goals
            go_ret
            refine ⟨ret_bool ?_, below_tr (Joins.below_alloc1 w _) hb1⟩
            first | (simp [pnodeB, hx]; done) | (rw [Bool.eq_iff_iff]; simp [pnodeB, hx]; done) | (rw [Bool.eq_iff_iff]; simp [pnodeB, hx]; omega)
      · go_enter Tryz.func64, Tryz.ntmps64
        go_wp2
        all_goals
          go_ret
          refine ⟨ret_bool ?_, Joins.below_alloc1 w _⟩
          first | (simp [pnodeB, he]; done) | (rw [Bool.eq_iff_iff]; simp [pnodeB, he]; done) | (rw [Bool.eq_iff_iff]; simp [pnodeB, he]; omega)
      · go_enter Tryz.func64, Tryz.ntmps64
        go_wp2_with fail
        refine (iConTakes _ _ _ hs).mono ?_
        rintro e w1 ⟨rfl, hb1⟩
        go_wp2
        all_goals
          go_ret
          refine ⟨ret_bool ?_, below_tr (Joins.below_alloc1 w _) hb1⟩
          simp [pnodeB]
      · have b1 : (k == 1) = false := by simpa using g1
        have b2 : (k == 2) = false := by simpa using g4
        have b3 : (k == 3) = false := by simpa using g5
        have b4 : (k == 4) = false := by simpa using g6
        have b5 : (k == 5) = false := by simpa using g3
        have b6 : (k == 6) = false := by simpa using g2
        have HF := Lib.hid (show pnodeB true k 0 s (kids.length : Int) = false from by simp [pnodeB, g1, g2, g3, g4, g5, g6])
        clear g1 g2 g3 g4 g5 g6
        go_enter Tryz.func64, Tryz.ntmps64
        go_wp2
        all_goals
          go_ret
          exact ⟨ret_bool HF.out.symm, Joins.below_alloc1 w _⟩
    · have he1 : s.toList.isEmpty = false := by simpa using he
      have HE := Lib.hid he
      clear he
      rcases hkc with rfl | rfl | rfl | rfl | rfl | rfl | ⟨g1, g2, g3, g4, g5, g6⟩
      iterate 3
        · go_enter Tryz.func64, Tryz.ntmps64
          go_wp2
          all_goals
            go_ret
            refine ⟨ret_bool ?_, Joins.below_alloc1 w _⟩
            simp [pnodeB, HE.out]
      · go_enter Tryz.func64, Tryz.ntmps64
        go_wp2_with fail
        refine (iNameOkB _ _ hs).mono ?_
        rintro e w1 ⟨rfl, hb1⟩
        obtain ⟨hc, hf⟩ := bcell hb1
        cases hx : nameB s
        all_goals
          go_wp2
          all_goals
            go_ret
            refine ⟨ret_bool ?_, below_tr (Joins.below_alloc1 w _) hb1⟩
            first | (simp [pnodeB, hx]; done) | (rw [Bool.eq_iff_iff]; simp [pnodeB, hx]; done) | (rw [Bool.eq_iff_iff]; simp [pnodeB, hx]; omega)
      · go_enter Tryz.func64, Tryz.ntmps64
        go_wp2
        all_goals
          go_ret
          refine ⟨ret_bool ?_, Joins.below_alloc1 w _⟩
          simp [pnodeB, HE.out]
      · go_enter Tryz.func64, Tryz.ntmps64
        go_wp2_with fail
        refine (iConTakes _ _ _ hs).mono ?_
        rintro e w1 ⟨rfl, hb1⟩
        go_wp2
        all_goals
          go_ret
          refine ⟨ret_bool ?_, below_tr (Joins.below_alloc1 w _) hb1⟩
          simp [pnodeB]
      · have b1 : (k == 1) = false := by simpa using g1
        have b2 : (k == 2) = false := by simpa using g4
        have b3 : (k == 3) = false := by simpa using g5
        have b4 : (k == 4) = false := by simpa using g6
        have b5 : (k == 5) = false := by simpa using g3
        have b6 : (k == 6) = false := by simpa using g2
        have d2 : (k != 2) = true := by simpa using g4
        have d4 : (k != 4) = true := by simpa using g6
        have HF := Lib.hid (show pnodeB true k 0 s (kids.length : Int) = false from by simp [pnodeB, g1, g2, g3, g4, g5, g6])
        clear g1 g2 g3 g4 g5 g6
        go_enter Tryz.func64, Tryz.ntmps64
        go_wp2
        all_goals
          go_ret
          exact ⟨ret_bool HF.out.symm, Joins.below_alloc1 w _⟩
  · have hn1 : (n == 0) = false := by simpa using hn
    have hn2 : (n != 0) = true := by simpa using hn
    have HN := Lib.hid hn
    clear hn
    by_cases h3 : k = 3
    · subst h3
      by_cases he : s.toList = []
      · have he1 : s.toList.isEmpty = true := by simp [he]
        by_cases hlo : -4611686018427387903 ≤ n
        · by_cases hhi : n ≤ 4611686018427387903
          · have HF := Lib.hid (show pnodeB true 3 n s (kids.length : Int) = decide ((kids.length : Int) = 0) from by simp [pnodeB, he, hlo, hhi])
            go_enter Tryz.func64, Tryz.ntmps64
            go_wp2
            all_goals
              go_ret
              refine ⟨ret_bool ?_, Joins.below_alloc1 w _⟩
              rw [HF.out]
              first | (simp; done) | (rw [Bool.eq_iff_iff]; simp; done) | (rw [Bool.eq_iff_iff]; simp; omega)
          · have HF := Lib.hid (show pnodeB true 3 n s (kids.length : Int) = false from by simp [pnodeB, he, hhi])
            go_enter Tryz.func64, Tryz.ntmps64
            go_wp2
            all_goals
              go_ret
              exact ⟨ret_bool HF.out.symm, Joins.below_alloc1 w _⟩
        · have HF := Lib.hid (show pnodeB true 3 n s (kids.length : Int) = false from by simp [pnodeB, he, hlo])
          go_enter Tryz.func64, Tryz.ntmps64
          go_wp2
          all_goals
            go_ret
            exact ⟨ret_bool HF.out.symm, Joins.below_alloc1 w _⟩
      · have he1 : s.toList.isEmpty = false := by simpa using he
        have HE := Lib.hid he
        clear he
        go_enter Tryz.func64, Tryz.ntmps64
        go_wp2
        all_goals
          go_ret
          refine ⟨ret_bool ?_, Joins.below_alloc1 w _⟩
          simp [pnodeB, HE.out]
    · have h3' : (k != 3) = true := by simpa using h3
      have HF := Lib.hid (show pnodeB true k n s (kids.length : Int) = false from by simp [pnodeB, HN.out, h3])
      clear h3 hkc
      go_enter Tryz.func64, Tryz.ntmps64
      go_wp2
      all_goals
        go_ret
        exact ⟨ret_bool HF.out.symm, Joins.below_alloc1 w _⟩
end Go.Proofs.YtkhemdagghlcdaaGreatDoor
