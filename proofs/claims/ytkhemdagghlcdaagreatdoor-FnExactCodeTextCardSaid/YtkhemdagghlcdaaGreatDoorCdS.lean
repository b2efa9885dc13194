/- The model's check of an instruction. -/
import Derived.Test.YtkhemdagghlcdaaGreatDoorOkQ
import Derived.Test.YtkhemdagghlcdaaGreatDoorCdMath
import Derived.Test.YtkhemdagghlcdaaGreatDoorWrap
namespace Go.Proofs.YtkhemdagghlcdaaGreatDoor
set_option linter.unusedVariables false
set_option maxRecDepth 100000
open Go.ChangeShapes Go.WideShapes Go.ChangeAt Go.RowKit

/-- What an operation is: one of those that stand out, or none of them. -/
theorem cdKinds (k : Int) : k = 1 ∨ k = 2 ∨ k = 4 ∨ k = 6 ∨ k = 7 ∨ k = 8 ∨ k = 9 ∨ k = 12 ∨ k = 13 ∨ k = 15 ∨ k = 16 ∨ k = 18 ∨ k = 20 ∨ ((k == 1) = false ∧ (k == 2) = false ∧ (k == 4) = false ∧ (k == 6) = false ∧ (k == 7) = false ∧ (k == 8) = false ∧ (k == 9) = false ∧ (k == 12) = false ∧ (k == 13) = false ∧ (k == 15) = false ∧ (k == 16) = false ∧ (k == 18) = false ∧ (k == 20) = false) := by
  simp only [beq_eq_false_iff_ne, ne_eq]; omega
theorem sConOkA (s : ByteArray) (n : Int) (p : Bool) (w : World) (hs : s.size ≤ maxLen) :
    Calls Tryz.prog 51 #[.string s, .int .i64 n, .bool p] w fun e w' => e = .returned (.bool (conOkB s n p)) ∧ w = w' := by
  by_cases h1 : s.toList = [58, 58]
  · have HB := Lib.hid (show conOkB s n p = (decide (n = 1) && p) from by rw [conOkB, if_pos h1])
    cases p
    all_goals
      go_enter Tryz.func51, Tryz.ntmps51
      go_wp2
      all_goals
        go_ret
        refine ⟨ret_bool ?_, rfl⟩
        rw [HB.out]
        first | (simp; done) | (rw [Bool.eq_iff_iff]; simp; done) | (simp; omega)
  · have b1 : (s.toList == [58, 58]) = false := by simpa using h1
    by_cases h2 : s.toList = [116, 114, 117, 101] ∨ (s.toList = [102, 97, 108, 115, 101] ∨ s.toList = [91, 93])
    · have HB := Lib.hid (show conOkB s n p = decide (n = 0) from by rw [conOkB, if_neg h1, if_pos h2])
      clear h1
      rcases h2 with h | h | h
      all_goals
        clear b1
        go_enter Tryz.func51, Tryz.ntmps51
        go_wp2
        go_ret
        refine ⟨ret_bool ?_, rfl⟩
        rw [HB.out, Bool.eq_iff_iff]; simp
    · obtain ⟨g1, g2⟩ := not_or.1 h2
      obtain ⟨g3, g4⟩ := not_or.1 g2
      have b2 : (s.toList == [116, 114, 117, 101]) = false := by simpa using g1
      have b3 : (s.toList == [102, 97, 108, 115, 101]) = false := by simpa using g3
      have b4 : (s.toList == [91, 93]) = false := by simpa using g4
      have HB := Lib.hid (show conOkB s n p = (conB s && decide (n ≤ 1)) from by rw [conOkB, if_neg h1, if_neg h2])
      clear h1 h2 g1 g2 g3 g4
      go_enter Tryz.func51, Tryz.ntmps51
      go_wp2_with fail
      refine (sConOk _ _ hs).mono ?_
      rintro e w1 ⟨rfl, rfl⟩
      generalize conB s = c at *
      cases c
      all_goals
        go_wp2
        all_goals
          go_ret
          refine ⟨ret_bool ?_, rfl⟩
          rw [HB.out]
          first | (simp; done) | (rw [Bool.eq_iff_iff]; simp; done) | (simp; omega)
theorem sPrimC (s : ByteArray) (w : World) :
    Calls Tryz.prog 53 #[.string s] w fun e w' => e = .returned (.bool (primB s)) ∧ Below w.heap.size w w' := by
  go_enter Tryz.func53, Tryz.ntmps53
  go_wp2
  go_loop [7] (fun i => ∃ k : Nat, k ≤ 10 ∧ i = .int .i64 k ∧ (prims.take k).any (fun x => s.toList == x) = false) (fun i => 10 - (intOf i).toNat)
  case atStart => exact ⟨0, Nat.zero_le _, rfl, rfl⟩
  case round =>
    obtain ⟨k, hk, rfl, hno⟩ := hrel
    have HN := Lib.hid hno
    clear hno
    by_cases hlt : k < 10
    · have hc : k = 0 ∨ k = 1 ∨ k = 2 ∨ k = 3 ∨ k = 4 ∨ k = 5 ∨ k = 6 ∨ k = 7 ∨ k = 8 ∨ k = 9 := by omega
      clear hlt hk
      rcases hc with rfl | rfl | rfl | rfl | rfl | rfl | rfl | rfl | rfl | rfl
      all_goals
        go_wp2
        · have hx := ‹(s.toList == _) = true›
          go_ret
          exact ⟨ret_bool (prim_yes s _ (by decide) hx), (Below.refl _ _).alloc (Nat.le_refl _) _⟩
        · go_round
          case rel => exact ⟨_ + 1, by omega, by go_num, prim_step s _ _ rfl HN.out ‹_›⟩
          case measure => simp [intOf]
    · obtain rfl : k = 10 := by omega
      go_wp2
      go_ret
      exact ⟨ret_bool (by rw [primB]; exact HN.out.symm), (Below.refl _ _).alloc (Nat.le_refl _) _⟩
theorem sPlace (a0 : Option Addr) (n c0 : Nat) (v : Value) (a : Int) (w : World) :
    Calls Tryz.prog 52 #[.agg #[.slice a0 n c0, v], .int .i64 a] w fun e w' => e = .returned (.bool (decide (0 ≤ a) && decide (a < n))) ∧ Below w.heap.size w w' := by
  go_enter Tryz.func52, Tryz.ntmps52
  go_wp2
  all_goals
    go_ret
    exact ⟨ret_bool (by rw [Bool.eq_iff_iff]; simp; omega), Joins.below_alloc1 w _⟩
set_option maxHeartbeats 4000000 in
theorem sInsOk (a0 a1 : Option Addr) (n m c0 c1 : Nat) (x : Ins_) (w : World) (hs : x.s.size ≤ maxLen) :
    Calls Tryz.prog 27 #[.agg #[.slice a0 n c0, .slice a1 m c1], .agg #[.int .i64 x.op, .int .i64 x.a, .int .i64 x.b, .string x.s]] w fun e w' => e = .returned (.bool (insB n m x)) ∧ Below w.heap.size w w' := by
  obtain ⟨k, a, b, s⟩ := x
  simp only at hs
  by_cases h1 : k = 1
  · subst h1
    have HB := Lib.hid (show insB n m ⟨1, a, b, s⟩ = (decide (W a = a) && (decide (b = 0) && decide (s.toList = []))) from by simp [insB, insA, insBB, insS])
    go_enter Tryz.func27, Tryz.ntmps27
    go_wp2_with fail
    go_region_held3 (fun w' => w'.cell? ⟨w.heap.size + 1, 1, none⟩ = some (.int .i64 a) ∧ Below (w.heap.size + 2) ((w.alloc (.cells #[.slice a0 n c0, .slice a1 m c1] 31)).alloc (.cells #[.int .i64 1, .int .i64 a, .int .i64 b, .string s] 39)) w')
      (first | exact ⟨by simp, Below.refl _ _⟩ | exact ⟨by simp, (Below.refl _ _).drew⟩)
      ((go_at_call 28; refine (sWrap _ _).mono ?_; rintro e w1 ⟨rfl, rfl⟩))
    go_wp2
    all_goals
      go_ret
      exact ⟨ret_bool (by rw [HB.out, Bool.eq_iff_iff]; simp_all), ((Joins.below_alloc1 w _).alloc (by simp) _).drew⟩
  by_cases h2 : k = 2
  · subst h2
    have HB := Lib.hid (show insB n m ⟨2, a, b, s⟩ = (decide (a = 0) && decide (b = 0)) from by simp [insB, insA, insBB, insS])
    clear h1
    go_enter Tryz.func27, Tryz.ntmps27
    go_wp2
    all_goals
      go_ret
      exact ⟨ret_bool (by rw [HB.out, Bool.eq_iff_iff]; simp_all), (Joins.below_alloc1 w _).alloc (by simp) _⟩
  by_cases h4 : k = 4
  · subst h4
    have HB := Lib.hid (show insB n m ⟨4, a, b, s⟩ = ((decide (a = 0) || decide (a = 1)) && (decide (b = 0) && conOkB s a true)) from by simp [insB, insA, insBB, insS])
    clear h1 h2
    by_cases ha : a = 0 ∨ a = 1
    · have HB2 := Lib.hid (show insB n m ⟨4, a, b, s⟩ = (decide (b = 0) && conOkB s a true) from by rw [HB.out]; rcases ha with rfl | rfl <;> simp)
      have HC := fun W => Lib.hid (sConOkA s a true W hs)
      clear HB
      rcases ha with rfl | rfl
      all_goals
        generalize conOkB s _ true = cc at *
        go_enter Tryz.func27, Tryz.ntmps27
        go_wp2_with fail
        refine (HC _).out.mono ?_
        rintro e w1 ⟨rfl, rfl⟩
        cases cc
        all_goals
          go_wp2
          all_goals
            go_ret
            exact ⟨ret_bool (by rw [HB2.out, Bool.eq_iff_iff]; simp_all), (Joins.below_alloc1 w _).alloc (by simp) _⟩
    · have HB2 := Lib.hid (show insB n m ⟨4, a, b, s⟩ = false from by rw [HB.out]; simp; omega)
      have HC := fun W => Lib.hid (sConOkA s a true W hs)
      have e0 : (a == 0) = false := by simp; omega
      have e1 : (a == 1) = false := by simp; omega
      clear HB ha
      generalize conOkB s a true = cc at *
      go_enter Tryz.func27, Tryz.ntmps27
      go_wp2_with fail
      refine (HC _).out.mono ?_
      rintro e w1 ⟨rfl, rfl⟩
      go_wp2
      go_ret
      exact ⟨ret_bool HB2.out.symm, (Joins.below_alloc1 w _).alloc (by simp) _⟩
  by_cases h6 : k = 6 ∨ k = 15
  · have HB := Lib.hid (show insB n m ⟨k, a, b, s⟩ = ((decide (0 ≤ a) && decide (a ≤ 3000)) && (decide (b = 0) && decide (s.toList = []))) from by
      rcases h6 with rfl | rfl <;> simp [insB, insA, insBB, insS])
    clear h1 h2 h4
    rcases h6 with rfl | rfl
    all_goals
      go_enter Tryz.func27, Tryz.ntmps27
      go_wp2
      all_goals
        go_ret
        exact ⟨ret_bool (by rw [HB.out, Bool.eq_iff_iff]; first | (simp_all; done) | (simp; omega) | (simp_all; omega)), (Joins.below_alloc1 w _).alloc (by simp) _⟩
  by_cases h7 : k = 7
  · subst h7
    have HB := Lib.hid (show insB n m ⟨7, a, b, s⟩ = (decide (a = 0) && (decide (b = 0) && givenB s)) from by simp [insB, insA, insBB, insS])
    clear h1 h2 h4 h6
    go_enter Tryz.func27, Tryz.ntmps27
    go_wp2
    all_goals
      go_ret
      exact ⟨ret_bool (by rw [HB.out, Bool.eq_iff_iff]; simp_all [givenB]), (Joins.below_alloc1 w _).alloc (by simp) _⟩
  by_cases h8 : k = 8 ∨ (k = 9 ∨ (k = 12 ∨ (k = 13 ∨ k = 18)))
  · have HB := Lib.hid (show insB n m ⟨k, a, b, s⟩ = ((decide (0 ≤ a) && decide (a < n)) && (decide (b = 0) && decide (s.toList = []))) from by
      rcases h8 with rfl | rfl | rfl | rfl | rfl <;> simp [insB, insA, insBB, insS])
    have HC := fun W => Lib.hid (sPlace a0 n c0 (.slice a1 m c1) a W)
    clear h1 h2 h4 h6 h7
    generalize (decide (0 ≤ a) && decide (a < n)) = cc at *
    rcases h8 with rfl | rfl | rfl | rfl | rfl
    all_goals
      go_enter Tryz.func27, Tryz.ntmps27
      go_wp2_with fail
      refine (HC _).out.mono ?_
      rintro e w1 ⟨rfl, hb⟩
      have f0 := hb.cell (p := ⟨w.heap.size + 1, 0, none⟩) (by simp)
      simp at f0
      go_wp2
      all_goals
        go_ret
        exact ⟨ret_bool (by rw [HB.out, Bool.eq_iff_iff]; simp_all), below_tr ((Joins.below_alloc1 w _).alloc (by simp) _) hb (by simp)⟩
  by_cases h16 : k = 16
  · subst h16
    have HB := Lib.hid (show insB n m ⟨16, a, b, s⟩ = (decide (a = 0) && (decide (b = 0) && primB s)) from by simp [insB, insA, insBB, insS])
    have HC := fun W => Lib.hid (sPrimC s W)
    clear h1 h2 h4 h6 h7 h8
    generalize primB s = cc at *
    go_enter Tryz.func27, Tryz.ntmps27
    go_wp2_with fail
    refine (HC _).out.mono ?_
    rintro e w1 ⟨rfl, hb⟩
    have f0 := hb.cell (p := ⟨w.heap.size + 1, 0, none⟩) (by simp)
    simp at f0
    go_wp2
    all_goals
      go_ret
      exact ⟨ret_bool (by rw [HB.out, Bool.eq_iff_iff]; simp_all), below_tr ((Joins.below_alloc1 w _).alloc (by simp) _) hb (by simp)⟩
  by_cases h20 : k = 20
  · subst h20
    have HB := Lib.hid (show insB n m ⟨20, a, b, s⟩ = ((decide (0 ≤ a) && decide (a < m)) && ((decide (0 ≤ b) && decide (b < n)) && decide (s.toList = []))) from by simp [insB, insA, insBB, insS])
    have HC := fun W => Lib.hid (sPlace a0 n c0 (.slice a1 m c1) b W)
    clear h1 h2 h4 h6 h7 h8 h16
    generalize (decide (0 ≤ b) && decide (b < n)) = cc at *
    by_cases ha0 : 0 ≤ a
    · by_cases ham : a < (m : Int)
      · have d0 : decide (a < (m : Int)) = true := by simpa using ham
        have HB2 := Lib.hid (show insB n m ⟨20, a, b, s⟩ = (cc && decide (s.toList = [])) from by rw [HB.out]; simp [ha0, ham])
        clear HB
        go_enter Tryz.func27, Tryz.ntmps27
        go_wp2_with fail
        refine (HC _).out.mono ?_
        rintro e w1 ⟨rfl, hb⟩
        have f0 := hb.cell (p := ⟨w.heap.size + 1, 0, none⟩) (by simp)
        simp at f0
        go_wp2
        all_goals
          go_ret
          exact ⟨ret_bool (by rw [HB2.out, Bool.eq_iff_iff]; simp_all), below_tr ((Joins.below_alloc1 w _).alloc (by simp) _) hb (by simp)⟩
      · have d0 : decide (a < (m : Int)) = false := by simp; omega
        have HB2 := Lib.hid (show insB n m ⟨20, a, b, s⟩ = false from by rw [HB.out]; simp [ham])
        clear HB
        go_enter Tryz.func27, Tryz.ntmps27
        go_wp2_with fail
        refine (HC _).out.mono ?_
        rintro e w1 ⟨rfl, hb⟩
        have f0 := hb.cell (p := ⟨w.heap.size + 1, 0, none⟩) (by simp)
        simp at f0
        go_wp2
        go_ret
        exact ⟨ret_bool HB2.out.symm, below_tr ((Joins.below_alloc1 w _).alloc (by simp) _) hb (by simp)⟩
    · have HB2 := Lib.hid (show insB n m ⟨20, a, b, s⟩ = false from by rw [HB.out]; simp [ha0])
      have ha1 : a < 0 := by omega
      clear HB
      go_enter Tryz.func27, Tryz.ntmps27
      go_wp2_with fail
      refine (HC _).out.mono ?_
      rintro e w1 ⟨rfl, hb⟩
      have f0 := hb.cell (p := ⟨w.heap.size + 1, 0, none⟩) (by simp)
      simp at f0
      go_wp2
      go_ret
      exact ⟨ret_bool HB2.out.symm, below_tr ((Joins.below_alloc1 w _).alloc (by simp) _) hb (by simp)⟩
  · have b1 : (k == 1) = false := by simpa using h1
    have b2 : (k == 2) = false := by simpa using h2
    have b4 : (k == 4) = false := by simpa using h4
    have b6 : (k == 6) = false := by simp; omega
    have b15 : (k == 15) = false := by simp; omega
    have b7 : (k == 7) = false := by simpa using h7
    have b8 : (k == 8) = false := by simp; omega
    have b9 : (k == 9) = false := by simp; omega
    have b12 : (k == 12) = false := by simp; omega
    have b13 : (k == 13) = false := by simp; omega
    have b18 : (k == 18) = false := by simp; omega
    have b16 : (k == 16) = false := by simpa using h16
    have b20 : (k == 20) = false := by simpa using h20
    have HB := Lib.hid (show ∀ a b, insB n m ⟨k, a, b, s⟩ = (decide (1 ≤ k) && (decide (k ≤ 25) && (decide (a = 0) && (decide (b = 0) && decide (s.toList = []))))) from by
      intro a b; simp only [insB, insA, insBB, insS]; rw [if_neg h1, if_neg h4, if_neg h6, if_neg h8, if_neg h20, if_neg h20, if_neg h2, if_neg h4, if_neg h7, if_neg h16])
    clear h1 h2 h4 h6 h7 h8 h16 h20
    go_enter Tryz.func27, Tryz.ntmps27
    go_wp2
    all_goals
      go_ret
      exact ⟨ret_bool (by rw [HB.out, Bool.eq_iff_iff]; first | (simp_all; done) | (simp; omega) | (simp_all; omega)), (Joins.below_alloc1 w _).alloc (by simp) _⟩
end Go.Proofs.YtkhemdagghlcdaaGreatDoor
