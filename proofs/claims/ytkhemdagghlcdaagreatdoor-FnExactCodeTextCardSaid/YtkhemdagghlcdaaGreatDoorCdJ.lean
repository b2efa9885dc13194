/- The program's check of code. -/
import Derived.Test.YtkhemdagghlcdaaGreatDoorCdI
import Derived.Test.YtkhemdagghlcdaaGreatDoorFnIns
import Derived.Test.YtkhemdagghlcdaaGreatDoorFnPat
import Derived.Test.YtkhemdagghlcdaaGreatDoorOkY4
import Derived.Test.YtkhemdagghlcdaaGreatDoorPrMath
namespace Go.Proofs.YtkhemdagghlcdaaGreatDoor
set_option linter.unusedVariables false
set_option maxRecDepth 100000
open Go.ChangeShapes Go.WideShapes Go.ChangeAt Go.RowKit

theorem BndIs.lt {w : World} {v : Value} {l : List ByteArray} (h : BndIs w v l) : ptrN v ≤ w.heap.size := by
  cases l with
  | nil => cases h; exact Nat.zero_le _
  | cons s l => obtain ⟨b, v', rfl, h2, _⟩ := h; exact h2
theorem iNamed (s : ByteArray) (a : Option Addr) (n c : Nat) (w : World) :
    Calls Tryz.prog 104 #[.string s, .slice a n c] w fun e w' => e = .returned (.iface 144 (.agg #[.string s, .slice a n c])) ∧ w = w' := by
  go_enter Tryz.func104, Tryz.ntmps104
  go_wp2
  go_ret
  exact ⟨rfl, rfl⟩
theorem iPlainB (nm fr to_ : ByteArray) (q : Option Addr) (l : List ByteArray) (w : World) (h : BndIs w (.pointer q) l) :
    Calls Tryz.prog 103 #[.string nm, .string fr, .string to_, .pointer q] w fun e w' => ∃ p, e = .returned (.pointer p) ∧ BndIs w' (.pointer p) (nm :: l) ∧ Below w.heap.size w w' := by
  have HB := Lib.hid h
  have HL := Lib.hid h.lt
  clear h
  go_enter Tryz.func103, Tryz.ntmps103
  go_wp2_with (go_at_call 104; refine (iNamed _ _ _ _ _).mono ?_; rintro e w1 ⟨rfl, rfl⟩)
  go_ret
  exact ⟨_, rfl, ⟨_, _, rfl, by simp, by simp, by simp, by have := HL.out; omega, HB.out.kept (Kept.al2 _ _ _) _ _⟩, Joins.below_alloc2 w _ _⟩
theorem iGivenNames (w : World) :
    Calls Tryz.prog 81 #[] w fun e w' => ∃ p, e = .returned (.pointer p) ∧ BndIs w' (.pointer p) [⟨#[115, 105, 122, 101]⟩, ⟨#[114, 101, 97, 100]⟩, ⟨#[115, 97, 121]⟩, ⟨#[112, 114, 105, 110, 116]⟩] ∧ Below w.heap.size w w' := by
  go_enter Tryz.func81, Tryz.ntmps81
  go_wp2_with fail
  refine (iPlainB _ _ _ none [] w rfl).mono ?_
  rintro e w1 ⟨p1, rfl, q1, hb1⟩
  have Q1 := Lib.hid q1
  clear q1
  go_wp2_with fail
  refine (iPlainB _ _ _ p1 _ w1 Q1.out).mono ?_
  rintro e w2 ⟨p2, rfl, q2, hb2⟩
  have Q2 := Lib.hid q2
  clear q2 Q1
  go_wp2_with fail
  refine (iPlainB _ _ _ p2 _ w2 Q2.out).mono ?_
  rintro e w3 ⟨p3, rfl, q3, hb3⟩
  have Q3 := Lib.hid q3
  clear q3 Q2
  go_wp2_with fail
  refine (iPlainB _ _ _ p3 _ w3 Q3.out).mono ?_
  rintro e w4 ⟨p4, rfl, q4, hb4⟩
  have Q4 := Lib.hid q4
  clear q4 Q3
  go_wp2
  go_ret
  exact ⟨p4, rfl, Q4.out, below_tr (below_tr (below_tr hb1 hb2) hb3 (by have := hb1.size; have := hb2.size; omega)) hb4 (by have := hb1.size; have := hb2.size; have := hb3.size; omega)⟩
theorem given_any (s : ByteArray) : ([⟨#[115, 105, 122, 101]⟩, ⟨#[114, 101, 97, 100]⟩, ⟨#[115, 97, 121]⟩, ⟨#[112, 114, 105, 110, 116]⟩] : List ByteArray).any (fun x => x.toList == s.toList) = givenB s := by
  have e1 : (⟨#[115, 105, 122, 101]⟩ : ByteArray).toList = [115, 105, 122, 101] := by rw [pr_toList]
  have e2 : (⟨#[114, 101, 97, 100]⟩ : ByteArray).toList = [114, 101, 97, 100] := by rw [pr_toList]
  have e3 : (⟨#[115, 97, 121]⟩ : ByteArray).toList = [115, 97, 121] := by rw [pr_toList]
  have e4 : (⟨#[112, 114, 105, 110, 116]⟩ : ByteArray).toList = [112, 114, 105, 110, 116] := by rw [pr_toList]
  simp only [List.any_cons, List.any_nil, e1, e2, e3, e4, givenB]
  generalize s.toList = t
  rw [Bool.eq_iff_iff]
  simp only [Bool.or_eq_true, beq_iff_eq, Bool.or_false]
  constructor
  · rintro (h | h | h | h) <;> simp_all
  · rintro (h | h | h | h) <;> simp_all
theorem iGiven (s : ByteArray) (w : World) (hs : s.size ≤ maxLen) :
    Calls Tryz.prog 57 #[.string s] w fun e w' => e = .returned (.bool (givenB s)) ∧ Below w.heap.size w w' := by
  have HG := Lib.hid (given_any s)
  go_enter Tryz.func57, Tryz.ntmps57
  go_wp2_with fail
  refine (iGivenNames _).mono ?_
  rintro e w1 ⟨p, rfl, hq, hb⟩
  have HF := Lib.hid (iBndFind s _ _ w1 hq)
  clear hq
  go_wp2_with fail
  refine HF.out.mono ?_
  rintro e w2 ⟨⟨p2, rfl⟩, rfl⟩
  rw [HG.out]
  go_wp2
  go_ret
  exact ⟨rfl, hb⟩
set_option maxHeartbeats 1000000 in
theorem iRightText (k a b : Int) (s : ByteArray) (w : World) (hs : s.size ≤ maxLen) :
    Calls Tryz.prog 36 #[.agg #[.int .i64 k, .int .i64 a, .int .i64 b, .string s]] w fun e w' => e = .returned (.bool (insS k a s)) ∧ Below w.heap.size w w' := by
  by_cases h2 : k = 2
  · subst h2
    go_enter Tryz.func36, Tryz.ntmps36
    go_wp2
    go_ret
    exact ⟨ret_bool (by simp [insS]), Joins.below_alloc1 w _⟩
  by_cases h4 : k = 4
  · subst h4
    have HB := Lib.hid (show insS 4 a s = conOkB s a true from by simp [insS])
    have HC := fun W => Lib.hid (iConTakes s a W hs)
    clear h2
    generalize conOkB s a true = cc at *
    go_enter Tryz.func36, Tryz.ntmps36
    go_wp2_with (go_at_call 56; refine (HC _).out.mono ?_; rintro e w1 ⟨rfl, hb⟩)
    go_ret
    exact ⟨ret_bool HB.out.symm, below_tr (Joins.below_alloc1 w _) hb⟩
  by_cases h7 : k = 7
  · subst h7
    have HB := Lib.hid (show insS 7 a s = givenB s from by simp [insS])
    have HC := fun W => Lib.hid (iGiven s W hs)
    clear h2 h4
    generalize givenB s = cc at *
    go_enter Tryz.func36, Tryz.ntmps36
    go_wp2_with (go_at_call 57; refine (HC _).out.mono ?_; rintro e w1 ⟨rfl, hb⟩)
    go_ret
    exact ⟨ret_bool HB.out.symm, below_tr (Joins.below_alloc1 w _) hb⟩
  by_cases h16 : k = 16
  · subst h16
    have HB := Lib.hid (show insS 16 a s = primB s from by simp [insS])
    have HC := fun W => Lib.hid (iOperC s W hs)
    clear h2 h4 h7
    generalize primB s = cc at *
    go_enter Tryz.func36, Tryz.ntmps36
    go_wp2_with (go_at_call 58; refine (HC _).out.mono ?_; rintro e w1 ⟨rfl, hb⟩)
    go_ret
    exact ⟨ret_bool HB.out.symm, below_tr (Joins.below_alloc1 w _) hb⟩
  · have HB := Lib.hid (show insS k a s = decide (s.toList = []) from by rw [insS, if_neg h2, if_neg h4, if_neg h7, if_neg h16])
    have b2 : (k == 2) = false := by simpa using h2
    have b4 : (k == 4) = false := by simpa using h4
    have b7 : (k == 7) = false := by simpa using h7
    have b16 : (k == 16) = false := by simpa using h16
    clear h2 h4 h7 h16
    go_enter Tryz.func36, Tryz.ntmps36
    go_wp2
    go_ret
    exact ⟨ret_bool (by rw [HB.out, Bool.eq_iff_iff]; simp), Joins.below_alloc1 w _⟩
theorem e_iRightIns : ∀ args w, (callFunc 33 args).run Tryz.prog w = .ok (.enter 33 args) w := enters_of Tryz.func33 (by kernel_rfl) rfl
set_option maxHeartbeats 1000000 in
theorem iRightIns (a0 a1 : Option Addr) (n m c0 c1 bo : Nat) (x : Ins_) (u : Value) (w : World) (hc0 : w.cell? ⟨bo, 0, none⟩ = some (.slice a0 n c0)) (hc1 : w.cell? ⟨bo, 1, none⟩ = some (.slice a1 m c1)) (hbo : bo < w.heap.size) (hu : InsVal w u x) :
    Calls Tryz.prog 33 #[u, .pointer (some ⟨bo, 0, none⟩)] w fun e w' => e = .returned (.bool (insB n m x)) ∧ Below w.heap.size w w' := by
  obtain ⟨rfl, -, -, -, hs⟩ := hu
  obtain ⟨k, a, b, s⟩ := x
  simp only at hs ⊢
  have hne : w.heap.size ≠ bo := by omega
  have HB := Lib.hid (show insB n m ⟨k, a, b, s⟩ = (decide (1 ≤ k) && (decide (k ≤ 25) && (insA n m k a && (insBB n k b && insS k a s)))) from rfl)
  have HA := fun W => Lib.hid (iRightA a0 a1 n m c0 c1 k a b s W)
  have HBB := fun W => Lib.hid (iRightB a0 a1 n m c0 c1 k a b s W)
  have HS := fun W => Lib.hid (iRightText k a b s W hs)
  generalize insA n m k a = A at *
  generalize insBB n k b = B at *
  generalize insS k a s = S at *
  obtain ⟨O, hO⟩ : ∃ O, O = Obj.cells #[.int .i64 k, .int .i64 a, .int .i64 b, .string s] 39 := ⟨_, rfl⟩
  have bO : Below w.heap.size w (w.alloc O) := Joins.below_alloc1 w O
  have d0 : (w.alloc O).cell? ⟨w.heap.size, 0, none⟩ = some (.int .i64 k) := by rw [hO]; simp
  have d1 : (w.alloc O).cell? ⟨w.heap.size, 1, none⟩ = some (.int .i64 a) := by rw [hO]; simp
  have d2 : (w.alloc O).cell? ⟨w.heap.size, 2, none⟩ = some (.int .i64 b) := by rw [hO]; simp
  have d3 : (w.alloc O).cell? ⟨w.heap.size, 3, none⟩ = some (.string s) := by rw [hO]; simp
  have d4 := (bO.cell (p := ⟨bo, 0, none⟩) hbo).trans hc0
  have d5 := (bO.cell (p := ⟨bo, 1, none⟩) hbo).trans hc1
  have z : w.heap.size < (w.alloc O).heap.size := by simp
  have zb : bo < (w.alloc O).heap.size := by omega
  go_enter Tryz.func33, Tryz.ntmps33
  by_cases h1 : 1 ≤ k
  · by_cases h2 : k ≤ 25
    · go_wp2_with fail
      rw [← hO]
      clear hO
      generalize w.alloc O = W at *
      refine (HA _).out.mono ?_
      rintro e w1 ⟨rfl, hb1⟩
      cases A
      · go_wp2
        go_ret
        exact ⟨ret_bool (by rw [HB.out]; simp), below_tr bO hb1⟩
      · obtain ⟨q1, -⟩ := bcell hb1
        have f0 := (q1 _ 0 z).trans d0
        have f1 := (q1 _ 1 z).trans d1
        have f2 := (q1 _ 2 z).trans d2
        have f3 := (q1 _ 3 z).trans d3
        have f4 := (q1 _ 0 zb).trans d4
        have f5 := (q1 _ 1 zb).trans d5
        have z1 := Nat.lt_of_lt_of_le z hb1.size
        have zb1 := Nat.lt_of_lt_of_le zb hb1.size
        have bb1 := below_tr bO hb1
        clear q1 d0 d1 d2 d3 d4 d5 bO
        go_wp2_with fail
        refine (HBB _).out.mono ?_
        rintro e w2 ⟨rfl, hb2⟩
        cases B
        · go_wp2
          go_ret
          exact ⟨ret_bool (by rw [HB.out]; simp), below_tr bb1 hb2⟩
        · obtain ⟨q2, -⟩ := bcell hb2
          have g0 := (q2 _ 0 z1).trans f0
          have g1 := (q2 _ 1 z1).trans f1
          have g2 := (q2 _ 2 z1).trans f2
          have g3 := (q2 _ 3 z1).trans f3
          have bb2 := below_tr bb1 hb2
          clear q2 f0 f1 f2 f3 f4 f5
          go_wp2_with fail
          refine (HS _).out.mono ?_
          rintro e w3 ⟨rfl, hb3⟩
          go_wp2
          go_ret
          exact ⟨ret_bool (by rw [HB.out]; simp [h1, h2]), below_tr bb2 hb3⟩
    · go_wp2
      go_ret
      exact ⟨ret_bool (by rw [HB.out]; simp; omega), by first | exact bO | (rw [hO] at bO; exact bO)⟩
  · go_wp2
    go_ret
    exact ⟨ret_bool (by rw [HB.out]; simp; omega), by first | exact bO | (rw [hO] at bO; exact bO)⟩
end Go.Proofs.YtkhemdagghlcdaaGreatDoor
