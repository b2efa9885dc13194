/- The program's check of an instruction. -/
import Derived.Test.YtkhemdagghlcdaaGreatDoorOkY2
import Derived.Test.YtkhemdagghlcdaaGreatDoorCdMath
import Derived.Test.YtkhemdagghlcdaaGreatDoorWrap
namespace Go.Proofs.YtkhemdagghlcdaaGreatDoor
set_option linter.unusedVariables false
set_option maxRecDepth 100000
open Go.ChangeShapes Go.WideShapes Go.ChangeAt Go.RowKit

theorem cdKindsA (k : Int) : k = 1 ∨ k = 4 ∨ k = 6 ∨ k = 15 ∨ k = 8 ∨ k = 9 ∨ k = 12 ∨ k = 13 ∨ k = 18 ∨ k = 20 ∨ ((k == 1) = false ∧ (k == 4) = false ∧ (k == 6) = false ∧ (k == 8) = false ∧ (k == 9) = false ∧ (k == 12) = false ∧ (k == 13) = false ∧ (k == 15) = false ∧ (k == 18) = false ∧ (k == 20) = false) := by
  simp only [beq_eq_false_iff_ne, ne_eq]; omega
theorem iCdNum (n : Int) (w : World) : Calls Tryz.prog 40 #[.int .i64 n] w fun e w' => e = .returned (.bool (decide (W n = n))) ∧ w = w' := by
  go_enter Tryz.func40, Tryz.ntmps40
  go_wp2_with (go_at_call 70; refine (iWrap _ _).mono ?_; rintro e w' ⟨rfl, rfl⟩)
  go_ret
  refine ⟨ret_bool ?_, rfl⟩
  rw [Bool.eq_iff_iff]; simp
theorem iIdx (a n : Int) (w : World) :
    Calls Tryz.prog 55 #[.int .i64 a, .int .i64 n] w fun e w' => e = .returned (.bool (decide (0 ≤ a) && decide (a < n))) ∧ w = w' := by
  go_enter Tryz.func55, Tryz.ntmps55
  go_wp2
  all_goals
    go_ret
    exact ⟨ret_bool (by rw [Bool.eq_iff_iff]; simp; omega), rfl⟩
theorem iOperC (s : ByteArray) (w : World) (hs : s.size ≤ maxLen) :
    Calls Tryz.prog 58 #[.string s] w fun e w' => e = .returned (.bool (primB s)) ∧ Below w.heap.size w w' := by
  by_cases h : primB s = true
  · have h' := h
    simp only [primB, prims, List.any_cons, List.any_nil, Bool.or_false, Bool.or_eq_true, beq_iff_eq] at h
    rcases h with h | h | h | h | h | h | h | h | h | h
    all_goals
      have HB := Lib.hid h'
      clear h'
      go_enter Tryz.func58, Tryz.ntmps58
      go_wp2
      go_ret
      exact ⟨ret_bool HB.out.symm, Below.refl _ _⟩
  · have HB := Lib.hid (show primB s = false from by simpa using h)
    simp only [primB, prims, List.any_cons, List.any_nil, Bool.or_false, Bool.or_eq_true, not_or] at h
    obtain ⟨h0, h1, h2, h3, h4, h5, h6, h7, h8, h9⟩ := h
    simp only [Bool.not_eq_true] at h0 h1 h2 h3 h4 h5 h6 h7 h8 h9
    go_enter Tryz.func58, Tryz.ntmps58
    go_wp2
    go_ret
    exact ⟨ret_bool HB.out.symm, Below.refl _ _⟩
/-- A chain of bindings: its names, the innermost one first; the outer ones are older. -/
def ptrN : Value → Nat
  | .pointer (some p) => p.block + 1
  | _ => 0
def BndIs (w : World) : Value → List ByteArray → Prop
  | v, [] => v = .pointer none
  | v, s :: l => ∃ b v', v = .pointer (some ⟨b, 0, none⟩) ∧ b < w.heap.size ∧ w.cell? ⟨b, 0, none⟩ = some (.string s) ∧ w.cell? ⟨b, 3, none⟩ = some v' ∧ ptrN v' ≤ b ∧ BndIs w v' l
theorem BndIs.kept {w w' : World} (k : Kept w w') : ∀ (l : List ByteArray) (v : Value), BndIs w v l → BndIs w' v l
  | [], _, h => h
  | s :: l, v, ⟨b, v', h1, h2, h3, h4, h6, h5⟩ => ⟨b, v', h1, Nat.lt_of_lt_of_le h2 k.size, (k.cell _ _ h2).trans h3, (k.cell _ _ h2).trans h4, h6, BndIs.kept k l v' h5⟩
theorem BndIs.ptr {w : World} {v : Value} {l : List ByteArray} (h : BndIs w v l) : ∃ p, v = .pointer p := by
  cases l with
  | nil => exact ⟨_, h⟩
  | cons s l => obtain ⟨b, v', h1, _⟩ := h; exact ⟨_, h1⟩
theorem BndIs.form {w : World} {p : Option Addr} {l : List ByteArray} (h : BndIs w (.pointer p) l) : (l = [] ∧ p = none) ∨ ∃ s l' b p', l = s :: l' ∧ p = some ⟨b, 0, none⟩ ∧ b < w.heap.size ∧ w.cell? ⟨b, 0, none⟩ = some (.string s) ∧ w.cell? ⟨b, 3, none⟩ = some (.pointer p') ∧ ptrN (.pointer p') ≤ b ∧ BndIs w (.pointer p') l' := by
  cases l with
  | nil => left; exact ⟨rfl, by cases h; rfl⟩
  | cons s l =>
    obtain ⟨b, v', h1, h2, h3, h4, h6, h5⟩ := h
    obtain ⟨p', rfl⟩ := h5.ptr
    cases h1
    exact .inr ⟨s, l, b, p', rfl, rfl, h2, h3, h4, h6, h5⟩
theorem iBndFind (s : ByteArray) (l : List ByteArray) (v : Value) (w : World) (hv : BndIs w v l) :
    Calls Tryz.prog 82 #[v, .string s] w fun e w' => (∃ p, e = .returned (.tuple #[.pointer p, .bool (l.any (fun x => x.toList == s.toList))])) ∧ w = w' := by
  have HV := Lib.hid hv
  obtain ⟨p, rfl⟩ := hv.ptr
  clear hv
  generalize hR : l.any (fun x => x.toList == s.toList) = R
  have HR := Lib.hid hR
  clear hR
  go_enter Tryz.func82, Tryz.ntmps82
  go_wp2
  go_loopw [0] (fun u wr => ∃ (l' : List ByteArray) (p' : Option Addr), u = .pointer p' ∧ BndIs w (.pointer p') l' ∧ Hid (l'.any (fun x => x.toList == s.toList) = R) ∧ w = wr) (fun u wr => ptrN u)
  case atStart => exact ⟨l, p, rfl, HV.out, HR, rfl⟩
  case round =>
    obtain ⟨l', p', rfl, hB, hA, rfl⟩ := hrel
    rcases hB.form with ⟨rfl, rfl⟩ | ⟨x, l'', b, q, rfl, rfl, hb, c0, c3, hq, hB'⟩
    · have HF := Lib.hid (show R = false from hA.out.symm)
      clear hA HR HV hB
      go_wp2
      exact bodyPost_ret (v := .tuple #[.pointer none, .bool false]) (by simp [results, Tryz.results82, go_sem]) rfl ⟨⟨_, by rw [HF.out]⟩, rfl⟩
    · clear hB
      have HB := Lib.hid hB'
      have HQ := Lib.hid hq
      clear hB' hq HR HV
      cases hx : x.toList == s.toList
      · have HA2 := Lib.hid (show l''.any (fun x => x.toList == s.toList) = R from by have := hA.out; rw [List.any_cons, hx, Bool.false_or] at this; exact this)
        clear hA
        go_wp2
        go_roundw
        case rel => exact ⟨l'', q, rfl, HB.out, HA2, trivial⟩
        case measure => have := HQ.out; simp [ptrN] at this ⊢; omega
      · have HF := Lib.hid (show R = true from by have := hA.out; rw [List.any_cons, hx, Bool.true_or] at this; exact this.symm)
        clear hA
        go_wp2
        exact bodyPost_ret (v := .tuple #[.pointer (some ⟨b, 0, none⟩), .bool true]) (by simp [results, Tryz.results82, go_sem]) rfl ⟨⟨_, by rw [HF.out]⟩, rfl⟩
set_option maxHeartbeats 2000000 in
theorem iRightA (a0 a1 : Option Addr) (n m c0 c1 : Nat) (k a b : Int) (s : ByteArray) (w : World) :
    Calls Tryz.prog 34 #[.agg #[.slice a0 n c0, .slice a1 m c1], .agg #[.int .i64 k, .int .i64 a, .int .i64 b, .string s]] w fun e w' => e = .returned (.bool (insA n m k a)) ∧ Below w.heap.size w w' := by
  by_cases h1 : k = 1
  · subst h1
    have HB := Lib.hid (show insA n m 1 a = decide (W a = a) from by simp [insA])
    go_enter Tryz.func34, Tryz.ntmps34
    go_wp2_with (go_at_call 40; refine (iCdNum _ _).mono ?_; rintro e w' ⟨rfl, rfl⟩)
    go_ret
    exact ⟨ret_bool HB.out.symm, (Joins.below_alloc1 w _).alloc (by simp) _⟩
  by_cases h4 : k = 4
  · subst h4
    have HB := Lib.hid (show insA n m 4 a = (decide (a = 0) || decide (a = 1)) from by simp [insA])
    clear h1
    go_enter Tryz.func34, Tryz.ntmps34
    go_wp2
    all_goals
      go_ret
      exact ⟨ret_bool (by rw [HB.out, Bool.eq_iff_iff]; first | (simp; done) | (simp; omega)), (Joins.below_alloc1 w _).alloc (by simp) _⟩
  by_cases h6 : k = 6 ∨ k = 15
  · have HB := Lib.hid (show insA n m k a = (decide (0 ≤ a) && decide (a ≤ 3000)) from by rw [insA, if_neg h1, if_neg h4, if_pos h6])
    clear h1 h4
    rcases h6 with rfl | rfl
    all_goals
      go_enter Tryz.func34, Tryz.ntmps34
      go_wp2
      all_goals
        go_ret
        exact ⟨ret_bool (by rw [HB.out, Bool.eq_iff_iff]; simp; omega), (Joins.below_alloc1 w _).alloc (by simp) _⟩
  by_cases h8 : k = 8 ∨ (k = 9 ∨ (k = 12 ∨ (k = 13 ∨ k = 18)))
  · have HB := Lib.hid (show insA n m k a = (decide (0 ≤ a) && decide (a < n)) from by rw [insA, if_neg h1, if_neg h4, if_neg h6, if_pos h8])
    clear h1 h4 h6
    rcases h8 with rfl | rfl | rfl | rfl | rfl
    all_goals
      go_enter Tryz.func34, Tryz.ntmps34
      go_wp2_with (go_at_call 55; refine (iIdx _ _ _).mono ?_; rintro e w' ⟨rfl, rfl⟩)
      go_ret
      exact ⟨ret_bool HB.out.symm, (Joins.below_alloc1 w _).alloc (by simp) _⟩
  by_cases h20 : k = 20
  · subst h20
    have HB := Lib.hid (show insA n m 20 a = (decide (0 ≤ a) && decide (a < m)) from by rw [insA, if_neg h1, if_neg h4, if_neg h6, if_neg h8, if_pos rfl])
    clear h1 h4 h6 h8
    go_enter Tryz.func34, Tryz.ntmps34
    go_wp2_with (go_at_call 55; refine (iIdx _ _ _).mono ?_; rintro e w' ⟨rfl, rfl⟩)
    go_ret
    exact ⟨ret_bool HB.out.symm, (Joins.below_alloc1 w _).alloc (by simp) _⟩
  · have HB := Lib.hid (show insA n m k a = decide (a = 0) from by rw [insA, if_neg h1, if_neg h4, if_neg h6, if_neg h8, if_neg h20])
    have b1 : (k == 1) = false := by simpa using h1
    have b4 : (k == 4) = false := by simpa using h4
    have b6 : (k == 6) = false := by simp; omega
    have b15 : (k == 15) = false := by simp; omega
    have b8 : (k == 8) = false := by simp; omega
    have b9 : (k == 9) = false := by simp; omega
    have b12 : (k == 12) = false := by simp; omega
    have b13 : (k == 13) = false := by simp; omega
    have b18 : (k == 18) = false := by simp; omega
    have b20 : (k == 20) = false := by simpa using h20
    clear h1 h4 h6 h8 h20
    go_enter Tryz.func34, Tryz.ntmps34
    go_wp2
    go_ret
    exact ⟨ret_bool (by rw [HB.out, Bool.eq_iff_iff]; simp), (Joins.below_alloc1 w _).alloc (by simp) _⟩
theorem iRightB (a0 a1 : Option Addr) (n m c0 c1 : Nat) (k a b : Int) (s : ByteArray) (w : World) :
    Calls Tryz.prog 35 #[.agg #[.slice a0 n c0, .slice a1 m c1], .agg #[.int .i64 k, .int .i64 a, .int .i64 b, .string s]] w fun e w' => e = .returned (.bool (insBB n k b)) ∧ Below w.heap.size w w' := by
  by_cases h20 : k = 20
  · subst h20
    have HB := Lib.hid (show insBB n 20 b = (decide (0 ≤ b) && decide (b < n)) from by rw [insBB, if_pos rfl])
    go_enter Tryz.func35, Tryz.ntmps35
    go_wp2_with (go_at_call 55; refine (iIdx _ _ _).mono ?_; rintro e w' ⟨rfl, rfl⟩)
    go_ret
    exact ⟨ret_bool HB.out.symm, (Joins.below_alloc1 w _).alloc (by simp) _⟩
  · have HB := Lib.hid (show insBB n k b = decide (b = 0) from by rw [insBB, if_neg h20])
    have b20 : (k == 20) = false := by simpa using h20
    clear h20
    go_enter Tryz.func35, Tryz.ntmps35
    go_wp2
    go_ret
    exact ⟨ret_bool (by rw [HB.out, Bool.eq_iff_iff]; simp), (Joins.below_alloc1 w _).alloc (by simp) _⟩
end Go.Proofs.YtkhemdagghlcdaaGreatDoor
