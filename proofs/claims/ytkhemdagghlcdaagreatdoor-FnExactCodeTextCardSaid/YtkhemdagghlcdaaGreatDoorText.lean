/- Contracts of the word functions of the program and of its model. -/
import Derived.Test.YtkhemdagghlcdaaGreatDoorRows
import Derived.Test.YtkhemdagghlcdaaGreatDoorTextMath
import Derived.WalkKit
import Derived.ProofKit
import Derived.OpenShut
import Derived.Lib.Hide
namespace Go.Proofs.YtkhemdagghlcdaaGreatDoor
set_option linter.unusedVariables false
open Go.ChangeShapes Go.WideShapes Go.ChangeAt Go.RowKit

theorem ret_int' {k : IntKind} {a b : Int} (h : a = b) : Ending.returned (.int k a) = .returned (.int k b) := by rw [h]
theorem ret_bool {a b : Bool} (h : a = b) : Ending.returned (.bool a) = .returned (.bool b) := by rw [h]

theorem isLower (c : Int) (w : World) (h : 0 ≤ c ∧ c ≤ 255) :
    Calls Tryz.prog 105 #[.int .u8 c] w fun e w' => e = .returned (.bool (lowB c)) ∧ w = w' := by
  go_enter Tryz.func105, Tryz.ntmps105
  go_wp2
  all_goals
    go_ret
    exact ⟨ret_bool (by simp only [lowB]; simp; try omega), rfl⟩
theorem isUpper (c : Int) (w : World) (h : 0 ≤ c ∧ c ≤ 255) :
    Calls Tryz.prog 102 #[.int .u8 c] w fun e w' => e = .returned (.bool (upB c)) ∧ w = w' := by
  go_enter Tryz.func102, Tryz.ntmps102
  go_wp2
  all_goals
    go_ret
    exact ⟨ret_bool (by simp only [upB]; simp; try omega), rfl⟩
theorem isDigit (c : Int) (w : World) (h : 0 ≤ c ∧ c ≤ 255) :
    Calls Tryz.prog 120 #[.int .u8 c] w fun e w' => e = .returned (.bool (digB c)) ∧ w = w' := by
  go_enter Tryz.func120, Tryz.ntmps120
  go_wp2
  all_goals
    go_ret
    exact ⟨ret_bool (by simp only [digB]; simp; try omega), rfl⟩
theorem isWordByte (c : Int) (w : World) (h : 0 ≤ c ∧ c ≤ 255) :
    Calls Tryz.prog 114 #[.int .u8 c] w fun e w' => e = .returned (.bool (wbB c)) ∧ w = w' := by
  cases h1 : lowB c <;> cases h2 : upB c <;> cases h3 : digB c
  all_goals
    go_enter Tryz.func114, Tryz.ntmps114
    go_wp2_with (first | (go_at_call 105; refine (isLower _ _ h).mono ?_; rintro e w' ⟨rfl, rfl⟩) | (go_at_call 102; refine (isUpper _ _ h).mono ?_; rintro e w' ⟨rfl, rfl⟩) | (go_at_call 120; refine (isDigit _ _ h).mono ?_; rintro e w' ⟨rfl, rfl⟩))
    go_ret
    exact ⟨ret_bool (by simp [wbB, h1, h2, h3]), rfl⟩
theorem byte_bd (c : UInt8) : 0 ≤ (c.toNat : Int) ∧ (c.toNat : Int) ≤ 255 := by have := c.toNat_lt; omega

theorem isWord (s : ByteArray) (w : World) (hs : s.size ≤ maxLen) :
    Calls Tryz.prog 101 #[.string s] w fun e w' => e = .returned (.bool (wordB s)) ∧ w = w' := by
  unfold maxLen at hs
  by_cases h0 : 1 ≤ s.size
  · by_cases h1 : s.size ≤ 12
    · go_enter Tryz.func101, Tryz.ntmps101
      go_wp2
      go_loop [3] (fun i => ∃ k : Nat, k ≤ s.size ∧ i = .int .i64 k ∧ allB (s.data.toList.take k) = true) (fun i => s.size - (intOf i).toNat)
      case atStart => exact ⟨0, Nat.zero_le _, rfl, rfl⟩
      case round =>
        obtain ⟨k, hk, rfl, hall⟩ := hrel
        have HA := Lib.hid hall
        clear hall
        by_cases hlt : k < s.size
        · go_wp2_with (go_at_call 114; refine (isWordByte _ _ (byte_bd _)).mono ?_; rintro e w' ⟨rfl, rfl⟩)
          · go_ret
            exact ⟨ret_bool (by rw [wordB, allB_no s k hlt (by simpa using ‹(!wbB ↑s[k].toNat) = true›), Bool.and_false]), rfl⟩
          · go_round
            case rel => exact ⟨k + 1, by omega, by go_num, allB_step s k hlt HA.out (by simpa using ‹(!wbB ↑s[k].toNat) = false›)⟩
            case measure => simp [intOf]; omega
        · obtain rfl : k = s.size := by omega
          go_wp2
          go_ret
          exact ⟨ret_bool (by rw [wordB, allB_end s HA.out]; simp [lenB]; omega), rfl⟩
    · go_enter Tryz.func101, Tryz.ntmps101
      go_wp2
      go_ret
      exact ⟨ret_bool (by simp [wordB, lenB, h1]), rfl⟩
  · go_enter Tryz.func101, Tryz.ntmps101
    go_wp2
    go_ret
    exact ⟨ret_bool (by simp [wordB, lenB, h0]), rfl⟩

theorem isKeyword (s : ByteArray) (w : World) :
    Calls Tryz.prog 106 #[.string s] w fun e w' => e = .returned (.bool (kwB s)) ∧ w = w' := by
  go_enter Tryz.func106, Tryz.ntmps106
  go_wp2
  all_goals
    go_ret
    first | exact ⟨ret_bool (by simp only [kwB, kws, List.any_cons, List.any_nil, *]; rfl), rfl⟩ | (exfalso; simp_all; done)

theorem l01Class (c : Int) (w : World) (h : 0 ≤ c ∧ c ≤ 255) :
    Calls Tryz.prog 113 #[.int .u8 c] w fun e w' => e = .returned (.int .i64 (clsI c)) ∧ w = w' := by
  go_enter Tryz.func113, Tryz.ntmps113
  go_wp2
  all_goals
    go_ret
    refine ⟨ret_int' ?_, rfl⟩
    rw [cls_if]
    try simp only [beq_iff_eq, beq_eq_false_iff_ne, ne_eq] at *
    (repeat' split) <;> first | rfl | (exfalso; omega)

theorem l01Kept (s : ByteArray) (w : World) :
    Calls Tryz.prog 99 #[.string s] w fun e w' => e = .returned (.bool (kwB s)) ∧ Below w.heap.size w w' := by
  go_enter Tryz.func99, Tryz.ntmps99
  go_wp2
  go_loop [7] (fun i => ∃ k : Nat, k ≤ 17 ∧ i = .int .i64 k ∧ (kws.take k).any (fun x => s.toList == x) = false) (fun i => 17 - (intOf i).toNat)
  case atStart => exact ⟨0, Nat.zero_le _, rfl, rfl⟩
  case round =>
    obtain ⟨k, hk, rfl, hno⟩ := hrel
    have HN := Lib.hid hno
    clear hno
    by_cases hlt : k < 17
    · have hc : k = 0 ∨ k = 1 ∨ k = 2 ∨ k = 3 ∨ k = 4 ∨ k = 5 ∨ k = 6 ∨ k = 7 ∨ k = 8 ∨ k = 9 ∨ k = 10 ∨ k = 11 ∨ k = 12 ∨ k = 13 ∨ k = 14 ∨ k = 15 ∨ k = 16 := by omega
      clear hlt hk
      rcases hc with rfl | rfl | rfl | rfl | rfl | rfl | rfl | rfl | rfl | rfl | rfl | rfl | rfl | rfl | rfl | rfl | rfl
      all_goals
        go_wp2
        · have hx := ‹(s.toList == _) = true›
          go_ret
          exact ⟨ret_bool (kw_yes s _ (by decide) hx), (Below.refl _ _).alloc (Nat.le_refl _) _⟩
        · go_round
          case rel => exact ⟨_ + 1, by omega, by go_num, kw_step s _ _ rfl HN.out ‹_›⟩
          case measure => simp [intOf]
    · obtain rfl : k = 17 := by omega
      go_wp2
      go_ret
      exact ⟨ret_bool (by rw [kwB]; exact HN.out.symm), (Below.refl _ _).alloc (Nat.le_refl _) _⟩

theorem l01Word_short (s : ByteArray) (f : Int) (w : World) (hs : s.size ≤ maxLen) (h : lenB s = false) :
    Calls Tryz.prog 98 #[.string s, .int .i64 f] w fun e w' => e = .returned (.bool false) ∧ w = w' := by
  unfold maxLen at hs
  unfold lenB at h
  by_cases h0 : 1 ≤ s.size
  · have h1 : ¬ s.size ≤ 12 := by intro h1; simp [h0, h1] at h
    clear h
    go_enter Tryz.func98, Tryz.ntmps98
    go_wp2
    go_ret
    exact ⟨rfl, rfl⟩
  · clear h
    go_enter Tryz.func98, Tryz.ntmps98
    go_wp2
    go_ret
    exact ⟨rfl, rfl⟩
theorem l01Word_first (s : ByteArray) (f : Int) (w : World) (h0 : 1 ≤ s.size) (h1 : s.size ≤ 12) (h : (clsI (s[0].toNat : Int) == f) = false) :
    Calls Tryz.prog 98 #[.string s, .int .i64 f] w fun e w' => e = .returned (.bool false) ∧ w = w' := by
  have h' : (clsI (s[0].toNat : Int) != f) = true := by simpa using h
  go_enter Tryz.func98, Tryz.ntmps98
  go_wp2_with (go_at_call 113; refine (l01Class _ _ (byte_bd _)).mono ?_; rintro e w' ⟨rfl, rfl⟩)
  go_ret
  exact ⟨rfl, rfl⟩
theorem l01Word_long (s : ByteArray) (f : Int) (w : World) (h0 : 1 ≤ s.size) (h1 : s.size ≤ 12) (h : (clsI (s[0].toNat : Int) == f) = true) :
    Calls Tryz.prog 98 #[.string s, .int .i64 f] w fun e w' => e = .returned (.bool (allB s.data.toList)) ∧ w = w' := by
  have h' : (clsI (s[0].toNat : Int) != f) = false := by simpa using h
  go_enter Tryz.func98, Tryz.ntmps98
  go_wp2_with (go_at_call 113; refine (l01Class _ _ (byte_bd _)).mono ?_; rintro e w' ⟨rfl, rfl⟩)
  clear h h'
  go_loop [5] (fun i => ∃ k : Nat, k ≤ s.size ∧ i = .int .i64 k ∧ allB (s.data.toList.take k) = true) (fun i => s.size - (intOf i).toNat)
  case atStart => exact ⟨0, Nat.zero_le _, rfl, rfl⟩
  case round =>
    obtain ⟨k, hk, rfl, hall⟩ := hrel
    have HA := Lib.hid hall
    clear hall
    by_cases hlt : k < s.size
    · go_wp2_with (go_at_call 113; refine (l01Class _ _ (byte_bd _)).mono ?_; rintro e w' ⟨rfl, rfl⟩)
      · have hx := ‹(clsI ↑s[k].toNat == 0) = true›
        rw [cls_zero] at hx
        go_ret
        exact ⟨ret_bool (by rw [allB_no s k hlt (by simpa using hx)]), rfl⟩
      · have hx := ‹(clsI ↑s[k].toNat == 0) = false›
        rw [cls_zero] at hx
        go_round
        case rel => exact ⟨k + 1, by omega, by go_num, allB_step s k hlt HA.out (by simpa using hx)⟩
        case measure => simp [intOf]; omega
    · obtain rfl : k = s.size := by omega
      go_wp2
      go_ret
      exact ⟨ret_bool (allB_end s HA.out).symm, rfl⟩
/-- The word test of the model: of whatever class f asks for. -/
theorem l01Word (s : ByteArray) (f : Int) (g : Int → Bool) (w : World) (hs : s.size ≤ maxLen) (hg : ∀ c, (clsI c == f) = g c) :
    Calls Tryz.prog 98 #[.string s, .int .i64 f] w fun e w' => e = .returned (.bool (wordB s && g (fst s))) ∧ w = w' := by
  cases hl : lenB s
  · exact (l01Word_short s f w hs hl).mono fun e w' ⟨he, hw⟩ => ⟨by rw [he]; simp [wordB, hl], hw⟩
  · have h01 : 1 ≤ s.size ∧ s.size ≤ 12 := by simpa [lenB] using hl
    obtain ⟨h0, h1⟩ := h01
    have hf := fst_get s h0
    cases hc : (clsI (s[0].toNat : Int) == f)
    · exact (l01Word_first s f w h0 h1 hc).mono fun e w' ⟨he, hw⟩ => ⟨by rw [he, ← hg, hf, hc]; simp, hw⟩
    · exact (l01Word_long s f w h0 h1 hc).mono fun e w' ⟨he, hw⟩ => ⟨by rw [he, ← hg, hf, hc]; simp [wordB, hl], hw⟩

theorem sNameOk (s : ByteArray) (w : World) (hs : s.size ≤ maxLen) :
    Calls Tryz.prog 77 #[.string s] w fun e w' => e = .returned (.bool (nameB s)) ∧ Below w.heap.size w w' := by
  cases h1 : wordB s && lowB (fst s) <;> cases h2 : kwB s
  all_goals
    go_enter Tryz.func77, Tryz.ntmps77
    go_wp2_with (first | (go_at_call 98; refine (l01Word _ _ lowB _ hs cls_one).mono ?_; rintro e w' ⟨rfl, rfl⟩) | (go_at_call 99; refine (l01Kept _ _).mono ?_; rintro e w1 ⟨rfl, hg⟩))
    go_ret
    refine ⟨ret_bool (by rw [nameB, ← Bool.and_assoc, h1, h2]; rfl), ?_⟩
    first | exact Below.refl _ _ | assumption
theorem sConOk (s : ByteArray) (w : World) (hs : s.size ≤ maxLen) :
    Calls Tryz.prog 78 #[.string s] w fun e w' => e = .returned (.bool (conB s)) ∧ w = w' := by
  go_enter Tryz.func78, Tryz.ntmps78
  go_wp2_with (go_at_call 98; refine (l01Word _ _ upB _ hs cls_two).mono ?_; rintro e w' ⟨rfl, rfl⟩)
  go_ret
  exact ⟨rfl, rfl⟩
theorem word_pos (s : ByteArray) (h : wordB s = true) : 0 < s.size := by
  simp [wordB, lenB] at h; omega
theorem iConOk (s : ByteArray) (w : World) (hs : s.size ≤ maxLen) :
    Calls Tryz.prog 80 #[.string s] w fun e w' => e = .returned (.bool (conB s)) ∧ w = w' := by
  cases h1 : wordB s
  · go_enter Tryz.func80, Tryz.ntmps80
    go_wp2_with (go_at_call 101; refine (isWord _ _ hs).mono ?_; rintro e w' ⟨rfl, rfl⟩)
    go_ret
    exact ⟨ret_bool (by rw [conB, h1]; rfl), rfl⟩
  · have h0 := word_pos s h1
    have hf := Lib.hid (fst_get s h0)
    go_enter Tryz.func80, Tryz.ntmps80
    go_wp2_with (first | (go_at_call 101; refine (isWord _ _ hs).mono ?_; rintro e w' ⟨rfl, rfl⟩) | (go_at_call 102; refine (isUpper _ _ (byte_bd _)).mono ?_; rintro e w' ⟨rfl, rfl⟩))
    go_ret
    exact ⟨ret_bool (by rw [conB, h1, hf.out]; rfl), rfl⟩
theorem iNameOk (s : ByteArray) (w : World) (hs : s.size ≤ maxLen) :
    Calls Tryz.prog 85 #[.string s] w fun e w' => e = .returned (.bool (nameB s)) ∧ w = w' := by
  cases h1 : wordB s
  · go_enter Tryz.func85, Tryz.ntmps85
    go_wp2_with (go_at_call 101; refine (isWord _ _ hs).mono ?_; rintro e w' ⟨rfl, rfl⟩)
    go_ret
    exact ⟨ret_bool (by rw [nameB, h1]; rfl), rfl⟩
  · have h0 := word_pos s h1
    have hf := Lib.hid (fst_get s h0)
    cases h2 : lowB (s[0].toNat : Int) <;> cases h3 : kwB s
    all_goals
      go_enter Tryz.func85, Tryz.ntmps85
      go_wp2_with (first | (go_at_call 101; refine (isWord _ _ hs).mono ?_; rintro e w' ⟨rfl, rfl⟩) | (go_at_call 105; refine (isLower _ _ (byte_bd _)).mono ?_; rintro e w' ⟨rfl, rfl⟩) | (go_at_call 106; refine (isKeyword _ _).mono ?_; rintro e w' ⟨rfl, rfl⟩))
      go_ret
      exact ⟨ret_bool (by rw [nameB, h1, hf.out, h2, h3]; rfl), rfl⟩
end Go.Proofs.YtkhemdagghlcdaaGreatDoor
