/- Texts of this proof, merged: Text, OkS, OkP, OkQ, Wrap, Shelf. -/
import Derived.Test.YtbehcmogndpkhaaGreatDoorRows
import Derived.Test.YtbehcmogndpkhaaGreatDoorM5
import Derived.WalkKit
import Derived.ProofKit
import Derived.OpenShut
import Derived.Lib.Hide
import Derived.WalkSmall
import Derived.Lib.SmallJoins
import Derived.StillTailTactics
import Derived.Deep.QuietTactic
import Derived.BigQuiet
import Derived.Deep.RegionHeld3
import Derived.Deep.RegionWith
import Derived.Outline
import Derived.Deep.DeepCutAuto
import Derived.Test.YtbehcmogndpkhaaGreatDoorM6
import Derived.Shelf.Strings.Builder1
import Derived.Shelf.Strings.Builder2
import Derived.Shelf.Strings.OnBuilder
import Derived.Shelf.Strings.BuilderF
import Derived.Shelf.Strings.BuilderK
import Derived.Shelf.Strings.Builder2Cap
import Derived.Shelf.Strconv.Itoa0
import Derived.Shelf.Strconv.Itoa1
import Derived.Shelf.LaysM
import Derived.Shelf.Strconv.Itoa2
import Derived.Shelf.Strconv.Itoa3
import Derived.Shelf.Strings.BuilderCap
import Derived.Test.YtbehcmogndpkhaaGreatDoorProg
namespace Go.Proofs.YtbehcmogndpkhaaGreatDoor
set_option linter.unusedVariables false
open Go.ChangeShapes Go.WideShapes Go.ChangeAt Go.RowKit

theorem ret_int' {k : IntKind} {a b : Int} (h : a = b) : Ending.returned (.int k a) = .returned (.int k b) := by rw [h]
theorem ret_bool {a b : Bool} (h : a = b) : Ending.returned (.bool a) = .returned (.bool b) := by rw [h]

theorem isLower (c : Int) (w : World) (h : 0 ≤ c ∧ c ≤ 255) :
    Calls Tryz.prog 189 #[.int .u8 c] w fun e w' => e = .returned (.bool (lowB c)) ∧ w = w' := by
  go_enter Tryz.func189, Tryz.ntmps189
  go_wp2
  all_goals
    go_ret
    exact ⟨ret_bool (by simp only [lowB]; simp; try omega), rfl⟩
theorem isUpper (c : Int) (w : World) (h : 0 ≤ c ∧ c ≤ 255) :
    Calls Tryz.prog 220 #[.int .u8 c] w fun e w' => e = .returned (.bool (upB c)) ∧ w = w' := by
  go_enter Tryz.func220, Tryz.ntmps220
  go_wp2
  all_goals
    go_ret
    exact ⟨ret_bool (by simp only [upB]; simp; try omega), rfl⟩
theorem isDigit (c : Int) (w : World) (h : 0 ≤ c ∧ c ≤ 255) :
    Calls Tryz.prog 250 #[.int .u8 c] w fun e w' => e = .returned (.bool (digB c)) ∧ w = w' := by
  go_enter Tryz.func250, Tryz.ntmps250
  go_wp2
  all_goals
    go_ret
    exact ⟨ret_bool (by simp only [digB]; simp; try omega), rfl⟩
theorem isWordByte (c : Int) (w : World) (h : 0 ≤ c ∧ c ≤ 255) :
    Calls Tryz.prog 226 #[.int .u8 c] w fun e w' => e = .returned (.bool (wbB c)) ∧ w = w' := by
  cases h1 : lowB c <;> cases h2 : upB c <;> cases h3 : digB c
  all_goals
    go_enter Tryz.func226, Tryz.ntmps226
    go_wp2_with (first | (go_at_call 189; refine (isLower _ _ h).mono ?_; rintro e w' ⟨rfl, rfl⟩) | (go_at_call 220; refine (isUpper _ _ h).mono ?_; rintro e w' ⟨rfl, rfl⟩) | (go_at_call 250; refine (isDigit _ _ h).mono ?_; rintro e w' ⟨rfl, rfl⟩))
    go_ret
    exact ⟨ret_bool (by simp [wbB, h1, h2, h3]), rfl⟩
theorem byte_bd (c : UInt8) : 0 ≤ (c.toNat : Int) ∧ (c.toNat : Int) ≤ 255 := by have := c.toNat_lt; omega

theorem isWord (s : ByteArray) (w : World) (hs : s.size ≤ maxLen) :
    Calls Tryz.prog 188 #[.string s] w fun e w' => e = .returned (.bool (wordB s)) ∧ w = w' := by
  unfold maxLen at hs
  by_cases h0 : 1 ≤ s.size
  · by_cases h1 : s.size ≤ 12
    · go_enter Tryz.func188, Tryz.ntmps188
      go_wp2
      go_loop [3] (fun i => ∃ k : Nat, k ≤ s.size ∧ i = .int .i64 k ∧ allB (s.data.toList.take k) = true) (fun i => s.size - (intOf i).toNat)
      case atStart => exact ⟨0, Nat.zero_le _, rfl, rfl⟩
      case round =>
        obtain ⟨k, hk, rfl, hall⟩ := hrel
        have HA := Lib.hid hall
        clear hall
        by_cases hlt : k < s.size
        · go_wp2_with (go_at_call 226; refine (isWordByte _ _ (byte_bd _)).mono ?_; rintro e w' ⟨rfl, rfl⟩)
          · go_ret
            exact ⟨ret_bool (by rw [wordB, allB_no s k hlt (by simpa using ‹(!wbB ↑s[k].toNat) = true›), Bool.and_false]), rfl⟩
          · go_round
            case rel => exact ⟨k + 1, by omega, by go_num, allB_step s k hlt HA.out (by simpa using ‹(!wbB ↑s[k].toNat) = false›)⟩
            case measure => simp [intOf]; omega
        · obtain rfl : k = s.size := by omega
          go_wp2
          go_ret
          exact ⟨ret_bool (by rw [wordB, allB_end s HA.out]; simp [lenB]; omega), rfl⟩
    · go_enter Tryz.func188, Tryz.ntmps188
      go_wp2
      go_ret
      exact ⟨ret_bool (by simp [wordB, lenB, h1]), rfl⟩
  · go_enter Tryz.func188, Tryz.ntmps188
    go_wp2
    go_ret
    exact ⟨ret_bool (by simp [wordB, lenB, h0]), rfl⟩

theorem isKeyword (s : ByteArray) (w : World) :
    Calls Tryz.prog 190 #[.string s] w fun e w' => e = .returned (.bool (kwB s)) ∧ w = w' := by
  go_enter Tryz.func190, Tryz.ntmps190
  go_wp2
  all_goals
    go_ret
    first | exact ⟨ret_bool (by simp only [kwB, kws, List.any_cons, List.any_nil, *]; rfl), rfl⟩ | (exfalso; simp_all; done)

theorem l01Class (c : Int) (w : World) (h : 0 ≤ c ∧ c ≤ 255) :
    Calls Tryz.prog 173 #[.int .u8 c] w fun e w' => e = .returned (.int .i64 (clsI c)) ∧ w = w' := by
  go_enter Tryz.func173, Tryz.ntmps173
  go_wp2
  all_goals
    go_ret
    refine ⟨ret_int' ?_, rfl⟩
    rw [cls_if]
    try simp only [beq_iff_eq, beq_eq_false_iff_ne, ne_eq] at *
    (repeat' split) <;> first | rfl | (exfalso; omega)

theorem l01Kept (s : ByteArray) (w : World) :
    Calls Tryz.prog 115 #[.string s] w fun e w' => e = .returned (.bool (kwB s)) ∧ Below w.heap.size w w' := by
  go_enter Tryz.func115, Tryz.ntmps115
  go_wp2
  go_loop [7] (fun i => ∃ k : Nat, k ≤ 17 ∧ i = .int .i64 k ∧ (kws.take k).any (fun x => s.toList == x) = false) (fun i => 17 - (intOf i).toNat)
  case atStart => exact ⟨0, Nat.zero_le _, rfl, rfl⟩
  case round =>
    obtain ⟨k, hk, rfl, hno⟩ := hrel
    have HN := Lib.hid hno
    clear hno
    by_cases hlt : k < 17
    · have hc : k = 0 ∨ k = 1 ∨ k = 2 ∨ k = 3 ∨ k = 4 ∨ k = 5 ∨ k = 6 ∨ k = 7 ∨ k = 8 ∨ k = 9 ∨ k = 10 ∨ k = 11 ∨ k = 12 ∨ k = 13 ∨ k = 14 ∨ k = 15 ∨ k = 16 := by omega
      clear hlt hk
      rcases hc with rfl | rfl | rfl | rfl | rfl | rfl | rfl | rfl | rfl | rfl | rfl | rfl | rfl | rfl | rfl | rfl | rfl
      all_goals
        go_wp2
        · have hx := ‹(s.toList == _) = true›
          go_ret
          exact ⟨ret_bool (kw_yes s _ (by decide) hx), (Below.refl _ _).alloc (Nat.le_refl _) _⟩
        · go_round
          case rel => exact ⟨_ + 1, by omega, by go_num, kw_step s _ _ rfl HN.out ‹_›⟩
          case measure => simp [intOf]
    · obtain rfl : k = 17 := by omega
      go_wp2
      go_ret
      exact ⟨ret_bool (by rw [kwB]; exact HN.out.symm), (Below.refl _ _).alloc (Nat.le_refl _) _⟩

theorem l01Word_short (s : ByteArray) (f : Int) (w : World) (hs : s.size ≤ maxLen) (h : lenB s = false) :
    Calls Tryz.prog 114 #[.string s, .int .i64 f] w fun e w' => e = .returned (.bool false) ∧ w = w' := by
  unfold maxLen at hs
  unfold lenB at h
  by_cases h0 : 1 ≤ s.size
  · have h1 : ¬ s.size ≤ 12 := by intro h1; simp [h0, h1] at h
    clear h
    go_enter Tryz.func114, Tryz.ntmps114
    go_wp2
    go_ret
    exact ⟨rfl, rfl⟩
  · clear h
    go_enter Tryz.func114, Tryz.ntmps114
    go_wp2
    go_ret
    exact ⟨rfl, rfl⟩
theorem l01Word_first (s : ByteArray) (f : Int) (w : World) (h0 : 1 ≤ s.size) (h1 : s.size ≤ 12) (h : (clsI (s[0].toNat : Int) == f) = false) :
    Calls Tryz.prog 114 #[.string s, .int .i64 f] w fun e w' => e = .returned (.bool false) ∧ w = w' := by
  have h' : (clsI (s[0].toNat : Int) != f) = true := by simpa using h
  go_enter Tryz.func114, Tryz.ntmps114
  go_wp2_with (go_at_call 173; refine (l01Class _ _ (byte_bd _)).mono ?_; rintro e w' ⟨rfl, rfl⟩)
  go_ret
  exact ⟨rfl, rfl⟩
theorem l01Word_long (s : ByteArray) (f : Int) (w : World) (h0 : 1 ≤ s.size) (h1 : s.size ≤ 12) (h : (clsI (s[0].toNat : Int) == f) = true) :
    Calls Tryz.prog 114 #[.string s, .int .i64 f] w fun e w' => e = .returned (.bool (allB s.data.toList)) ∧ w = w' := by
  have h' : (clsI (s[0].toNat : Int) != f) = false := by simpa using h
  go_enter Tryz.func114, Tryz.ntmps114
  go_wp2_with (go_at_call 173; refine (l01Class _ _ (byte_bd _)).mono ?_; rintro e w' ⟨rfl, rfl⟩)
  clear h h'
  go_loop [5] (fun i => ∃ k : Nat, k ≤ s.size ∧ i = .int .i64 k ∧ allB (s.data.toList.take k) = true) (fun i => s.size - (intOf i).toNat)
  case atStart => exact ⟨0, Nat.zero_le _, rfl, rfl⟩
  case round =>
    obtain ⟨k, hk, rfl, hall⟩ := hrel
    have HA := Lib.hid hall
    clear hall
    by_cases hlt : k < s.size
    · go_wp2_with (go_at_call 173; refine (l01Class _ _ (byte_bd _)).mono ?_; rintro e w' ⟨rfl, rfl⟩)
      · have hx := ‹(clsI ↑s[k].toNat == 0) = true›
        rw [cls_zero] at hx
        go_ret
        exact ⟨ret_bool (by rw [allB_no s k hlt (by simpa using hx)]), rfl⟩
      · have hx := ‹(clsI ↑s[k].toNat == 0) = false›
        rw [cls_zero] at hx
        go_round
        case rel => exact ⟨k + 1, by omega, by go_num, allB_step s k hlt HA.out (by simpa using hx)⟩
        case measure => simp [intOf]; omega
    · obtain rfl : k = s.size := by omega
      go_wp2
      go_ret
      exact ⟨ret_bool (allB_end s HA.out).symm, rfl⟩
/-- The word test of the model: of whatever class f asks for. -/
theorem l01Word (s : ByteArray) (f : Int) (g : Int → Bool) (w : World) (hs : s.size ≤ maxLen) (hg : ∀ c, (clsI c == f) = g c) :
    Calls Tryz.prog 114 #[.string s, .int .i64 f] w fun e w' => e = .returned (.bool (wordB s && g (fst s))) ∧ w = w' := by
  cases hl : lenB s
  · exact (l01Word_short s f w hs hl).mono fun e w' ⟨he, hw⟩ => ⟨by rw [he]; simp [wordB, hl], hw⟩
  · have h01 : 1 ≤ s.size ∧ s.size ≤ 12 := by simpa [lenB] using hl
    obtain ⟨h0, h1⟩ := h01
    have hf := fst_get s h0
    cases hc : (clsI (s[0].toNat : Int) == f)
    · exact (l01Word_first s f w h0 h1 hc).mono fun e w' ⟨he, hw⟩ => ⟨by rw [he, ← hg, hf, hc]; simp, hw⟩
    · exact (l01Word_long s f w h0 h1 hc).mono fun e w' ⟨he, hw⟩ => ⟨by rw [he, ← hg, hf, hc]; simp [wordB, hl], hw⟩

theorem sNameOk (s : ByteArray) (w : World) (hs : s.size ≤ maxLen) :
    Calls Tryz.prog 49 #[.string s] w fun e w' => e = .returned (.bool (nameB s)) ∧ Below w.heap.size w w' := by
  cases h1 : wordB s && lowB (fst s) <;> cases h2 : kwB s
  all_goals
    go_enter Tryz.func49, Tryz.ntmps49
    go_wp2_with (first | (go_at_call 114; refine (l01Word _ _ lowB _ hs cls_one).mono ?_; rintro e w' ⟨rfl, rfl⟩) | (go_at_call 115; refine (l01Kept _ _).mono ?_; rintro e w1 ⟨rfl, hg⟩))
    go_ret
    refine ⟨ret_bool (by rw [nameB, ← Bool.and_assoc, h1, h2]; rfl), ?_⟩
    first | exact Below.refl _ _ | assumption
theorem sConOk (s : ByteArray) (w : World) (hs : s.size ≤ maxLen) :
    Calls Tryz.prog 116 #[.string s] w fun e w' => e = .returned (.bool (conB s)) ∧ w = w' := by
  go_enter Tryz.func116, Tryz.ntmps116
  go_wp2_with (go_at_call 114; refine (l01Word _ _ upB _ hs cls_two).mono ?_; rintro e w' ⟨rfl, rfl⟩)
  go_ret
  exact ⟨rfl, rfl⟩
theorem word_pos (s : ByteArray) (h : wordB s = true) : 0 < s.size := by
  simp [wordB, lenB] at h; omega
theorem iConOk (s : ByteArray) (w : World) (hs : s.size ≤ maxLen) :
    Calls Tryz.prog 184 #[.string s] w fun e w' => e = .returned (.bool (conB s)) ∧ w = w' := by
  cases h1 : wordB s
  · go_enter Tryz.func184, Tryz.ntmps184
    go_wp2_with (go_at_call 188; refine (isWord _ _ hs).mono ?_; rintro e w' ⟨rfl, rfl⟩)
    go_ret
    exact ⟨ret_bool (by rw [conB, h1]; rfl), rfl⟩
  · have h0 := word_pos s h1
    have hf := Lib.hid (fst_get s h0)
    go_enter Tryz.func184, Tryz.ntmps184
    go_wp2_with (first | (go_at_call 188; refine (isWord _ _ hs).mono ?_; rintro e w' ⟨rfl, rfl⟩) | (go_at_call 220; refine (isUpper _ _ (byte_bd _)).mono ?_; rintro e w' ⟨rfl, rfl⟩))
    go_ret
    exact ⟨ret_bool (by rw [conB, h1, hf.out]; rfl), rfl⟩
theorem iNameOk (s : ByteArray) (w : World) (hs : s.size ≤ maxLen) :
    Calls Tryz.prog 135 #[.string s] w fun e w' => e = .returned (.bool (nameB s)) ∧ w = w' := by
  cases h1 : wordB s
  · go_enter Tryz.func135, Tryz.ntmps135
    go_wp2_with (go_at_call 188; refine (isWord _ _ hs).mono ?_; rintro e w' ⟨rfl, rfl⟩)
    go_ret
    exact ⟨ret_bool (by rw [nameB, h1]; rfl), rfl⟩
  · have h0 := word_pos s h1
    have hf := Lib.hid (fst_get s h0)
    cases h2 : lowB (s[0].toNat : Int) <;> cases h3 : kwB s
    all_goals
      go_enter Tryz.func135, Tryz.ntmps135
      go_wp2_with (first | (go_at_call 188; refine (isWord _ _ hs).mono ?_; rintro e w' ⟨rfl, rfl⟩) | (go_at_call 189; refine (isLower _ _ (byte_bd _)).mono ?_; rintro e w' ⟨rfl, rfl⟩) | (go_at_call 190; refine (isKeyword _ _).mono ?_; rintro e w' ⟨rfl, rfl⟩))
      go_ret
      exact ⟨ret_bool (by rw [nameB, h1, hf.out, h2, h3]; rfl), rfl⟩
end Go.Proofs.YtbehcmogndpkhaaGreatDoor
namespace Go.Proofs.YtbehcmogndpkhaaGreatDoor
set_option linter.unusedVariables false
set_option maxRecDepth 100000
open Go.ChangeShapes Go.WideShapes Go.ChangeAt Go.RowKit

theorem sItem (x : TyI) (w : World) (hs : x.name.size ≤ maxLen) :
    Calls Tryz.prog 174 #[.agg #[.int .i64 x.var, .string x.name, .int .i64 x.arity]] w fun e w' => e = .returned (.bool (itemB x)) ∧ Below w.heap.size w w' := by
  by_cases hn : x.name.toList = []
  · have h1 : x.name.toList.isEmpty = true := by simp [hn]
    have HB := Lib.hid (show itemB x = (decide (0 ≤ x.var) && (decide (x.var ≤ 9999) && decide (x.arity = 0))) from by rw [itemB, if_pos hn])
    go_enter Tryz.func174, Tryz.ntmps174
    go_wp2
    all_goals
      go_ret
      refine ⟨ret_bool ?_, Joins.below_alloc1 w _⟩
      rw [HB.out]
      first | (rw [Bool.eq_iff_iff]; simp; omega) | (simp; omega)
  · have h1 : x.name.toList.isEmpty = false := by simpa using hn
    by_cases hv : x.var = 0
    · have hv1 : (x.var == 0) = true := by simpa using hv
      have hv2 : (x.var != 0) = false := by simpa using hv
      by_cases ha : x.name.toList = [45, 62] ∨ x.name.toList = [42]
      · have HB := Lib.hid (show itemB x = decide (x.arity = 2) from by rw [itemB, if_neg hn, if_pos hv, if_pos ha])
        clear hv
        rcases ha with ha | ha
        all_goals
          go_enter Tryz.func174, Tryz.ntmps174
          go_wp2
          all_goals
            go_ret
            refine ⟨ret_bool ?_, Joins.below_alloc1 w _⟩
            rw [HB.out]
            rw [Bool.eq_iff_iff]; simp
      · obtain ⟨ha1, ha2⟩ := not_or.1 ha
        have hb1 : (x.name.toList == [45, 62]) = false := by simpa using ha1
        have hb2 : (x.name.toList == [42]) = false := by simpa using ha2
        by_cases hr : x.name.toList = [114, 101, 102]
        · have HB := Lib.hid (show itemB x = decide (x.arity = 1) from by rw [itemB, if_neg hn, if_pos hv, if_neg ha, if_pos hr])
          clear hv ha
          go_enter Tryz.func174, Tryz.ntmps174
          go_wp2
          go_ret
          refine ⟨ret_bool ?_, Joins.below_alloc1 w _⟩
          rw [HB.out]
          rw [Bool.eq_iff_iff]; simp
        · have hr1 : (x.name.toList == [114, 101, 102]) = false := by simpa using hr
          have HB := Lib.hid (show itemB x = (nameB x.name && (decide (0 ≤ x.arity) && decide (x.arity ≤ 2))) from by rw [itemB, if_neg hn, if_pos hv, if_neg ha, if_neg hr])
          clear hv ha hr
          go_enter Tryz.func174, Tryz.ntmps174
          go_wp2_with fail
          refine (sNameOk _ _ hs).mono ?_
          rintro e w1 ⟨rfl, hb⟩
          obtain ⟨hc, hf⟩ := bcell hb
          generalize nameB x.name = nb at *
          cases nb
          all_goals
            go_wp2
            all_goals
              go_ret
              refine ⟨ret_bool ?_, below_tr (Joins.below_alloc1 w _) hb⟩
              rw [HB.out]
              first | (simp; done) | (rw [Bool.eq_iff_iff]; simp; omega) | (simp; omega)
    · have hv2 : (x.var != 0) = true := by simpa using hv
      have HB := Lib.hid (show itemB x = false from by rw [itemB, if_neg hn, if_neg hv])
      clear hv
      go_enter Tryz.func174, Tryz.ntmps174
      go_wp2
      go_ret
      exact ⟨ret_bool HB.out.symm, Joins.below_alloc1 w _⟩
theorem sEnd : ∀ (f : Nat) (l : List TyI) (v : Value) (a : Int) (w : World) (hR : RowRd 3 TyIEl w v l) (ha : I64 a) (hf : a < 0 ∨ (l.length : Int) < a + f),
    Calls Tryz.prog 54 #[.agg #[v], .int .i64 a] w fun e w' => e = .returned (.int .i64 (endF f l a)) ∧ Below w.heap.size w w' := by
  intro f
  induction f with
  | zero =>
    intro l v a w hR ha hf
    obtain ⟨p, cap, rfl, hm, _⟩ := hR.form
    have HB := Lib.hid (endF_out 0 l a (by omega))
    obtain ⟨ha1, ha2⟩ := ha
    unfold maxLen at hm
    by_cases h0 : a < 0
    · go_enter Tryz.func54, Tryz.ntmps54
      go_wp2
      go_ret
      exact ⟨ret_int' HB.out.symm, Joins.below_alloc1 w _⟩
    · have h1 : (l.length : Int) ≤ a := by omega
      go_enter Tryz.func54, Tryz.ntmps54
      go_wp2
      go_ret
      exact ⟨ret_int' HB.out.symm, Joins.below_alloc1 w _⟩
  | succ f ih =>
    intro l v a w hR ha hf
    have hR0 := hR
    obtain ⟨p, cap, rfl, hm, hR⟩ := hR.form
    obtain ⟨ha1, ha2⟩ := ha
    unfold maxLen at hm
    by_cases h0 : a < 0
    · have HB := Lib.hid (endF_out (f + 1) l a (.inl h0))
      go_enter Tryz.func54, Tryz.ntmps54
      go_wp2
      go_ret
      exact ⟨ret_int' HB.out.symm, Joins.below_alloc1 w _⟩
    by_cases h1 : (l.length : Int) ≤ a
    · have HB := Lib.hid (endF_out (f + 1) l a (.inr h1))
      go_enter Tryz.func54, Tryz.ntmps54
      go_wp2
      go_ret
      exact ⟨ret_int' HB.out.symm, Joins.below_alloc1 w _⟩
    obtain ⟨n, rfl⟩ : ∃ n : Nat, a = n := ⟨a.toNat, by omega⟩
    have hn : n < l.length := by omega
    have HB := Lib.hid (endF_in f l n hn)
    have hfl : (l.length : Int) < (n : Int) + 1 + f := by omega
    have h2 : (n : Int) < l.length := by omega
    clear h0 h1 hf
    have hnb : decide ((n : Int) < 0) = false := by simp
    have hnc : decide (l.length ≤ n) = false := by simp; omega
    obtain ⟨b, o, rfl, hbw, hc⟩ := hR (by omega)
    have ex := hc n hn
    clear hc hR
    generalize l[n] = x at *
    obtain ⟨⟨e0, i0⟩, ⟨e1, i1⟩, ⟨e2, i2⟩⟩ := ex
    obtain ⟨i2a, i2b⟩ := i2
    go_enter Tryz.func54, Tryz.ntmps54
    go_wp2
    go_loopw [5, 6] (fun nx i wr => ∃ k : Nat, i = .int .i64 k ∧ nx = .int .i64 (iterE (endF f l) k ((n : Int) + 1)) ∧ k ≤ x.arity.toNat ∧ Below (w.alloc (.cells #[.slice (some ⟨b, o, none⟩) l.length cap] 55)).heap.size (w.alloc (.cells #[.slice (some ⟨b, o, none⟩) l.length cap] 55)) wr) (fun _ i _ => x.arity.toNat - (intOf i).toNat)
    case atStart => exact ⟨0, rfl, rfl, Nat.zero_le _, Below.refl _ _⟩
    case round =>
      obtain ⟨k, rfl, rfl, hk, hbel⟩ := hrel
      obtain ⟨hcl, hfr⟩ := bcell hbel
      have hsz := hbel.size
      simp at hsz
      have c0 : wr.cell? ⟨w.heap.size, 0, none⟩ = some (.slice (some ⟨b, o, none⟩) l.length cap) := by rw [hcl _ _ (by simp)]; simp
      have c2 : wr.cell? ⟨b, o + n * 3 + 2, none⟩ = some (.int .i64 x.arity) := by rw [hcl _ _ (by simp; omega)]; exact ((Kept.alloc w _).cell b _ hbw).trans e2
      clear hcl hfr
      have hbd := iter_gt f l k ((n : Int) + 1) (by omega)
      have hle := iter_le f l k ((n : Int) + 1) (by omega)
      have HS := Lib.hid (iterE_snoc (endF f l) k ((n : Int) + 1))
      have HM := Lib.hid (fun m => iterE_more (endF f l) k m ((n : Int) + 1))
      obtain ⟨N, hN⟩ : ∃ N, N = iterE (endF f l) k ((n : Int) + 1) := ⟨_, rfl⟩
      rw [← hN] at hbd hle ⊢
      have HN := Lib.hid hN
      clear hN e0 e1 e2
      by_cases hlt : (k : Int) < x.arity
      · by_cases hneg : N < 0
        · go_wp2
          go_ret
          refine ⟨ret_int' ?_, (Joins.below_alloc1 w _).trans (hbel.mono (by simp))⟩
          rw [HB.out, HM.out _ (by rw [← HN.out]; exact hneg) (by omega), HN.out]
        · have hN0 : 0 ≤ N := by omega
          go_wp2_with fail
          refine (ih l _ N _ (hR0.kept TyIEl.st ((Kept.alloc _ _).trans (Kept.of_below hbel))) ⟨by omega, by omega⟩ (by omega)).mono ?_
          rintro e w1 ⟨rfl, hb1⟩
          go_wp2
          go_roundw
          case rel => exact ⟨k + 1, by go_num, by rw [HS.out, ← HN.out, if_neg (show ¬ N < 0 by omega)], by omega, below_tr hbel hb1⟩
          case measure => simp [intOf]; omega
      · go_wp2
        go_ret
        refine ⟨ret_int' ?_, (Joins.below_alloc1 w _).trans (hbel.mono (by simp))⟩
        rw [HB.out, show x.arity.toNat = k from by omega, HN.out]
theorem all_snoc {α : Type} (f : α → Bool) (l : List α) (k : Nat) (h : k < l.length) (h0 : (l.take k).all f = true) (h1 : f l[k] = true) : (l.take (k + 1)).all f = true := by
  rw [List.take_succ_eq_append_getElem h, List.all_append, h0]; simp [h1]
theorem all_no {α : Type} (f : α → Bool) (l : List α) (k : Nat) (h : k < l.length) (h1 : f l[k] = false) : l.all f = false := by
  rw [List.all_eq_false]; exact ⟨_, List.getElem_mem h, by simp [h1]⟩
theorem sTyOk (l : List TyI) (v : Value) (w : World) (hR : RowRd 3 TyIEl w v l) :
    Calls Tryz.prog 117 #[.agg #[v]] w fun e w' => e = .returned (.bool (tyOkB l)) ∧ Below w.heap.size w w' := by
  have hR0 := hR
  obtain ⟨p, cap, rfl, hm, hR⟩ := hR.form
  unfold maxLen at hm
  by_cases h0 : 200 < (l.length : Int)
  · have HB := Lib.hid (show tyOkB l = false from by simp [tyOkB]; omega)
    go_enter Tryz.func117, Tryz.ntmps117
    go_wp2
    go_ret
    exact ⟨ret_bool HB.out.symm, Joins.below_alloc1 w _⟩
  · have hlb : decide (200 < (l.length : Int)) = false := by simp; omega
    go_enter Tryz.func117, Tryz.ntmps117
    go_wp2
    go_loopw [12] (fun i wr => ∃ k : Nat, i = .int .i64 k ∧ k ≤ l.length ∧ (l.take k).all itemB = true ∧ Below (w.alloc (.cells #[.slice p l.length cap] 55)).heap.size (w.alloc (.cells #[.slice p l.length cap] 55)) wr) (fun i _ => l.length - (intOf i).toNat)
    case atStart => exact ⟨0, rfl, Nat.zero_le _, rfl, Below.refl _ _⟩
    case round =>
      obtain ⟨k, rfl, hk, hall, hbel⟩ := hrel
      have HA := Lib.hid hall
      clear hall
      have hsz := hbel.size
      simp at hsz
      by_cases hlt : k < l.length
      · obtain ⟨b, o, rfl, hbw, hc⟩ := hR (by omega)
        have ex := TyIEl.st w wr b _ _ ((Kept.alloc _ _).trans (Kept.of_below hbel)) hbw (hc k hlt)
        clear hc hR
        have hno := all_no itemB l k hlt
        have hyes := all_snoc itemB l k hlt HA.out
        have HN := Lib.hid hno
        have HY := Lib.hid hyes
        clear hno hyes
        generalize l[k] = x at *
        obtain ⟨⟨e0, i0⟩, ⟨e1, i1⟩, ⟨e2, i2⟩⟩ := ex
        go_wp2_with fail
        refine (sItem _ _ i1).mono ?_
        rintro e w1 ⟨rfl, hb1⟩
        cases hx : itemB x
        · go_wp2
          go_ret
          exact ⟨ret_bool (by simp [tyOkB, HN.out hx]), ((Joins.below_alloc1 w _).trans (hbel.mono (by simp))).trans ((((Below.refl _ _).alloc (Nat.le_refl _) _).trans (hb1.mono (by simp))).mono (by omega))⟩
        · go_wp2
          go_roundw
          case rel => exact ⟨k + 1, by go_num, by omega, HY.out hx, hbel.trans ((((Below.refl _ _).alloc (Nat.le_refl _) _).trans (hb1.mono (by simp))).mono (by simp; omega))⟩
          case measure => simp [intOf]; omega
      · obtain rfl : k = l.length := by omega
        rw [List.take_length] at HA
        have HB := Lib.hid (show tyOkB l = decide (endF (l.length + 1) l 0 = (l.length : Int)) from by simp [tyOkB, HA.out]; omega)
        obtain ⟨hcl, hfr⟩ := bcell hbel
        have c0 : wr.cell? ⟨w.heap.size, 0, none⟩ = some (.slice p l.length cap) := by rw [hcl _ _ (by simp)]; simp
        clear hcl hfr hR
        have hlt0 : w.heap.size < wr.heap.size := by omega
        have HE := fun W (hK : Kept wr W) => Lib.hid (sEnd (l.length + 1) l _ 0 W ((hR0.kept TyIEl.st ((Kept.alloc _ _).trans (Kept.of_below hbel))).kept TyIEl.st hK) ⟨by omega, by omega⟩ (by omega))
        go_wp2_with fail
        go_region_held3 (fun w' => w'.cell? ⟨w.heap.size, 0, none⟩ = some (.slice p l.length cap) ∧ Kept wr w')
          (first | exact ⟨c0, Kept.refl _⟩ | exact ⟨c0, Kept.drew _⟩ | exact ⟨(hb1.cell (p := ⟨w.heap.size, 0, none⟩) hlt0).trans c0, (Kept.drew _).trans (Kept.of_below hb1)⟩)
          ((go_at_call 54; refine (HE _ (by first | exact Kept.drew _ | exact Kept.refl _)).out.mono ?_; rintro e w1 ⟨rfl, hb1⟩))
        go_wp2
        go_ret
        refine ⟨ret_bool ?_, (Joins.below_alloc1 w _).trans (hbel.drew.trans (hb1.mono (by simp; omega)) |>.mono (by simp))⟩
        rw [HB.out, Bool.eq_iff_iff]; simp
theorem sTyOkC (l : List TyI) (v : Value) (w : World) (hR : RowRd 3 TyIEl w v l) (hz : bTy l ≤ 1048576) :
    Calls Tryz.prog 117 #[.agg #[v]] w fun e w' => e = .returned (.bool (tyOkB l)) ∧ Below w.heap.size w w' := sTyOk l v w hR
end Go.Proofs.YtbehcmogndpkhaaGreatDoor
namespace Go.Proofs.YtbehcmogndpkhaaGreatDoor
set_option linter.unusedVariables false
set_option maxRecDepth 100000
open Go.ChangeShapes Go.WideShapes Go.ChangeAt Go.RowKit

theorem sConOk4 (s : ByteArray) (n : Int) (p : Bool) (w : World) (hs : s.size ≤ maxLen) (hn : 0 ≤ n) :
    Calls Tryz.prog 119 #[.string s, .int .i64 n, .bool p] w fun e w' => e = .returned (.bool (conOkB s n p)) ∧ w = w' := by
  by_cases h1 : s.toList = [58, 58]
  · have HB := Lib.hid (show conOkB s n p = (decide (n = 1) && p) from by rw [conOkB, if_pos h1])
    cases p
    all_goals
      go_enter Tryz.func119, Tryz.ntmps119
      go_wp2
      all_goals
        go_ret
        refine ⟨ret_bool ?_, rfl⟩
        rw [HB.out]
        first | (simp; done) | (rw [Bool.eq_iff_iff]; simp; done) | (simp; omega)
  · have b1 : (s.toList == [58, 58]) = false := by simpa using h1
    by_cases h2 : s.toList = [116, 114, 117, 101] ∨ (s.toList = [102, 97, 108, 115, 101] ∨ s.toList = [91, 93])
    · have HB := Lib.hid (show conOkB s n p = decide (n = 0) from by rw [conOkB, if_neg h1, if_pos h2])
      clear h1
      rcases h2 with h | h | h
      all_goals
        clear b1
        go_enter Tryz.func119, Tryz.ntmps119
        go_wp2
        go_ret
        refine ⟨ret_bool ?_, rfl⟩
        rw [HB.out, Bool.eq_iff_iff]; simp
    · obtain ⟨g1, g2⟩ := not_or.1 h2
      obtain ⟨g3, g4⟩ := not_or.1 g2
      have b2 : (s.toList == [116, 114, 117, 101]) = false := by simpa using g1
      have b3 : (s.toList == [102, 97, 108, 115, 101]) = false := by simpa using g3
      have b4 : (s.toList == [91, 93]) = false := by simpa using g4
      have HB := Lib.hid (show conOkB s n p = (conB s && decide (n ≤ 1)) from by rw [conOkB, if_neg h1, if_neg h2])
      clear h1 h2 g1 g2 g3 g4
      go_enter Tryz.func119, Tryz.ntmps119
      go_wp2_with fail
      refine (sConOk _ _ hs).mono ?_
      rintro e w1 ⟨rfl, rfl⟩
      generalize conB s = c at *
      cases c
      all_goals
        go_wp2
        all_goals
          go_ret
          refine ⟨ret_bool ?_, rfl⟩
          rw [HB.out]
          first | (simp; done) | (rw [Bool.eq_iff_iff]; simp; done) | (simp; omega)
set_option maxHeartbeats 4000000 in
theorem sPNode (q : List PN) (v : Value) (k n : Int) (s : ByteArray) (kids : List Int) (u : Value) (w : World) (hq : RowRd 4 PNEl w v q) (hk : RowRd 1 IntEl w u kids) (hs : s.size ≤ maxLen) :
    Calls Tryz.prog 175 #[.agg #[v], .agg #[.int .i64 k, .int .i64 n, .string s, u]] w fun e w' => e = .returned (.bool (pnodeB (pairB q kids) k n s kids.length)) ∧ Below w.heap.size w w' := by
  obtain ⟨a, cap, rfl, hm, hqf⟩ := hq.form
  obtain ⟨b, cap', rfl, hm', hkf⟩ := hk.form
  clear hq hk
  have hq := hqf
  have hk := hkf
  clear hqf hkf
  unfold maxLen at hm hm'
  have hT : (∃ y : Int, kids = [y]) ∨ kids.length ≠ 1 := by
    match kids with
    | [] => right; simp
    | [y] => left; exact ⟨y, rfl⟩
    | _ :: _ :: _ => right; simp
  go_enter Tryz.func175, Tryz.ntmps175
  go_upto_region 1 with fail
  go_cut [5] (fun s5 wx => s5 = .bool (pairB q kids) ∧ wx.cell? ⟨w.heap.size + 1, 0, none⟩ = some (.int .i64 k) ∧ wx.cell? ⟨w.heap.size + 1, 1, none⟩ = some (.int .i64 n) ∧ wx.cell? ⟨w.heap.size + 1, 2, none⟩ = some (.string s) ∧ wx.cell? ⟨w.heap.size + 1, 3, none⟩ = some (.slice b kids.length cap') ∧ Below w.heap.size w wx ∧ w.heap.size + 1 < wx.heap.size)
  case first =>
    rcases hT with ⟨y, rfl⟩ | hT
    · obtain ⟨bk, ok, rfl, hbk, hck⟩ := hk (by simp)
      obtain ⟨e0, i0, i1⟩ := hck 0 (by simp)
      simp only [List.getElem_cons_zero, Nat.zero_mul, Nat.add_zero] at e0 i0 i1
      clear hck hk
      by_cases h0 : y < 0
      · have HP := Lib.hid (show pairB q [y] = false from by rw [pairB]; simp; omega)
        have d0 : decide (0 ≤ y) = false := by simp; omega
        go_quiet (fail)
        all_goals (go_wp2_with fail; go_meet; exact ⟨by rw [HP.out], by simp, by simp, by simp, by simp, below_drewN (Joins.below_alloc2 w _ _) _, by simp⟩)
      · obtain ⟨m, rfl⟩ : ∃ m : Nat, y = m := ⟨y.toNat, by omega⟩
        have d0 : decide (0 ≤ (m : Int)) = true := by simp
        by_cases h1 : m < q.length
        · obtain ⟨bq, oq, rfl, hbq, hcq⟩ := hq (by omega)
          have ex := hcq m h1
          have HP := Lib.hid (show pairB q [(m : Int)] = (q[m].kind == 5) from by rw [pairB]; simp [h1]; rw [Bool.eq_iff_iff]; simp)
          clear hcq hq
          generalize q[m] = x at *
          obtain ⟨⟨f0, j0⟩, _⟩ := ex
          have d1 : decide (m < q.length) = true := by simpa using h1
          cases hx : (x.kind == 5)
          all_goals
            go_quiet (fail)
            all_goals (go_wp2_with fail; go_meet; exact ⟨by rw [HP.out, hx], by simp, by simp, by simp, by simp, below_drewN (Joins.below_alloc2 w _ _) _, by simp⟩)
        · have HP := Lib.hid (show pairB q [(m : Int)] = false from by rw [pairB]; simp [List.getElem?_eq_none (Nat.le_of_not_lt h1)])
          have d1 : decide (m < q.length) = false := by simpa using h1
          go_quiet (fail)
          all_goals (go_wp2_with fail; go_meet; exact ⟨by rw [HP.out], by simp, by simp, by simp, by simp, below_drewN (Joins.below_alloc2 w _ _) _, by simp⟩)
    · have HP := Lib.hid (show pairB q kids = false from by
        match kids, hT with
        | [], _ => rfl
        | [y], h => simp at h
        | _ :: _ :: _, _ => rfl)
      have d0 : ((kids.length : Int) == 1) = false := by simp; omega
      have HT := Lib.hid hT
      clear hT
      go_quiet (fail)
      all_goals (go_wp2_with fail; go_meet; exact ⟨by rw [HP.out], by simp, by simp, by simp, by simp, below_drewN (Joins.below_alloc2 w _ _) _, by simp⟩)
  case rest =>
    obtain ⟨rfl, c0, c1, c2, c3, hbel, hsz⟩ := hcut
    clear hT hk hq
    have hkc : k = 1 ∨ k = 6 ∨ k = 5 ∨ k = 2 ∨ k = 3 ∨ k = 4 ∨ (¬ k = 1 ∧ ¬ k = 6 ∧ ¬ k = 5 ∧ ¬ k = 2 ∧ ¬ k = 3 ∧ ¬ k = 4) := by omega
    rcases hkc with rfl | rfl | rfl | rfl | rfl | rfl | ⟨g1, g2, g3, g4, g5, g6⟩
    iterate 3
      · by_cases hn : n = 0
        · subst hn
          by_cases he : s.toList = []
          · have he1 : s.toList.isEmpty = true := by simp [he]
            go_wp2
            all_goals
              go_ret
              refine ⟨ret_bool ?_, hbel⟩
              first | (simp [pnodeB, he]; done) | (rw [Bool.eq_iff_iff]; simp [pnodeB, he]; done) | (simp [pnodeB, he]; omega)
          · have he1 : s.toList.isEmpty = false := by simpa using he
            go_wp2
            all_goals
              go_ret
              refine ⟨ret_bool ?_, hbel⟩
              simp [pnodeB, he]
        · have hn1 : (n == 0) = false := by simpa using hn
          have HN := Lib.hid hn
          clear hn
          go_wp2
          all_goals
            go_ret
            refine ⟨ret_bool ?_, hbel⟩
            simp [pnodeB, HN.out]
    · by_cases hn : n = 0
      · subst hn
        go_wp2_with fail
        refine (sNameOk _ _ hs).mono ?_
        rintro e w1 ⟨rfl, hb1⟩
        have d3 := (hb1.cell (p := ⟨w.heap.size + 1, 3, none⟩) hsz).trans c3
        cases hx : nameB s
        all_goals
          go_wp2
          all_goals
            go_ret
            refine ⟨ret_bool ?_, below_tr hbel hb1⟩
            first | (simp [pnodeB, hx]; done) | (rw [Bool.eq_iff_iff]; simp [pnodeB, hx]; done) | (rw [Bool.eq_iff_iff]; simp [pnodeB, hx]; omega)
      · have hn1 : (n == 0) = false := by simpa using hn
        have HN := Lib.hid hn
        clear hn
        go_wp2
        all_goals
          go_ret
          refine ⟨ret_bool ?_, hbel⟩
          simp [pnodeB, HN.out]
    · by_cases he : s.toList = []
      · have he1 : s.toList.isEmpty = true := by simp [he]
        by_cases hlo : n < -4611686018427387903
        · go_wp2
          all_goals
            go_ret
            refine ⟨ret_bool ?_, hbel⟩
            first | (simp [pnodeB, he]; done) | (simp [pnodeB, he]; omega)
        · by_cases hhi : 4611686018427387903 < n
          · go_wp2
            all_goals
              go_ret
              refine ⟨ret_bool ?_, hbel⟩
              first | (simp [pnodeB, he]; done) | (simp [pnodeB, he]; omega)
          · go_wp2
            all_goals
              go_ret
              refine ⟨ret_bool ?_, hbel⟩
              first | (rw [Bool.eq_iff_iff]; simp [pnodeB, he]; omega) | (rw [Bool.eq_iff_iff]; simp [pnodeB, he, hlo, hhi]; done) | (rw [Bool.eq_iff_iff]; simp [pnodeB, he]; intros; omega)
      · have he1 : s.toList.isEmpty = false := by simpa using he
        go_wp2
        all_goals
          go_ret
          refine ⟨ret_bool ?_, hbel⟩
          simp [pnodeB, he]
    · by_cases hn : n = 0
      · subst hn
        go_wp2_with fail
        refine (sConOk4 _ _ _ _ hs (by omega)).mono ?_
        rintro e w1 ⟨rfl, rfl⟩
        go_wp2
        all_goals
          go_ret
          refine ⟨ret_bool ?_, hbel⟩
          simp [pnodeB]
      · have hn1 : (n == 0) = false := by simpa using hn
        have HN := Lib.hid hn
        clear hn
        go_wp2
        all_goals
          go_ret
          refine ⟨ret_bool ?_, hbel⟩
          simp [pnodeB, HN.out]
    · have b1 : (k == 1) = false := by simpa using g1
      have b2 : (k == 2) = false := by simpa using g4
      have b3 : (k == 3) = false := by simpa using g5
      have b4 : (k == 4) = false := by simpa using g6
      have b5 : (k == 5) = false := by simpa using g3
      have b6 : (k == 6) = false := by simpa using g2
      have HF := Lib.hid (show pnodeB (pairB q kids) k n s (kids.length : Int) = false from by simp [pnodeB, g1, g2, g3, g4, g5, g6])
      clear g1 g2 g3 g4 g5 g6
      go_wp2
      all_goals
        go_ret
        exact ⟨ret_bool HF.out.symm, hbel⟩
theorem sPEnd : ∀ (f : Nat) (q : List PN) (v : Value) (a : Int) (w : World) (hR : RowRd 4 PNEl w v q) (ha : 0 ≤ a) (ha2 : a ≤ 9223372036854775807) (hf : (q.length : Int) < a + f),
    Calls Tryz.prog 176 #[.agg #[v], .int .i64 a] w fun e w' => e = .returned (.int .i64 (pendF f (q.map PN.kids) a)) ∧ Below w.heap.size w w' := by
  intro f
  induction f with
  | zero =>
    intro l v a w hR ha ha2 hf
    obtain ⟨p, cap, rfl, hm, _⟩ := hR.form
    have HB := Lib.hid (pendF_out 0 (l.map PN.kids) a (by rw [List.length_map]; omega))
    unfold maxLen at hm
    have h1 : (l.length : Int) ≤ a := by omega
    go_enter Tryz.func176, Tryz.ntmps176
    go_wp2
    go_ret
    exact ⟨ret_int' HB.out.symm, Joins.below_alloc1 w _⟩
  | succ f ih =>
    intro l v a w hR ha ha2 hf
    have hR0 := hR
    obtain ⟨p, cap, rfl, hm, hRf⟩ := hR.form
    clear hR
    unfold maxLen at hm
    by_cases h1 : (l.length : Int) ≤ a
    · have HB := Lib.hid (pendF_out (f + 1) (l.map PN.kids) a (by rw [List.length_map]; omega))
      go_enter Tryz.func176, Tryz.ntmps176
      go_wp2
      go_ret
      exact ⟨ret_int' HB.out.symm, Joins.below_alloc1 w _⟩
    obtain ⟨n, rfl⟩ : ∃ n : Nat, a = n := ⟨a.toNat, by omega⟩
    have hn : n < l.length := by omega
    have hB := pendF_in f (l.map PN.kids) n (by rw [List.length_map]; exact hn)
    rw [List.getElem_map] at hB
    have hfl : (l.length : Int) < (n : Int) + 1 + f := by omega
    clear h1 hf ha
    obtain ⟨b, o, rfl, hbw, hc⟩ := hRf (by omega)
    have ex := hc n hn
    clear hc hRf
    generalize l[n] = x at *
    have HB := Lib.hid hB
    clear hB
    obtain ⟨⟨e0, i0⟩, ⟨e1, i1⟩, ⟨e2, i2⟩, ⟨u, e3, r3⟩⟩ := ex
    have r3' := r3
    obtain ⟨bk, ck, rfl, hmk, hk⟩ := r3.form
    clear r3
    unfold maxLen at hmk
    have hnc : decide (l.length ≤ n) = false := by simp; omega
    go_enter Tryz.func176, Tryz.ntmps176
    go_wp2
    go_loopw [5, 22] (fun nx i wr => ∃ (k : Nat) (N : Int), i = .int .i64 k ∧ nx = .int .i64 N ∧ k ≤ x.kids.length ∧ pendF (f + 1) (l.map PN.kids) (n : Int) = kidsE (pendF f (l.map PN.kids)) (x.kids.drop k) N ∧ (n : Int) + 1 ≤ N ∧ N ≤ l.length ∧ Below (w.alloc (.cells #[.slice (some ⟨b, o, none⟩) l.length cap] 123)).heap.size (w.alloc (.cells #[.slice (some ⟨b, o, none⟩) l.length cap] 123)) wr) (fun _ i _ => x.kids.length - (intOf i).toNat)
    case atStart => exact ⟨0, (n : Int) + 1, rfl, rfl, Nat.zero_le _, by rw [HB.out]; rfl, Int.le_refl _, by omega, Below.refl _ _⟩
    case round =>
      obtain ⟨k, N, rfl, rfl, hkl, hE, hN1, hN2, hbel⟩ := hrel
      have HE := Lib.hid hE
      clear hE
      obtain ⟨hcl, hfr⟩ := bcell hbel
      have hsz := hbel.size
      simp at hsz
      have c0 : wr.cell? ⟨w.heap.size, 0, none⟩ = some (.slice (some ⟨b, o, none⟩) l.length cap) := by rw [hcl _ _ (by simp)]; simp
      have hK : Kept w wr := (Kept.alloc _ _).trans (Kept.of_below hbel)
      clear hcl hfr e0 e1 e2 e3
      by_cases hlt : k < x.kids.length
      · obtain ⟨b2, o2, rfl, hb2, hc2⟩ := hk (by omega)
        obtain ⟨g0, j0, j1⟩ := IntEl.st w wr b2 _ _ hK hb2 (hc2 k hlt)
        rw [Nat.mul_one] at g0
        have HNo := Lib.hid (kidsE_no (pendF f (l.map PN.kids)) x.kids k hlt)
        have HNeg := Lib.hid (kidsE_neg (pendF f (l.map PN.kids)) x.kids k hlt)
        have HSt := Lib.hid (kidsE_step (pendF f (l.map PN.kids)) x.kids k hlt)
        clear hc2 hk
        generalize x.kids[k] = y at *
        by_cases hy : y = N
        · subst hy
          have hyy : (y != y) = false := by simp
          go_wp2_with fail
          refine (ih l _ y _ (hR0.kept PNEl.st hK) (by omega) (by omega) (by omega)).mono ?_
          rintro e w1 ⟨rfl, hb1⟩
          have hgt := pendF_gt f (l.map PN.kids) y
          have hle := pendF_le f (l.map PN.kids) y
          rw [List.length_map] at hle
          obtain ⟨G, hG⟩ : ∃ G, G = pendF f (l.map PN.kids) y := ⟨_, rfl⟩
          rw [← hG] at hgt hle ⊢
          have HG := Lib.hid hG
          clear hG
          by_cases hneg : G < 0
          · go_wp2
            go_ret
            refine ⟨ret_int' ?_, (Joins.below_alloc1 w _).trans ((hbel.trans (hb1.mono (by simp; omega))).mono (by simp))⟩
            rw [HE.out, HNeg.out y rfl (by rw [← HG.out]; exact hneg)]
          · have hG0 : 0 ≤ G := by omega
            go_wp2
            go_roundw
            case rel => exact ⟨k + 1, G, by go_num, rfl, by omega, by rw [HE.out, HSt.out y rfl (by rw [← HG.out]; omega), HG.out], by omega, by omega, hbel.trans (hb1.mono (by simp; omega))⟩
            case measure => simp [intOf]; omega
        · have hyy : (y != N) = true := by simpa using hy
          have HY := Lib.hid hy
          clear hy
          go_wp2
          go_ret
          refine ⟨ret_int' ?_, (Joins.below_alloc1 w _).trans (hbel.mono (by simp))⟩
          rw [HE.out, HNo.out N HY.out]
      · obtain rfl : k = x.kids.length := by omega
        go_wp2
        go_ret
        refine ⟨ret_int' ?_, (Joins.below_alloc1 w _).trans (hbel.mono (by simp))⟩
        rw [HE.out, List.drop_length]; rfl
end Go.Proofs.YtbehcmogndpkhaaGreatDoor
namespace Go.Proofs.YtbehcmogndpkhaaGreatDoor
set_option linter.unusedVariables false
set_option maxRecDepth 100000
open Go.ChangeShapes Go.WideShapes Go.ChangeAt Go.RowKit

set_option maxHeartbeats 4000000 in
theorem sPatOk (q : List PN) (v : Value) (w : World) (hR : RowRd 4 PNEl w v q) :
    Calls Tryz.prog 120 #[.agg #[v]] w fun e w' => e = .returned (.bool (patOkB q)) ∧ Below w.heap.size w w' := by
  have hR0 := hR
  obtain ⟨p, cap, rfl, hm, hRf⟩ := hR.form
  clear hR
  unfold maxLen at hm
  by_cases h1 : q.length < 1
  · have HB := Lib.hid (show patOkB q = false from propB_f fun h => by have := h.1; omega)
    have h1' : (q.length : Int) < 1 := by omega
    go_enter Tryz.func120, Tryz.ntmps120
    go_wp2
    go_ret
    exact ⟨ret_bool HB.out.symm, Joins.below_alloc1 w _⟩
  by_cases h2 : 600 < q.length
  · have HB := Lib.hid (show patOkB q = false from propB_f fun h => by have := h.2.1; omega)
    have h1' : ¬ (q.length : Int) < 1 := by omega
    have h2' : 600 < (q.length : Int) := by omega
    go_enter Tryz.func120, Tryz.ntmps120
    go_wp2
    go_ret
    exact ⟨ret_bool HB.out.symm, Joins.below_alloc1 w _⟩
  have h1' : decide ((q.length : Int) < 1) = false := by simp; omega
  have h2' : decide (600 < (q.length : Int)) = false := by simp; omega
  have h3' : ¬ (q.length : Int) < 1 := by omega
  have h4' : ¬ 600 < (q.length : Int) := by omega
  have HL := Lib.hid (And.intro (show 1 ≤ q.length by omega) (show q.length ≤ 600 by omega))
  clear h1 h2
  go_enter Tryz.func120, Tryz.ntmps120
  go_wp2
  go_loopw [19] (fun i wr => ∃ k : Nat, i = .int .i64 k ∧ k ≤ q.length ∧ (∀ i (hi : i < k) (h : i < q.length), pnB q q[i] = true ∧ ∀ j (hj : j < i), ¬ clash q[i] q[j]) ∧ Below (w.alloc (.cells #[.slice p q.length cap] 123)).heap.size (w.alloc (.cells #[.slice p q.length cap] 123)) wr) (fun i _ => q.length - (intOf i).toNat)
  case atStart => exact ⟨0, rfl, Nat.zero_le _, fun i hi => absurd hi (by omega), Below.refl _ _⟩
  case round =>
    obtain ⟨k, rfl, hk, hall, hbel⟩ := hrel
    generalize wr = wo at *
    have HA := Lib.hid hall
    clear hall
    obtain ⟨hcl, hfr⟩ := bcell hbel
    have hsz := hbel.size
    simp at hsz
    have c0 : wo.cell? ⟨w.heap.size, 0, none⟩ = some (.slice p q.length cap) := by rw [hcl _ _ (by simp)]; simp
    have hK : Kept w wo := (Kept.alloc _ _).trans (Kept.of_below hbel)
    clear hcl hfr
    by_cases hlt : k < q.length
    · obtain ⟨b, o, rfl, hbw, hc⟩ := hRf (by omega)
      have HC := Lib.hid hc
      obtain ⟨⟨e0, i0⟩, ⟨e1, i1⟩, ⟨e2, i2⟩, ⟨u, e3, r3⟩⟩ := PNEl.st w wo b _ _ hK hbw (hc k hlt)
      clear hc hRf
      have r3' := r3
      obtain ⟨bk, ck, rfl, hmk, -⟩ := r3.form
      clear r3
      obtain ⟨x, hx⟩ : ∃ x, x = q[k] := ⟨_, rfl⟩
      rw [← hx] at e0 e1 e2 e3 i0 i1 i2 r3' hmk
      have HX := Lib.hid hx
      clear hx
      have hlt0 : w.heap.size < wo.heap.size := by omega
      have hne0 : w.heap.size ≠ wo.heap.size := by omega
      go_wp2_with fail
      refine (sPNode q _ _ _ _ x.kids _ _ (hR0.kept PNEl.st (hK.trans (Kept.alloc _ _))) (r3'.kept IntEl.st (Kept.alloc _ _)) i2).mono ?_
      rintro e w1 ⟨rfl, hb1⟩
      have hb1w : Below wo.heap.size wo w1 := below_tr (Joins.below_alloc1 wo _) hb1
      have hbel1 := hbel.trans (hb1w.mono (by simp; omega))
      have hs1 : wo.heap.size < w1.heap.size := by have := hb1.size; simp at this; omega
      have c1 := (hb1w.cell (p := ⟨w.heap.size, 0, none⟩) (by show w.heap.size < _; omega)).trans c0
      have x0 : w1.cell? ⟨wo.heap.size, 0, none⟩ = some (.int .i64 x.kind) := by rw [hb1.cell (p := ⟨wo.heap.size, 0, none⟩) (by simp)]; simp
      have x2 : w1.cell? ⟨wo.heap.size, 2, none⟩ = some (.string x.s) := by rw [hb1.cell (p := ⟨wo.heap.size, 2, none⟩) (by simp)]; simp
      have hK1 : Kept w w1 := hK.trans (Kept.of_below hb1w)
      clear e0 e1 e2 e3 c0 hb1
      have HP : Hid (pnodeB (pairB q x.kids) x.kind x.n x.s (x.kids.length : Int) = pnB q x) := Lib.hid rfl
      cases hnb : pnodeB (pairB q x.kids) x.kind x.n x.s (x.kids.length : Int)
      · have HB := Lib.hid (show patOkB q = false from propB_f fun h => by
          have := (h.2.2.1 k hlt).1
          rw [← HX.out, ← HP.out, hnb] at this; cases this)
        go_wp2
        go_ret
        exact ⟨ret_bool HB.out.symm, (Joins.below_alloc1 w _).trans (hbel1.mono (by simp))⟩
      · have HN := Lib.hid hnb
        clear hnb
        go_wp2
        go_loopw [5] (fun j wi => ∃ m : Nat, j = .int .i64 m ∧ m ≤ k ∧ (∀ j (hj : j < m) (h : j < q.length), ¬ clash x q[j]) ∧ Below w1.heap.size w1 wi) (fun j _ => k - (intOf j).toNat)
        case atStart => exact ⟨0, rfl, Nat.zero_le _, fun j hj => absurd hj (by omega), Below.refl _ _⟩
        case round =>
          obtain ⟨m, rfl, hmk2, hcl2, hbi⟩ := hrel
          have HCl := Lib.hid hcl2
          clear hcl2
          have y0 := (hbi.cell (p := ⟨wo.heap.size, 0, none⟩) hs1).trans x0
          have y2 := (hbi.cell (p := ⟨wo.heap.size, 2, none⟩) hs1).trans x2
          have d0 := (hbi.cell (p := ⟨w.heap.size, 0, none⟩) (by show w.heap.size < _; omega)).trans c1
          by_cases hmlt : m < k
          · obtain ⟨⟨f0, l0⟩, ⟨f1, l1⟩, ⟨f2, l2⟩, -⟩ := PNEl.st w wr b _ _ (hK1.trans (Kept.of_below hbi)) hbw (HC.out m (by omega))
            clear f1
            obtain ⟨y, hy⟩ : ∃ y, y = q[m]'(by omega) := ⟨_, rfl⟩
            rw [← hy] at f0 f2 l0 l1 l2
            have HY := Lib.hid hy
            clear hy
            have hmq : m < q.length := by omega
            by_cases hx2 : x.kind = 2
            · have t1 : (x.kind == 2) = true := by simpa using hx2
              by_cases hy2 : y.kind = 2
              · have t2 : (y.kind == 2) = true := by simpa using hy2
                by_cases hs : y.s = x.s
                · have t4 : (y.s.toList == x.s.toList) = true := by simp [hs]
                  have HB := Lib.hid (show patOkB q = false from propB_f fun h => by
                    have := (h.2.2.1 k hlt).2 m hmlt
                    rw [← HX.out, ← HY.out] at this
                    exact this ⟨hx2, hy2, hs⟩)
                  clear hx2 hy2 hs
                  go_wp2_with fail
                  go_quiet (fail)
                  go_wp2
                  go_ret
                  exact ⟨ret_bool HB.out.symm, below_drewN ((Joins.below_alloc1 w _).trans ((hbel1.trans (hbi.mono (by simp; omega))).mono (by simp))) _⟩
                · have t4 : (y.s.toList == x.s.toList) = false := by rw [Bool.eq_false_iff]; intro h; exact hs (toL_inj (by simpa using h))
                  have HS := Lib.hid hs
                  clear hs hx2 hy2
                  go_wp2_with fail
                  go_quiet (fail)
                  go_wp2
                  go_roundw
                  case rel => exact ⟨m + 1, by go_num, by omega, fun j hj h => by
                    by_cases he : j = m
                    · subst he; rw [← HY.out]; exact fun hcl => HS.out hcl.2.2
                    · exact HCl.out j (by omega) h, below_drewN hbi _⟩
                  case measure => simp [intOf]; omega
              · have t2 : (y.kind == 2) = false := by simpa using hy2
                have HS := Lib.hid hy2
                clear hy2 hx2
                go_wp2_with fail
                go_quiet (fail)
                go_wp2
                go_roundw
                case rel => exact ⟨m + 1, by go_num, by omega, fun j hj h => by
                    by_cases he : j = m
                    · subst he; rw [← HY.out]; exact fun hcl => HS.out hcl.2.1
                    · exact HCl.out j (by omega) h, below_drewN hbi _⟩
                case measure => simp [intOf]; omega
            · have t1 : (x.kind == 2) = false := by simpa using hx2
              have HS := Lib.hid hx2
              clear hx2
              go_wp2_with fail
              go_quiet (fail)
              go_wp2
              go_roundw
              case rel => exact ⟨m + 1, by go_num, by omega, fun j hj h => by
                    by_cases he : j = m
                    · subst he; exact fun hcl => HS.out hcl.1
                    · exact HCl.out j (by omega) h, below_drewN hbi _⟩
              case measure => simp [intOf]; omega
          · obtain rfl : m = k := by omega
            go_wp2
            go_roundw
            case rel => exact ⟨m + 1, by go_num, by omega, fun i hi h => by
                by_cases he : i = m
                · subst he; rw [← HX.out]; exact ⟨by rw [← HP.out]; exact HN.out, fun j hj => HCl.out j hj (by omega)⟩
                · exact HA.out i (by omega) h, hbel1.trans (hbi.mono (by simp; omega))⟩
            case measure => simp [intOf]; omega
    · obtain rfl : k = q.length := by omega
      have HB := Lib.hid (show patOkB q = decide (pendF (q.length + 1) (q.map PN.kids) 0 = (q.length : Int)) from by
        by_cases he : pendF (q.length + 1) (q.map PN.kids) 0 = (q.length : Int)
        · rw [show patOkB q = true from propB_t ⟨HL.out.1, HL.out.2, fun i h => HA.out i h h, he⟩]; simp [he]
        · rw [show patOkB q = false from propB_f fun h => he h.2.2.2]; simp [he])
      clear hRf
      have hlt0 : w.heap.size < wo.heap.size := by omega
      have HE := fun W (hK2 : Kept wo W) => Lib.hid (sPEnd (q.length + 1) q _ 0 W ((hR0.kept PNEl.st hK).kept PNEl.st hK2) (by omega) (by omega) (by omega))
      go_wp2_with fail
      go_region_held3 (fun w' => w'.cell? ⟨w.heap.size, 0, none⟩ = some (.slice p q.length cap) ∧ Kept wo w')
        (first | exact ⟨c0, Kept.refl _⟩ | exact ⟨c0, Kept.drew _⟩ | exact ⟨(hb1.cell (p := ⟨w.heap.size, 0, none⟩) hlt0).trans c0, (Kept.drew _).trans (Kept.of_below hb1)⟩)
        ((go_at_call 176; refine (HE _ (by first | exact Kept.drew _ | exact Kept.refl _)).out.mono ?_; rintro e w1 ⟨rfl, hb1⟩))
      go_wp2
      go_ret
      refine ⟨ret_bool ?_, (Joins.below_alloc1 w _).trans (hbel.drew.trans (hb1.mono (by simp; omega)) |>.mono (by simp))⟩
      rw [HB.out, Bool.eq_iff_iff]; simp
theorem sPatOkC (q : List PN) (v : Value) (w : World) (hR : RowRd 4 PNEl w v q) (hz : bPat q ≤ 1048576) :
    Calls Tryz.prog 120 #[.agg #[v]] w fun e w' => e = .returned (.bool (patOkB q)) ∧ Below w.heap.size w w' := sPatOk q v w hR
end Go.Proofs.YtbehcmogndpkhaaGreatDoor
namespace Go.Proofs.YtbehcmogndpkhaaGreatDoor
set_option linter.unusedVariables false
open Go.ChangeShapes Go.WideShapes Go.ChangeAt Go.RowKit

theorem ret_int {k : IntKind} {a b : Int} (h : a = b) : Ending.returned (.int k a) = .returned (.int k b) := by rw [h]

theorem ret_ib {k : IntKind} {a b : Int} {c : Bool} (h : a = b) : Ending.returned (.tuple #[.int k a, .bool c]) = .returned (.tuple #[.int k b, .bool c]) := by rw [h]

theorem iWrap (n : Int) (w : World) :
    Calls Tryz.prog 198 #[.int .i64 n] w fun e w' => e = .returned (.int .i64 (W n)) ∧ w = w' := by
  go_enter Tryz.func198, Tryz.ntmps198
  go_wp2
  go_ret
  exact ⟨rfl, rfl⟩
theorem sWrap (n : Int) (w : World) :
    Calls Tryz.prog 122 #[.int .i64 n] w fun e w' => e = .returned (.int .i64 (W n)) ∧ w = w' := by
  go_enter Tryz.func122, Tryz.ntmps122
  go_wp2
  go_ret
  exact ⟨rfl, rfl⟩

end Go.Proofs.YtbehcmogndpkhaaGreatDoor
namespace Go.Proofs
open Go.Shelf
def Tryz.lays156_ren : Go.Shelf.Ren := ⟨fun | 156 => 68 | 165 => 142 | 166 => 143 | 169 => 144 | 240 => 194 | 241 => 195 | 276 => 228 | 277 => 229 | n => n, fun | 31 => 36 | 9 => 9 | 3 => 3 | 4 => 4 | 0 => 0 | 20 => 20 | 72 => 189 | 76 => 193 | 70 => 187 | 37 => 177 | 75 => 192 | 127 => 257 | 164 => 280 | 5 => 5 | 80 => 195 | n => n, fun | n => n⟩
theorem Tryz.lays156 : Go.Proofs.Lays.n156 Tryz.prog Tryz.lays156_ren := {
  mixed := by kernel_rfl
  f156 := Tryz.func68.trans (congrArg some (by kernel_rfl))
  f165 := Tryz.func142.trans (congrArg some (by kernel_rfl))
  f166 := Tryz.func143.trans (congrArg some (by kernel_rfl))
  f169 := Tryz.func144.trans (congrArg some (by kernel_rfl))
  f240 := Tryz.func194.trans (congrArg some (by kernel_rfl))
  f241 := Tryz.func195.trans (congrArg some (by kernel_rfl))
  f276 := Tryz.func228.trans (congrArg some (by kernel_rfl))
  f277 := Tryz.func229.trans (congrArg some (by kernel_rfl))
  t0 := Tryz.underlying0
  a0 := Tryz.isAgg0
  z0 := Tryz.sizeOf0
  v0 := Tryz.zeroValue0
  t3 := Tryz.underlying3
  a3 := Tryz.isAgg3
  z3 := Tryz.sizeOf3
  v3 := Tryz.zeroValue3
  t4 := Tryz.underlying4
  a4 := Tryz.isAgg4
  z4 := Tryz.sizeOf4
  v4 := Tryz.zeroValue4
  t9 := Tryz.underlying9
  a9 := Tryz.isAgg9
  z9 := Tryz.sizeOf9
  v9 := Tryz.zeroValue9
  t20 := Tryz.underlying20
  a20 := Tryz.isAgg20
  z20 := Tryz.sizeOf20
  v20 := Tryz.zeroValue20
  t31 := Tryz.underlying36
  a31 := Tryz.isAgg36
  z31 := Tryz.sizeOf36
  v31 := Tryz.zeroValue36
  t37 := Tryz.underlying177
  a37 := Tryz.isAgg177
  z37 := Tryz.sizeOf177
  v37 := Tryz.zeroValue177
  t70 := Tryz.underlying187
  a70 := Tryz.isAgg187
  z70 := Tryz.sizeOf187
  v70 := Tryz.zeroValue187
  t72 := Tryz.underlying189
  a72 := Tryz.isAgg189
  z72 := Tryz.sizeOf189
  v72 := Tryz.zeroValue189
  t75 := Tryz.underlying192
  a75 := Tryz.isAgg192
  z75 := Tryz.sizeOf192
  v75 := Tryz.zeroValue192
  t76 := Tryz.underlying193
  a76 := Tryz.isAgg193
  z76 := Tryz.sizeOf193
  v76 := Tryz.zeroValue193
  t127 := Tryz.underlying257
  a127 := Tryz.isAgg257
  z127 := Tryz.sizeOf257
  v127 := Tryz.zeroValue257
  t164 := Tryz.underlying280
  a164 := Tryz.isAgg280
  z164 := Tryz.sizeOf280
  v164 := Tryz.zeroValue280 }
theorem Tryz.Builder_Extra_156 : Builder.Extra Tryz.prog Tryz.lays156_ren := {
  sizeBuilder := by kernel_rfl
  liesBuilder := by kernel_rfl
  t5 := Tryz.underlying5
  a5 := Tryz.isAgg5
  z5 := Tryz.sizeOf5
  v5 := Tryz.zeroValue5
  infoByte := by kernel_rfl
  cellsByte := by kernel_rfl
  sizeByte := by kernel_rfl
  neB5 := by decide }
open Go.RowKit in
theorem Tryz.strings_Join (bk o c : Nat) (xs : List ByteArray) (sep : ByteArray) (w : World) (hcells : ∀ (j : Nat) x, xs[j]? = some x → w.cell? ⟨bk, o + j, none⟩ = some (.string x)) (hbk : bk < w.heap.size) (hN : xs.length ≤ 140737488355328) (hcap : xs.length ≤ c) (hlen : (Lib.join (xs.map (·.data.toList)) sep.data.toList).length ≤ 140737488355328) :
    Calls Tryz.prog 68 #[.slice (some ⟨bk, o, none⟩) xs.length c, .string sep] w fun e w' => e = .returned (.string ⟨(Lib.join (xs.map (·.data.toList)) sep.data.toList).toArray⟩) ∧ Below w.heap.size w w' := Any.strings_Join Tryz.lays156 Tryz.Builder_Extra_156 bk o c xs sep w hcells hbk hN hcap hlen
def Tryz.laysM171_ren : Go.Shelf.Ren := ⟨fun | 171 => 147 | 243 => 199 | 246 => 231 | 283 => 251 | 284 => 252 | 285 => 253 | 286 => 254 | 129 => 266 | 317 => 265 | 318 => 267 | 319 => 268 | 320 => 269 | 337 => 271 | 338 => 272 | n => n, fun | 3 => 3 | 9 => 9 | 2 => 2 | 4 => 4 | 171 => 301 | 0 => 0 | 53 => 302 | 37 => 177 | 5 => 5 | 173 => 305 | 212 => 314 | 51 => 315 | 20 => 20 | 213 => 316 | 46 => 249 | 232 => 320 | 233 => 321 | n => n, fun | 17 => 1 | 18 => 2 | 19 => 3 | n => n⟩
theorem Tryz.laysM171 : Go.Proofs.LaysM.n171 Tryz.prog Tryz.laysM171_ren := {
  mixed := by kernel_rfl
  f129 := Tryz.func266.trans (congrArg some (by kernel_rfl))
  f171 := Tryz.func147.trans (congrArg some (by kernel_rfl))
  f243 := Tryz.func199.trans (congrArg some (by kernel_rfl))
  f246 := Tryz.func231.trans (congrArg some (by kernel_rfl))
  f283 := Tryz.func251.trans (congrArg some (by kernel_rfl))
  f284 := Tryz.func252.trans (congrArg some (by kernel_rfl))
  f285 := Tryz.func253.trans (congrArg some (by kernel_rfl))
  f286 := Tryz.func254.trans (congrArg some (by kernel_rfl))
  f317 := Tryz.func265.trans (congrArg some (by kernel_rfl))
  f318 := Tryz.func267.trans (congrArg some (by kernel_rfl))
  f319 := Tryz.func268.trans (congrArg some (by kernel_rfl))
  f320 := Tryz.func269.trans (congrArg some (by kernel_rfl))
  f337 := Tryz.func271.trans (congrArg some (by kernel_rfl))
  f338 := Tryz.func272.trans (congrArg some (by kernel_rfl))
  t0 := Tryz.underlying0
  a0 := Tryz.isAgg0
  z0 := Tryz.sizeOf0
  v0 := Tryz.zeroValue0
  t2 := Tryz.underlying2
  a2 := Tryz.isAgg2
  z2 := Tryz.sizeOf2
  v2 := Tryz.zeroValue2
  t3 := Tryz.underlying3
  a3 := Tryz.isAgg3
  z3 := Tryz.sizeOf3
  v3 := Tryz.zeroValue3
  t4 := Tryz.underlying4
  a4 := Tryz.isAgg4
  z4 := Tryz.sizeOf4
  v4 := Tryz.zeroValue4
  t5 := Tryz.underlying5
  a5 := Tryz.isAgg5
  z5 := Tryz.sizeOf5
  v5 := Tryz.zeroValue5
  t9 := Tryz.underlying9
  a9 := Tryz.isAgg9
  z9 := Tryz.sizeOf9
  v9 := Tryz.zeroValue9
  t20 := Tryz.underlying20
  a20 := Tryz.isAgg20
  z20 := Tryz.sizeOf20
  v20 := Tryz.zeroValue20
  t37 := Tryz.underlying177
  a37 := Tryz.isAgg177
  z37 := Tryz.sizeOf177
  v37 := Tryz.zeroValue177
  t46 := Tryz.underlying249
  a46 := Tryz.isAgg249
  z46 := Tryz.sizeOf249
  v46 := Tryz.zeroValue249
  t51 := Tryz.underlying315
  a51 := Tryz.isAgg315
  z51 := Tryz.sizeOf315
  v51 := Tryz.zeroValue315
  t53 := Tryz.underlying302
  a53 := Tryz.isAgg302
  z53 := Tryz.sizeOf302
  v53 := Tryz.zeroValue302
  t171 := Tryz.underlying301
  a171 := Tryz.isAgg301
  z171 := Tryz.sizeOf301
  v171 := Tryz.zeroValue301
  t173 := Tryz.underlying305
  a173 := Tryz.isAgg305
  z173 := Tryz.sizeOf305
  v173 := Tryz.zeroValue305
  t212 := Tryz.underlying314
  a212 := Tryz.isAgg314
  z212 := Tryz.sizeOf314
  v212 := Tryz.zeroValue314
  t213 := Tryz.underlying316
  a213 := Tryz.isAgg316
  z213 := Tryz.sizeOf316
  t232 := Tryz.underlying320
  a232 := Tryz.isAgg320
  z232 := Tryz.sizeOf320
  v232 := Tryz.zeroValue320
  t233 := Tryz.underlying321
  a233 := Tryz.isAgg321
  z233 := Tryz.sizeOf321
  v233 := Tryz.zeroValue321
  g17 := by kernel_rfl
  g18 := by kernel_rfl
  g19 := by kernel_rfl
  i0 := by kernel_rfl
  i2 := by kernel_rfl
  i3 := by kernel_rfl
  i4 := by kernel_rfl
  i5 := by kernel_rfl
  i9 := by kernel_rfl
  i20 := by kernel_rfl
  i37 := by kernel_rfl
  i46 := by kernel_rfl
  i51 := by kernel_rfl
  i53 := by kernel_rfl
  i171 := by kernel_rfl
  i173 := by kernel_rfl
  i212 := by kernel_rfl
  i232 := by kernel_rfl
  i233 := by kernel_rfl
  m17 := by kernel_rfl
  m18 := by kernel_rfl
  m19 := by kernel_rfl }
open Go.RowKit Go.Sort Go.Lib in
theorem Tryz.strconv_Itoa (n : Int) (h0 : -9223372036854775808 ≤ n) (h1 : n ≤ 9223372036854775807) (w : World) (htab : Lib.TabIs Tryz.prog w "internal/strconv.uint64pow10" .u64 Lib.pow10Tab) :
    Calls Tryz.prog 147 #[.int .i64 n] w fun e w' => e = .returned (.string ⟨(Lib.itoa n).toArray⟩) ∧ ∃ k os, w' = grow (w.drewN k) os := Any.strconv_Itoa Tryz.laysM171 n h0 h1 w htab
end Go.Proofs
