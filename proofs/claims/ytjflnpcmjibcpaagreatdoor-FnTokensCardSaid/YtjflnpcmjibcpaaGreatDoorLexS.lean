/- The model's lexer: its small functions. -/
import Derived.Test.YtjflnpcmjibcpaaGreatDoorLexI
import Derived.Test.YtjflnpcmjibcpaaGreatDoorBox
import Derived.Test.YtjflnpcmjibcpaaGreatDoorLexMath
namespace Go.Proofs.YtjflnpcmjibcpaaGreatDoor
set_option linter.unusedVariables false
set_option maxRecDepth 100000
open Go.ChangeShapes Go.WideShapes Go.ChangeAt Go.RowKit

theorem l02Has (s p : ByteArray) (k : Nat) (w : World) (hs : s.size ≤ 4000) (hk : k ≤ s.size) (hp : p.size ≤ 10) :
    Calls Tryz.prog 17 #[.string s, .int .i64 k, .string p] w fun e w' => e = .returned (.bool (hasAt s k p.data.toList)) ∧ w = w' := by
  by_cases h : k + p.size ≤ s.size
  · have hc : ((k : Int) + p.size).toNat = k + p.size := by omega
    have hsl := fun W => run_slice_string (P := Tryz.prog) W 9 s .i64 .i64 k ((k : Int) + p.size) Tryz.underlying9 (by omega) (by omega) (by omega)
    rw [hc] at hsl
    rw [Int.toNat_natCast] at hsl
    have HE := Lib.hid (hasAt_long s p k h)
    have HC := Lib.hid hc
    clear hc
    go_enter Tryz.func17, Tryz.ntmps17
    go_wp2
    go_ret
    exact ⟨ret_bool HE.out, rfl⟩
  · have HE := Lib.hid (hasAt_short s k p.data.toList hk h)
    go_enter Tryz.func17, Tryz.ntmps17
    go_wp2
    go_ret
    exact ⟨ret_bool HE.out.symm, rfl⟩
def remI (s : ByteArray) (i : Nat) : Int := match remL 0 (s.data.toList.drop i) with | some z => ((i + z : Nat) : Int) | none => -1
theorem hasTwo (s : ByteArray) (k : Nat) (a b : UInt8) (w : World) (hs : s.size ≤ 4000) (hk : k + 1 < s.size) :
    Calls Tryz.prog 17 #[.string s, .int .i64 k, .string ⟨#[a, b]⟩] w fun e w' => e = .returned (.bool ((two s k).toList == [a, b])) ∧ w = w' :=
  (l02Has s ⟨#[a, b]⟩ k w hs (by omega) (by show 2 ≤ 10; omega)).mono fun e w' ⟨he, hw⟩ => ⟨by rw [he]; exact ret_bool (hasAt_two s k hk a b), hw⟩
theorem hasTwo_end (s : ByteArray) (k : Nat) (a b : UInt8) (w : World) (hs : s.size ≤ 4000) (hk : k ≤ s.size) (h : ¬ k + 1 < s.size) :
    Calls Tryz.prog 17 #[.string s, .int .i64 k, .string ⟨#[a, b]⟩] w fun e w' => e = .returned (.bool false) ∧ w = w' :=
  (l02Has s ⟨#[a, b]⟩ k w hs hk (by show 2 ≤ 10; omega)).mono fun e w' ⟨he, hw⟩ => ⟨by rw [he]; exact ret_bool (hasAt_short s k [a, b] hk (by show ¬ k + 2 ≤ s.size; omega)), hw⟩
theorem l02Remark (s : ByteArray) (i : Nat) (w : World) (hs : s.size ≤ 4000) (hi : i ≤ s.size) (ho : openB (s.data.toList.drop i) = true) :
    Calls Tryz.prog 18 #[.string s, .int .i64 i] w fun e w' => e = .returned (.int .i64 (remI s i)) ∧ w = w' := by
  have HO := Lib.hid ho
  clear ho
  go_enter Tryz.func18, Tryz.ntmps18
  go_wp2
  go_loop [1, 5] (fun k d => ∃ p b : Nat, k = .int .i64 p ∧ d = .int .i64 b ∧ ComAt s i p b) (fun k _ => s.size - (intOf k).toNat)
  case atStart => exact ⟨i, 0, rfl, rfl, com_start s i hi⟩
  case round =>
    obtain ⟨k, b, rfl, rfl, hC⟩ := hrel
    have hk := hC.2.1
    have hki := hC.1
    have hbk := hC.2.2.1
    by_cases hlt : k + 1 < s.size
    · go_wp2_with (go_at_call 17; refine (hasTwo _ _ _ _ _ hs hlt).mono ?_; rintro e w' ⟨rfl, rfl⟩)
      · go_round
        case rel => exact ⟨k + 2, b + 1, by go_num, by go_num, com_open hC hlt ‹_›⟩
        case measure => simp [intOf]; omega
      · go_ret
        exact ⟨ret_int' (by rw [remI, com_last hC hlt ‹_› (by simpa using ‹((b : Int) - 1 == 0) = true›)]; simp only; omega), rfl⟩
      · have hn0 := ‹((two s k).toList == [40, 42]) = false›
        have hb1 := com_pos hC HO.out (fun _ => hn0)
        go_round
        case rel => exact ⟨k + 2, b - 1, by go_num, by rw [show ((b : Int) - 1) = ((b - 1 : Nat) : Int) from by omega], com_close hC hlt ‹_› hb1 (by simpa using ‹((b : Int) - 1 == 0) = false›)⟩
        case measure => simp [intOf]; omega
      · have hn0 := ‹((two s k).toList == [40, 42]) = false›
        have hb1 := com_pos hC HO.out (fun _ => hn0)
        go_round
        case rel => exact ⟨k + 1, b, by go_num, rfl, com_other hC hlt hn0 ‹_› hb1⟩
        case measure => simp [intOf]; omega
    · by_cases hlt1 : k < s.size
      · go_wp2_with (go_at_call 17; refine (hasTwo_end _ _ _ _ _ hs hk hlt).mono ?_; rintro e w' ⟨rfl, rfl⟩)
        have hb1 := com_pos hC HO.out (fun h => absurd h hlt)
        go_round
        case rel => exact ⟨k + 1, b, by go_num, rfl, com_end1 hC (by omega) hb1⟩
        case measure => simp [intOf]; omega
      · go_wp2
        go_ret
        exact ⟨ret_int' (by rw [remI, com_end hC hlt]), rfl⟩
theorem l02End (s : ByteArray) (i : Nat) (w : World) (hs : s.size ≤ 4000) (hi : i ≤ s.size) :
    Calls Tryz.prog 22 #[.string s, .int .i64 i] w fun e w' => e = .returned (.int .i64 ((strE s i : Int) - 1)) ∧ w = w' := by
  go_enter Tryz.func22, Tryz.ntmps22
  go_wp2
  go_loop [1] (fun k => ∃ p : Nat, k = .int .i64 p ∧ StrAt s i p ∧ p ≤ s.size + 1) (fun k => s.size + 1 - (intOf k).toNat)
  case atStart => exact ⟨i + 1, by go_num, str_start s i, by omega⟩
  case round =>
    obtain ⟨k, rfl, hS, hk2⟩ := hrel
    have hk := hS.1
    by_cases hlt : k < s.size
    · by_cases hq : (s[k].toNat : Int) = 34
      · have hE := str_end hS hlt hq
        have b1 : ((s[k].toNat : Int) == 34) = true := by simp [hq]
        have b2 : ((s[k].toNat : Int) != 34) = false := by simp [hq]
        have HQ := Lib.hid hq
        have HE := Lib.hid hE
        clear hq hE
        go_wp2
        go_ret
        exact ⟨ret_int' (by rw [HE.out]; omega), rfl⟩
      · have b1 : ((s[k].toNat : Int) == 34) = false := by simpa using hq
        have b2 : ((s[k].toNat : Int) != 34) = true := by simpa using hq
        have HQ := Lib.hid hq
        clear hq
        go_wp2
        · have hc := ‹((s[k].toNat : Int) == 92) = true›
          have hS2 := str_esc hS hlt (by simpa using hc)
          go_round
          case rel => exact ⟨k + 2, by go_num, hS2, by omega⟩
          case measure => simp [intOf]; omega
        · have hc := ‹((s[k].toNat : Int) == 92) = false›
          have hS2 := str_other hS hlt HQ.out (by simpa using hc)
          go_round
          case rel => exact ⟨k + 1, by go_num, hS2, by omega⟩
          case measure => simp [intOf]; omega
    · have HE := Lib.hid (str_none hS hlt)
      go_wp2
      go_ret
      exact ⟨ret_int' (by rw [HE.out]; rfl), rfl⟩
def wordK (s : ByteArray) : Int := if nameB s then 3 else if conB s then 4 else if kwB s then 6 else 0
theorem l02Word (s : ByteArray) (w : World) (hs : s.size ≤ 4000) :
    Calls Tryz.prog 21 #[.string s] w fun e w' => e = .returned (.agg #[.int .i64 (wordK s), .int .i64 0, .string s, .int .i64 0]) ∧ Below w.heap.size w w' := by
  have hm : s.size ≤ maxLen := by unfold maxLen; omega
  have B0 := (Box.new w _ rfl (.int .i64 0) (.int .i64 0) (.string ⟨#[]⟩) (.int .i64 0) 28).alloc (.cells #[.int .i64 0, .int .i64 0, .string s, .int .i64 0] 28)
  have B1 := Box.new (w.alloc (.cells #[.int .i64 0, .int .i64 0, .string ⟨#[]⟩, .int .i64 0] 28)) (w.heap.size + 1) (by simp) (.int .i64 0) (.int .i64 0) (.string s) (.int .i64 0) 28
  have hbel := Joins.below_alloc2 w (.cells #[.int .i64 0, .int .i64 0, .string ⟨#[]⟩, .int .i64 0] 28) (.cells #[.int .i64 0, .int .i64 0, .string s, .int .i64 0] 28)
  have HN := fun W => Lib.hid (sNameOk s W hm)
  cases h1 : nameB s
  · have HC := fun W => Lib.hid (sConOk s W hm)
    rw [h1] at HN
    cases h2 : conB s
    · have HK := fun W => Lib.hid (l01Kept s W)
      rw [h2] at HC
      cases h3 : kwB s
      · have HW := Lib.hid (show wordK s = 0 by rw [wordK, h1, h2, h3]; rfl)
        rw [h3] at HK
        clear h1 h2 h3
        go_enter Tryz.func21, Tryz.ntmps21
        go_wp2_with fail
        refine (HN _).out.mono ?_
        rintro e w1 ⟨rfl, hb1⟩
        go_wp2_with fail
        refine (HC _).out.mono ?_
        rintro e w' ⟨rfl, rfl⟩
        go_wp2_with fail
        refine (HK _).out.mono ?_
        rintro e w2 ⟨rfl, hb2⟩
        have hb3 := hb1.trans (hb2.mono hb1.size)
        have D1 := B1.below hb3 (by simp)
        have D0 := B0.below hb3 (by simp; omega)
        have P := D0.put (.int .i64 0) (.int .i64 0) (.string s) (.int .i64 0)
        obtain ⟨a0, a1, a2, a3, af, al⟩ := D1
        obtain ⟨c0, c1, c2, c3, cf, cl⟩ := D0
        go_wp2
        clear c0 c1 c2 c3 cf cl
        obtain ⟨c0, c1, c2, c3, cf, cl⟩ := P
        refine bodyPost_ret (v := .agg #[.int .i64 0, .int .i64 0, .string s, .int .i64 0]) (by simp [results, Tryz.results21, go_sem, c0, c1, c2, c3]) rfl ⟨by rw [HW.out], ?_⟩
        exact below_put4 (hbel.trans (hb3.mono (by simp; omega))) (Nat.le_refl _) _ _ _ _
      · have HW := Lib.hid (show wordK s = 6 by rw [wordK, h1, h2, h3]; rfl)
        rw [h3] at HK
        clear h1 h2 h3
        go_enter Tryz.func21, Tryz.ntmps21
        go_wp2_with fail
        refine (HN _).out.mono ?_
        rintro e w1 ⟨rfl, hb1⟩
        go_wp2_with fail
        refine (HC _).out.mono ?_
        rintro e w' ⟨rfl, rfl⟩
        go_wp2_with fail
        refine (HK _).out.mono ?_
        rintro e w2 ⟨rfl, hb2⟩
        have hb3 := hb1.trans (hb2.mono hb1.size)
        have D1 := B1.below hb3 (by simp)
        have D0 := B0.below hb3 (by simp; omega)
        have P := (D0.other (i := 0) (show w.heap.size + 1 ≠ w.heap.size by omega) (.int .i64 6)).put (.int .i64 6) (.int .i64 0) (.string s) (.int .i64 0)
        have Q := D1.put0 (.int .i64 6)
        obtain ⟨a0, a1, a2, a3, af, al⟩ := D1
        obtain ⟨b0, b1, b2, b3, bf, bl⟩ := Q
        have D2 := D0.other (i := 0) (show w.heap.size + 1 ≠ w.heap.size by omega) (.int .i64 6)
        obtain ⟨c0, c1, c2, c3, cf, cl⟩ := D2
        go_wp2
        clear c0 c1 c2 c3 cf cl
        obtain ⟨c0, c1, c2, c3, cf, cl⟩ := P
        refine bodyPost_ret (v := .agg #[.int .i64 6, .int .i64 0, .string s, .int .i64 0]) (by simp [results, Tryz.results21, go_sem, c0, c1, c2, c3]) rfl ⟨by rw [HW.out], ?_⟩
        exact below_put4 ((hbel.trans (hb3.mono (by simp; omega))).setCell (by simp) _) (Nat.le_refl _) _ _ _ _
    · have HW := Lib.hid (show wordK s = 4 by rw [wordK, h1, h2]; rfl)
      rw [h2] at HC
      clear h1 h2
      go_enter Tryz.func21, Tryz.ntmps21
      go_wp2_with fail
      refine (HN _).out.mono ?_
      rintro e w1 ⟨rfl, hb1⟩
      go_wp2_with fail
      refine (HC _).out.mono ?_
      rintro e w' ⟨rfl, rfl⟩
      have D1 := B1.below hb1 (by simp)
      have D0 := B0.below hb1 (by simp; omega)
      have P := (D0.other (i := 0) (show w.heap.size + 1 ≠ w.heap.size by omega) (.int .i64 4)).put (.int .i64 4) (.int .i64 0) (.string s) (.int .i64 0)
      have Q := D1.put0 (.int .i64 4)
      obtain ⟨a0, a1, a2, a3, af, al⟩ := D1
      obtain ⟨b0, b1, b2, b3, bf, bl⟩ := Q
      have D2 := D0.other (i := 0) (show w.heap.size + 1 ≠ w.heap.size by omega) (.int .i64 4)
      obtain ⟨c0, c1, c2, c3, cf, cl⟩ := D2
      go_wp2
      clear c0 c1 c2 c3 cf cl
      obtain ⟨c0, c1, c2, c3, cf, cl⟩ := P
      refine bodyPost_ret (v := .agg #[.int .i64 4, .int .i64 0, .string s, .int .i64 0]) (by simp [results, Tryz.results21, go_sem, c0, c1, c2, c3]) rfl ⟨by rw [HW.out], ?_⟩
      exact below_put4 ((hbel.trans (hb1.mono (by simp; omega))).setCell (by simp) _) (Nat.le_refl _) _ _ _ _
  · have HW := Lib.hid (show wordK s = 3 by rw [wordK, h1]; rfl)
    rw [h1] at HN
    clear h1
    go_enter Tryz.func21, Tryz.ntmps21
    go_wp2_with fail
    refine (HN _).out.mono ?_
    rintro e w1 ⟨rfl, hb1⟩
    have D1 := B1.below hb1 (by simp)
    have D0 := B0.below hb1 (by simp; omega)
    have P := (D0.other (i := 0) (show w.heap.size + 1 ≠ w.heap.size by omega) (.int .i64 3)).put (.int .i64 3) (.int .i64 0) (.string s) (.int .i64 0)
    have Q := D1.put0 (.int .i64 3)
    obtain ⟨a0, a1, a2, a3, af, al⟩ := D1
    obtain ⟨b0, b1, b2, b3, bf, bl⟩ := Q
    have D2 := D0.other (i := 0) (show w.heap.size + 1 ≠ w.heap.size by omega) (.int .i64 3)
    obtain ⟨c0, c1, c2, c3, cf, cl⟩ := D2
    go_wp2
    clear c0 c1 c2 c3 cf cl
    obtain ⟨c0, c1, c2, c3, cf, cl⟩ := P
    refine bodyPost_ret (v := .agg #[.int .i64 3, .int .i64 0, .string s, .int .i64 0]) (by simp [results, Tryz.results21, go_sem, c0, c1, c2, c3]) rfl ⟨by rw [HW.out], ?_⟩
    exact below_put4 ((hbel.trans (hb1.mono (by simp; omega))).setCell (by simp) _) (Nat.le_refl _) _ _ _ _
theorem l02Sign (s : ByteArray) (i : Nat) (w : World) (hs : s.size ≤ 4000) (hi : i ≤ s.size) :
    Calls Tryz.prog 24 #[.string s, .int .i64 i] w fun e w' => e = .returned (.string (bs ((s.data.toList.drop i).take (signN (s.data.toList.drop i))))) ∧ Below w.heap.size w w' := by
  have HH := fun (p : ByteArray) W (hp : p.size ≤ 10) => Lib.hid (l02Has s p i W hs hi hp)
  generalize hl : s.data.toList.drop i = l at *
  have hh : ∀ p, hasAt s i p = p.isPrefixOf l := fun p => by rw [hasAt, hl]
  simp only [hh] at HH
  clear hh hl
  go_enter Tryz.func24, Tryz.ntmps24
  go_wp2
  go_loop [9] (fun j => ∃ k : Nat, k ≤ 22 ∧ j = .int .i64 k ∧ ∀ q ∈ syms.take k, q.isPrefixOf l = false) (fun j => 22 - (intOf j).toNat)
  case atStart => exact ⟨0, Nat.zero_le _, rfl, fun q hq => by simp at hq⟩
  case round =>
    obtain ⟨k, hk, rfl, hno⟩ := hrel
    have HN := Lib.hid hno
    clear hno
    by_cases hlt : k < 22
    · have hc : k = 0 ∨ k = 1 ∨ k = 2 ∨ k = 3 ∨ k = 4 ∨ k = 5 ∨ k = 6 ∨ k = 7 ∨ k = 8 ∨ k = 9 ∨ k = 10 ∨ k = 11 ∨ k = 12 ∨ k = 13 ∨ k = 14 ∨ k = 15 ∨ k = 16 ∨ k = 17 ∨ k = 18 ∨ k = 19 ∨ k = 20 ∨ k = 21 := by omega
      clear hlt hk
      rcases hc with rfl | rfl | rfl | rfl | rfl | rfl | rfl | rfl | rfl | rfl | rfl | rfl | rfl | rfl | rfl | rfl | rfl | rfl | rfl | rfl | rfl | rfl
      all_goals
        go_wp2_with (go_at_call 17; refine (HH _ _ (by decide)).out.mono ?_; rintro e w' ⟨rfl, rfl⟩)
        · have hx := ‹List.isPrefixOf _ l = true›
          go_ret
          refine ⟨?_, Joins.below_alloc1 w _⟩
          first | rw [sign_two l _ (by decide) hx]; rfl | rw [sign_one l _ (by decide) (sym_five l _ (by decide) HN.out) hx]; rfl
        · have hx := ‹List.isPrefixOf _ l = false›
          go_round
          case rel => exact ⟨_ + 1, by omega, by go_num, sym_next l _ _ rfl HN.out hx⟩
          case measure => simp [intOf]
    · obtain rfl : k = 22 := by omega
      have HZ := Lib.hid (sign_no l HN.out)
      go_wp2
      go_ret
      exact ⟨by rw [HZ.out]; rfl, Joins.below_alloc1 w _⟩
end Go.Proofs.YtjflnpcmjibcpaaGreatDoor
