/- The program's lexer: the small functions. -/
import Derived.Test.YtjflnpcmjibcpaaGreatDoorRows
import Derived.Test.YtjflnpcmjibcpaaGreatDoorLexMath
import Derived.Test.YtjflnpcmjibcpaaGreatDoorText
import Derived.WalkKit
import Derived.ProofKit
import Derived.OpenShut
import Derived.Lib.Hide
import Derived.Lib.SmallJoins
import Derived.Outline
namespace Go.Proofs.YtjflnpcmjibcpaaGreatDoor
set_option linter.unusedVariables false
open Go.ChangeShapes Go.WideShapes Go.ChangeAt Go.RowKit

theorem isBlank (c : Int) (w : World) (h : 0 ≤ c ∧ c ≤ 255) :
    Calls Tryz.prog 13 #[.int .u8 c] w fun e w' => e = .returned (.bool (blankI c)) ∧ w = w' := by
  go_enter Tryz.func13, Tryz.ntmps13
  go_wp2
  all_goals
    go_ret
    refine ⟨ret_bool ?_, rfl⟩
    simp only [blankI, *]
    try rfl
theorem slice_two (s : ByteArray) (k : Nat) (h : k + 1 < s.size) (W : World) :
    (Instr.slice 9 (.string s) (some (.int .i64 (k : Int))) (some (.int .i64 ((k : Int) + 2))) none).run Tryz.prog W = .ok (.string (two s k)) W := by
  have hc : ((k : Int) + 2).toNat = k + 2 := by omega
  have := run_slice_string (P := Tryz.prog) W 9 s .i64 .i64 k ((k : Int) + 2) Tryz.underlying9 (by omega) (by omega) (by omega)
  rw [hc] at this
  exact this
theorem commentSize (s : ByteArray) (w : World) (hs : s.size ≤ 4000) (ho : openB s.data.toList = true) :
    Calls Tryz.prog 15 #[.string s] w fun e w' => e = .returned (.int .i64 (((remL 0 s.data.toList).getD 0 : Nat) : Int)) ∧ w = w' := by
  have HO := Lib.hid ho
  clear ho
  go_enter Tryz.func15, Tryz.ntmps15
  go_wp2
  go_loop [3, 4] (fun d i => ∃ k b : Nat, i = .int .i64 k ∧ d = .int .i64 b ∧ ComAt s 0 k b) (fun _ i => s.size - (intOf i).toNat)
  case atStart => exact ⟨0, 0, rfl, rfl, com_start s 0 (Nat.zero_le _)⟩
  case round =>
    obtain ⟨k, b, rfl, rfl, hC⟩ := hrel
    have hk := hC.2.1
    have hbk := hC.2.2.1
    by_cases hlt : k + 1 < s.size
    · have hsl := slice_two s k hlt
      go_wp2
      · go_round
        case rel => exact ⟨k + 2, b + 1, by go_num, by go_num, com_open hC hlt ‹_›⟩
        case measure => simp [intOf]; omega
      · go_ret
        exact ⟨ret_int' (by rw [show remL 0 s.data.toList = _ from com_last hC hlt ‹_› (by simpa using ‹((b : Int) - 1 == 0) = true›)]; simp), rfl⟩
      · have hn0 := ‹((two s k).toList == [40, 42]) = false›
        have hb1 := com_pos hC HO.out (fun _ => hn0)
        go_round
        case rel => exact ⟨k + 2, b - 1, by go_num, by rw [show ((b : Int) - 1) = ((b - 1 : Nat) : Int) from by omega], com_close hC hlt ‹_› hb1 (by simpa using ‹((b : Int) - 1 == 0) = false›)⟩
        case measure => simp [intOf]; omega
      · have hn0 := ‹((two s k).toList == [40, 42]) = false›
        have hb1 := com_pos hC HO.out (fun _ => hn0)
        have h0 : ((b : Int) == 0) = true := ‹_›
        simp at h0
        omega
      · have hn0 := ‹((two s k).toList == [40, 42]) = false›
        have hb1 := com_pos hC HO.out (fun _ => hn0)
        go_round
        case rel => exact ⟨k + 1, b, by go_num, rfl, com_other hC hlt ‹_› ‹_› hb1⟩
        case measure => simp [intOf]; omega
    · go_wp2
      go_ret
      exact ⟨ret_int' (by rw [show remL 0 s.data.toList = _ from com_end hC hlt]; rfl), rfl⟩

theorem isWordRune_low (c : Int) (w : World) (h : 0 ≤ c ∧ c < 128) :
    Calls Tryz.prog 48 #[.int .i32 c] w fun e w' => e = .returned (.bool (wbB c)) ∧ w = w' := by
  obtain ⟨h1, h2⟩ := h
  go_enter Tryz.func48, Tryz.ntmps48
  go_wp2_with (go_at_call 46; refine (isWordByte _ _ ⟨by omega, by omega⟩).mono ?_; rintro e w' ⟨rfl, rfl⟩)
  go_ret
  exact ⟨rfl, rfl⟩
theorem isWordRune_high (c : Int) (w : World) (h : 128 ≤ c ∧ c ≤ 2147483647) :
    Calls Tryz.prog 48 #[.int .i32 c] w fun e w' => e = .returned (.bool false) ∧ w = w' := by
  obtain ⟨h1, h2⟩ := h
  go_enter Tryz.func48, Tryz.ntmps48
  go_wp2
  go_ret
  exact ⟨rfl, rfl⟩
theorem below_iter (w : World) (s : ByteArray) (p : Nat) : Below w.heap.size w (w.iter s p) := (Below.refl _ _).alloc (Nat.le_refl _) _
theorem wordSize (s : ByteArray) (w : World) (hs : s.size ≤ 4000) :
    Calls Tryz.prog 35 #[.string s] w fun e w' => e = .returned (.int .i64 ((wordN s.data.toList : Nat) : Int)) ∧ Below w.heap.size w w' := by
  go_enter Tryz.func35, Tryz.ntmps35
  go_wp2
  go_loopw [] (fun w' => ∃ pos : Nat, w' = w.iter s pos ∧ pos ≤ s.size ∧ ∀ j, j < pos → ∀ c, s.data.toList[j]? = some c → wbB (c.toNat : Int) = true) (fun w' => s.size - w'.iterPos w.heap.size)
  case atStart => exact ⟨0, rfl, Nat.zero_le _, fun j h => absurd h (by omega)⟩
  case round =>
    obtain ⟨pos, rfl, hp, hall⟩ := hrel
    have HA := Lib.hid hall
    clear hall
    by_cases hlt : pos < s.size
    · by_cases ha : (s[pos]'hlt).toNat < 128
      · have hnx : ∀ ty, (Instr.next (.pointer (some ⟨w.heap.size, 0, none⟩)) true ty).run Tryz.prog (w.iter s pos) = _ := fun ty => run_next_ascii w s pos ty hlt ha
        go_wp2_with (go_at_call 48; refine (isWordRune_low _ _ ⟨by omega, by omega⟩).mono ?_; rintro e w' ⟨rfl, rfl⟩)
        · go_ret
          exact ⟨ret_int' (by rw [wordN_stop s pos hlt HA.out (by simpa using ‹(!wbB ↑s[pos].toNat) = true›)]), below_iter _ _ _⟩
        · go_roundw
          case rel => exact ⟨pos + 1, rfl, by omega, wordN_go s pos hlt HA.out (by simpa using ‹(!wbB ↑s[pos].toNat) = false›)⟩
          case measure => simp; omega
      · have hh := decode_high s pos hlt (by omega)
        have hle := decode_le s pos
        have hnx : ∀ ty, (Instr.next (.pointer (some ⟨w.heap.size, 0, none⟩)) true ty).run Tryz.prog (w.iter s pos) = _ := fun ty => run_next_any w s pos ty hlt
        go_wp2_with (go_at_call 48; refine (isWordRune_high _ _ ⟨by omega, by omega⟩).mono ?_; rintro e w' ⟨rfl, rfl⟩)
        go_ret
        exact ⟨ret_int' (by rw [wordN_stop s pos hlt HA.out (wb_high _ (by omega))]), below_iter _ _ _⟩
    · have hnx : ∀ ty, (Instr.next (.pointer (some ⟨w.heap.size, 0, none⟩)) true ty).run Tryz.prog (w.iter s pos) = _ := fun ty => run_next_end w s pos ty hlt
      obtain rfl : pos = s.size := by omega
      go_wp2
      go_ret
      exact ⟨ret_int' (by rw [wordN_all s HA.out]), below_iter _ _ _⟩

theorem stringSize (s : ByteArray) (w : World) (hs : s.size ≤ 4000) :
    Calls Tryz.prog 49 #[.string s] w fun e w' => e = .returned (.int .i64 ((strE s 0 : Nat) : Int)) ∧ w = w' := by
  go_enter Tryz.func49, Tryz.ntmps49
  go_wp2
  go_loop [3] (fun i => ∃ k : Nat, i = .int .i64 k ∧ StrAt s 0 k) (fun i => s.size + 1 - (intOf i).toNat)
  case atStart => exact ⟨1, rfl, str_start s 0⟩
  case round =>
    obtain ⟨k, rfl, hS⟩ := hrel
    have hk := hS.1
    by_cases hlt : k < s.size
    · go_wp2
      · go_ret
        exact ⟨ret_int' (by rw [str_end hS hlt (by simpa using ‹((s[k].toNat : Int) == 34) = true›)]; simp), rfl⟩
      · go_round
        case rel => exact ⟨k + 2, by go_num, str_esc hS hlt (by simpa using ‹((s[k].toNat : Int) == 92) = true›)⟩
        case measure => simp [intOf]; omega
      · go_round
        case rel => exact ⟨k + 1, by go_num, str_other hS hlt (by simpa using ‹((s[k].toNat : Int) == 34) = false›) (by simpa using ‹((s[k].toNat : Int) == 92) = false›)⟩
        case measure => simp [intOf]; omega
    · go_wp2
      go_ret
      exact ⟨ret_int' (by rw [str_none hS hlt]; rfl), rfl⟩
theorem stringSize' (s : ByteArray) (w : World) (hs : s.size ≤ 4000) :
    Calls Tryz.prog 49 #[.string s] w fun e w' => e = .returned (.int .i64 ((strSz s.data.toList : Nat) : Int)) ∧ w = w' := by
  have h : strE s 0 = strSz s.data.toList := by
    rw [strE_sz]; simp only [List.drop_zero, Nat.zero_add]
    split <;> simp_all
  rw [← h]; exact stringSize s w hs
theorem isSymbol (s : ByteArray) (w : World) :
    Calls Tryz.prog 51 #[.string s] w fun e w' => e = .returned (.bool (symB s.toList)) ∧ w = w' := by
  go_enter Tryz.func51, Tryz.ntmps51
  go_wp2
  all_goals
    go_ret
    first | (refine ⟨ret_bool ?_, rfl⟩; simp only [symB, syms, sym2, sym1, List.cons_append, List.nil_append, List.any_cons, List.any_nil, *]; rfl) | (exfalso; simp_all; done)
/-- What a function that finds a token hands back. -/
def ftV (r : FT) : Value := .tuple #[.agg #[.int .i64 r.k, .int .i64 r.n, .string (bs r.s), .int .i64 0], .int .i64 ((r.z : Nat) : Int), .int .i64 ((r.code : Nat) : Int)]
theorem varTok_none (s : ByteArray) (w : World) (hs : s.size ≤ 4000) (h : ¬ 2 ≤ s.size) :
    Calls Tryz.prog 37 #[.string s] w fun e w' => e = .returned (ftV (.bad 2)) ∧ Below w.heap.size w w' := by
  go_enter Tryz.func37, Tryz.ntmps37
  go_wp2
  exact bodyPost_ret (v := ftV (.bad 2)) (by simp [results, Tryz.results37, go_sem, ftV, FT.bad, bs]) rfl ⟨rfl, Joins.below_alloc1 w _⟩
theorem varTok_bad (s : ByteArray) (w : World) (hs : s.size ≤ 4000) (h : 1 < s.size) (hv : lowB (s[1].toNat : Int) = false) :
    Calls Tryz.prog 37 #[.string s] w fun e w' => e = .returned (ftV (.bad 2)) ∧ Below w.heap.size w w' := by
  have hb := byte_bd s[1]
  go_enter Tryz.func37, Tryz.ntmps37
  go_wp2_with (go_at_call 26; refine (isLower _ _ hb).mono ?_; rintro e w' ⟨rfl, rfl⟩)
  exact bodyPost_ret (v := ftV (.bad 2)) (by simp [results, Tryz.results37, go_sem, ftV, FT.bad, bs]) rfl ⟨rfl, Joins.below_alloc1 w _⟩
theorem varTok_some (s : ByteArray) (w : World) (hs : s.size ≤ 4000) (h : 1 < s.size) (hv : lowB (s[1].toNat : Int) = true) :
    Calls Tryz.prog 37 #[.string s] w fun e w' => e = .returned (ftV ⟨0, 5, (s[1].toNat : Int) - 97, [], 2⟩) ∧ Below w.heap.size w w' := by
  have hb := byte_bd s[1]
  have h97 : 97 ≤ (s[1].toNat : Int) := by simp [lowB] at hv; omega
  go_enter Tryz.func37, Tryz.ntmps37
  go_wp2_with (go_at_call 26; refine (isLower _ _ hb).mono ?_; rintro e w' ⟨rfl, rfl⟩)
  exact bodyPost_ret (v := ftV ⟨0, 5, (s[1].toNat : Int) - 97, [], 2⟩) (by simp [results, Tryz.results37, go_sem, ftV, bs]) rfl ⟨rfl, Joins.below_alloc1 w _⟩
theorem varTok (s : ByteArray) (w : World) (hs : s.size ≤ 4000) :
    Calls Tryz.prog 37 #[.string s] w fun e w' => e = .returned (ftV (varF s.data.toList)) ∧ Below w.heap.size w w' := by
  by_cases h : 1 < s.size
  · have hd := drop_two s 0 h
    rw [List.drop_zero] at hd
    cases hv : lowB (s[1].toNat : Int)
    · exact (varTok_bad s w hs h hv).mono fun e w' ⟨he, hw⟩ => ⟨by rw [he, hd, varF]; simp only [Nat.zero_add]; rw [if_neg (by rw [hv]; exact Bool.false_ne_true)], hw⟩
    · exact (varTok_some s w hs h hv).mono fun e w' ⟨he, hw⟩ => ⟨by rw [he, hd, varF]; simp only [Nat.zero_add]; rw [if_pos hv], hw⟩
  · refine (varTok_none s w hs (by omega)).mono fun e w' ⟨he, hw⟩ => ⟨?_, hw⟩
    rw [he]
    have hl : s.data.toList.length = s.size := rfl
    match hx : s.data.toList, hl with
    | [], _ => rfl
    | [_], _ => rfl
    | _ :: _ :: _, hl => simp at hl; omega
theorem slice_cut (s : ByteArray) (k : Nat) (h : k ≤ s.size) (hs : s.size ≤ 1048576) (W : World) :
    (Instr.slice 9 (.string s) none (some (.int .i64 (k : Int))) none).run Tryz.prog W = .ok (.string (cut s k)) W := by
  have := run_slice_string_h (P := Tryz.prog) W 9 s Tryz.underlying9 .i64 k (by omega) (by omega)
  rw [Int.toNat_natCast] at this
  exact this
theorem symbolTok (s : ByteArray) (w : World) (hs : s.size ≤ 4000) :
    Calls Tryz.prog 39 #[.string s] w fun e w' => e = .returned (ftV (symF s.data.toList)) ∧ Below w.heap.size w w' := by
  by_cases hm : (s.size : Int) < 2
  all_goals
    go_enter Tryz.func39, Tryz.ntmps39
    go_wp2
    go_loop [5] (fun i => ∃ k : Nat, i = .int .i64 k ∧ SymAt s k) (fun i => (intOf i).toNat)
    case atStart => first | exact ⟨_, rfl, sym_start1 s hm⟩ | exact ⟨2, rfl, sym_start2 s (by omega)⟩
    case round =>
      obtain ⟨k, rfl, hS⟩ := hrel
      have hks := hS.2.1
      have hk2 := hS.1
      by_cases hlt : 0 < k
      · have hsl := slice_cut s k hks (by omega)
        go_wp2_with (go_at_call 51; refine (isSymbol _ _).mono ?_; rintro e w' ⟨rfl, rfl⟩)
        · have hy : symB (cut s k).toList = true := ‹_›
          rw [cut_toList] at hy
          have hz := sym_hit hS hlt hy
          have hne : ¬ k = 0 := by omega
          have hc := cut_bs s k
          have hF : symF s.data.toList = ⟨0, 6, 0, s.data.toList.take k, k⟩ := by rw [symF, hz, if_neg hne]
          exact bodyPost_ret (v := ftV (symF s.data.toList)) (by simp [results, Tryz.results39, go_sem, ftV, hF, hc]) rfl ⟨rfl, Joins.below_alloc1 w _⟩
        · have hn : symB (cut s k).toList = false := ‹_›
          rw [cut_toList] at hn
          go_round
          case rel => exact ⟨k - 1, by rw [show ((k : Int) - 1) = ((k - 1 : Nat) : Int) from by omega], sym_step hS hlt hn⟩
          case measure => simp [intOf]; omega
      · obtain rfl : k = 0 := by omega
        have hz := sym_none hS
        go_wp2
        exact bodyPost_ret (v := ftV (symF s.data.toList)) (by simp [results, Tryz.results39, go_sem, ftV, FT.bad, symF, hz, bs]) rfl ⟨rfl, Joins.below_alloc1 w _⟩
end Go.Proofs.YtjflnpcmjibcpaaGreatDoor
