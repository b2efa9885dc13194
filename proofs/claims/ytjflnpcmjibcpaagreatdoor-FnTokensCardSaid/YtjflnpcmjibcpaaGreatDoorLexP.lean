/- The program's lexer. -/
import Derived.Test.YtjflnpcmjibcpaaGreatDoorLexJ
import Derived.Test.YtjflnpcmjibcpaaGreatDoorToks
import Derived.WalkMore
namespace Go.Proofs.YtjflnpcmjibcpaaGreatDoor
set_option linter.unusedVariables false
set_option maxRecDepth 100000
open Go.ChangeShapes Go.WideShapes Go.ChangeAt Go.RowKit

theorem info_tok : (Tryz.prog.info? 28).map (fun i => (i.zero, i.size, i.bytes)) = some (some (.agg #[.int .i64 0, .int .i64 0, .string ⟨#[]⟩, .int .i64 0]), 4, 40) := by kernel_rfl
/-- What a lexer hands back: the tokens in memory of its own, the code and the place. -/
def LexOut (R : LR) (w : World) (e : Ending) (w' : World) : Prop :=
  ∃ v, e = .returned (.tuple #[v, .int .i64 ((R.2.1 : Nat) : Int), .int .i64 ((R.2.2 : Nat) : Int)]) ∧ w'.ownsRow w.heap.size 28 4 v R.1.length (tc R.1) ∧ Below w.heap.size w w'
theorem slice_rest (s : ByteArray) (k : Nat) (h : k ≤ s.size) (hs : s.size ≤ 1048576) (W : World) :
    (Instr.slice 9 (.string s) (some (.int .i64 (k : Int))) none none).run Tryz.prog W = .ok (.string (rest s k)) W := by
  have := run_slice_string_l (P := Tryz.prog) W 9 s Tryz.underlying9 .i64 k (by omega) (by omega)
  rw [Int.toNat_natCast] at this
  exact this
theorem prefix_open (l : List UInt8) : Lib.hasPrefix l [40, 42] = openB l := by
  match l with
  | [] => rfl
  | [_] => simp [Lib.hasPrefix, openB, List.isPrefixOf]
  | a :: b :: t =>
    simp only [Lib.hasPrefix, openB, List.isPrefixOf]
    rw [Bool.eq_iff_iff]
    simp only [Bool.and_eq_true, beq_iff_eq, and_true]
    exact ⟨fun h => ⟨by rw [← h.1]; rfl, by rw [← h.2]; rfl⟩, fun h => ⟨(u8_eq h.1).symm, (u8_eq h.2).symm⟩⟩
theorem iLex_long (s : ByteArray) (w : World) (hs : s.size ≤ maxLen) (h : 4000 < s.size) :
    Calls Tryz.prog 5 #[.string s] w (LexOut (lexL s.data.toList) w) := by
  have hR : lexL s.data.toList = ([], 1, 0) := by rw [lexL, if_pos (show 4000 < s.data.toList.length from h)]
  unfold maxLen at hs
  rw [hR]
  go_enter Tryz.func5, Tryz.ntmps5
  go_wp2
  go_step3
  go_wp2
  try rw [Exit.noGoto_ret]
  go_ret3
  exact ⟨_, rfl, ⟨rfl, .inl ⟨rfl, rfl⟩⟩, Below.refl _ _⟩
theorem hasOpen (s : ByteArray) (w : World) : Calls Tryz.prog 14 #[.string s, .string ⟨#[40, 42]⟩] w fun e w' => e = .returned (.bool (openB s.data.toList)) ∧ w = w' :=
  (Tryz.strings_HasPrefix s ⟨#[40, 42]⟩ w).mono fun e w' ⟨he, hw⟩ => ⟨by rw [he, ← prefix_open], hw.symm⟩
/-- What a lexer's loop keeps. -/
def LexRel (s : ByteArray) (R : LR) (w : World) (v i c : Value) (wr : World) : Prop :=
  ∃ (p : Nat) (acc : List Tk), i = .int .i64 p ∧ c = .int .i64 0 ∧ LexAt s.data.toList R p acc ∧ wr.ownsRow w.heap.size 28 4 v acc.length (tc acc) ∧ Below w.heap.size w wr ∧ w.heap.size ≤ wr.heap.size
theorem iLex_short (s : ByteArray) (w : World) (hs : ¬ 4000 < s.size) (hV : Vars w) :
    Calls Tryz.prog 5 #[.string s] w (LexOut (lexL s.data.toList) w) := by
  have hst := lexAt_start s.data.toList hs
  generalize lexL s.data.toList = R at *
  obtain ⟨i0, hi, hz0, hz1, hz2⟩ := info_parts info_tok
  go_enter Tryz.func5, Tryz.ntmps5
  go_wp2
  go_step3
  go_wp2
  go_step3
  go_wp2
  go_loopw [5, 6, 7] (fun v i c wr => LexRel s R w v i c wr) (fun _ i _ _ => s.size - (intOf i).toNat)
  case atStart => exact ⟨0, [], rfl, rfl, hst, World.ownsRow_lit w #[] 0 (Nat.le_refl _) (by decide) rfl, Joins.below_alloc1 w _, by simp⟩
  case round =>
    obtain ⟨p, acc, rfl, rfl, hL, hown, hbel, hBs⟩ := hrel
    have hp : p ≤ s.size := hL.1
    have hacc : acc.length ≤ p := hL.2.1
    by_cases hlt : p < s.size
    · have hsl := slice_rest s p hp (by omega)
      have hrs := rest_size s p
      have hrl := rest_list s p
      have hr0 : 0 < (rest s p).size := by omega
      have hrg := rest_get s p hlt hr0
      have hrz : (rest s p).size ≤ 4000 := by omega
      generalize rest s p = r at *
      have hgl : s.data.toList[p]'hlt = r[0] := by rw [hrg]; exact get_list s p hlt
      have hcb := byte_bd r[0]
      have HB := fun W => Lib.hid (isBlank (r[0].toNat : Int) W hcb)
      have HP := fun W => Lib.hid (hasOpen r W)
      cases hb : blankI (r[0].toNat : Int)
      · have hgb : blankI (s.data.toList[p].toNat : Int) = false := by rw [hgl]; exact hb
        cases ho : openB r.data.toList
        · have HT := fun W (hV : Vars W) => Lib.hid (firstTok r W hrz hr0 hV)
          unfold ftV at HT
          by_cases hc : (firstF r.data.toList).code = 0
          · have hL' := lexAt_tok hL hlt hgb (by rw [← hrl]; exact ho) (by rw [← hrl]; exact hc)
            have hzz := firstF_z r.data.toList
            have hzp := firstF_pos _ hc
            rw [← hrl] at hL'
            have hc' : (firstF r.data.toList).z ≤ r.size := hzz
            clear hrg hrl hgl hL hgb hzz
            generalize firstF r.data.toList = fr at *
            have t1 : (((fr.code : Nat) : Int) == 0) = true := by simp [hc]
            have t2 : (((fr.code : Nat) : Int) != 0) = false := by simp [hc]
            have HC := Lib.hid hc
            clear hc hrs
            go_wp2_with (first | (go_at_call 13; refine (HB _).out.mono ?_; rintro e w' ⟨rfl, rfl⟩) | (go_at_call 14; refine (HP _).out.mono ?_; rintro e w' ⟨rfl, rfl⟩))
            refine (HT _ (hV.below hbel)).out.mono ?_
            rintro e w1 ⟨rfl, hb1⟩
            have hown1 := owns_below hown hb1
            have hbel1 := hbel.trans (hb1.mono hBs)
            have hBs1 : w.heap.size ≤ w1.heap.size := Nat.le_trans hBs hb1.size
            clear hown hbel hb1
            go_wp2_with (at_builtin; go_loud (refine wpList_append_own _ rfl (.tmp 35) (.tmp 37) 24 rfl w.heap.size 28 i0 (.agg #[.int .i64 0, .int .i64 0, .string ⟨#[]⟩, .int .i64 0]) 4 40 Tryz.underlying24 hi hz0 hz1 hz2 rfl (by decide) _ acc.length (tc acc) rfl ((hown1.alloc _).alloc _) ⟨w1.heap.size + 1, 0, none⟩ 1 1 (tkC (fr.tk p)) rfl rfl (new_cells_at _ _ (by simp) _ _ _ rfl) (tkC_one _) (by unfold maxLen; omega) (by omega) (by simp; omega) ?_); intro v' w2 hown2 hgrow _)
            have O := owns_app ((hown1.alloc _).alloc _) ((hbel1.alloc hBs1 _).alloc (by simp; omega) _) (Nat.le_refl _) (by simp; omega) hgrow
            go_roundw
            case rel => exact ⟨p + fr.z, acc ++ [fr.tk p], by go_num, rfl, hL', owns_tok hown2, O.1, O.2⟩
            case measure => simp [intOf]; omega
          · have hR := lexAt_bad hL hlt hgb (by rw [← hrl]; exact ho) (by rw [← hrl]; exact hc)
            rw [← hrl] at hR
            clear hrg hrl hgl hL hgb
            generalize firstF r.data.toList = fr at *
            have t1 : (((fr.code : Nat) : Int) == 0) = false := by simpa using hc
            have t2 : (((fr.code : Nat) : Int) != 0) = true := by simpa using hc
            have HC := Lib.hid hc
            have HR := Lib.hid hR
            clear hc hrs hR
            go_wp2_with (first | (go_at_call 13; refine (HB _).out.mono ?_; rintro e w' ⟨rfl, rfl⟩) | (go_at_call 14; refine (HP _).out.mono ?_; rintro e w' ⟨rfl, rfl⟩))
            refine (HT _ (hV.below hbel)).out.mono ?_
            rintro e w1 ⟨rfl, hb1⟩
            go_wp2
            try rw [Exit.noGoto_ret]
            go_ret3
            rw [HR.out]
            exact ⟨_, rfl, ⟨rfl, .inl ⟨rfl, rfl⟩⟩, (hbel.trans (hb1.mono hBs)).alloc (Nat.le_trans hBs hb1.size) _⟩
        · have HS := fun W => Lib.hid (commentSize r W hrz ho)
          cases hz : remL 0 r.data.toList with
          | none =>
            have hR := lexAt_open hL hlt hgb (by rw [← hrl]; exact ho) (by rw [← hrl]; exact hz)
            rw [hz] at HS
            clear hrg hrl hgl hL hgb hz
            have HR := Lib.hid hR
            clear hrs hR
            go_wp2_with (first | (go_at_call 13; refine (HB _).out.mono ?_; rintro e w' ⟨rfl, rfl⟩) | (go_at_call 14; refine (HP _).out.mono ?_; rintro e w' ⟨rfl, rfl⟩))
            refine (HS _).out.mono ?_
            rintro e w1 ⟨rfl, rfl⟩
            go_wp2
            try rw [Exit.noGoto_ret]
            go_ret3
            rw [HR.out]
            exact ⟨_, rfl, ⟨rfl, .inl ⟨rfl, rfl⟩⟩, hbel⟩
          | some z =>
            have hL' := lexAt_remark hL hlt hgb (by rw [← hrl]; exact ho) (by rw [← hrl]; exact hz)
            have hzz := remL_le _ _ _ hz
            have hzr : z ≤ r.size := hzz.2
            have hz2' := hzz.1
            rw [hz] at HS
            simp only [Option.getD_some] at HS
            clear hrg hrl hgl hL hgb hz hrs hzz
            have t1 : ((z : Int) == 0) = false := by simp; omega
            go_wp2_with (first | (go_at_call 13; refine (HB _).out.mono ?_; rintro e w' ⟨rfl, rfl⟩) | (go_at_call 14; refine (HP _).out.mono ?_; rintro e w' ⟨rfl, rfl⟩))
            refine (HS _).out.mono ?_
            rintro e w1 ⟨rfl, rfl⟩
            go_wp2
            go_roundw
            case rel => exact ⟨p + z, acc, by go_num, rfl, hL', hown, hbel, hBs⟩
            case measure => simp [intOf]; omega
      · have hL' := lexAt_blank hL hlt (by rw [hgl]; exact hb)
        clear hrg hrl hrs hgl hL
        go_wp2_with (go_at_call 13; refine (HB _).out.mono ?_; rintro e w' ⟨rfl, rfl⟩)
        go_roundw
        case rel => exact ⟨p + 1, acc, by go_num, rfl, hL', hown, hbel, hBs⟩
        case measure => simp [intOf]; omega
    · obtain rfl : p = s.size := by omega
      have hR := lexAt_end hL
      go_wp2
      try rw [Exit.noGoto_ret]
      go_ret3
      subst hR
      exact ⟨_, rfl, hown, hbel⟩
end Go.Proofs.YtjflnpcmjibcpaaGreatDoor
