/- The model's lexer. -/
import Derived.Test.YtjflnpcmjibcpaaGreatDoorLexS
import Derived.Test.YtjflnpcmjibcpaaGreatDoorLexP
import Derived.Test.YtjflnpcmjibcpaaGreatDoorUnquoteS
import Derived.Deep.DeepCutAuto
import Derived.Deep.RegionWith
namespace Go.Proofs.YtjflnpcmjibcpaaGreatDoor
set_option linter.unusedVariables false
set_option maxRecDepth 100000
open Go.ChangeShapes Go.WideShapes Go.ChangeAt Go.RowKit

theorem blank_yes (c : Int) (h : blankI c = true) : (c == 9) = true ∨ ((c == 9) = false ∧ (c == 10) = true) ∨ ((c == 9) = false ∧ (c == 10) = false ∧ (c == 13) = true) ∨ ((c == 9) = false ∧ (c == 10) = false ∧ (c == 13) = false ∧ (c == 32) = true) := by
  simp [blankI] at h ⊢; omega
theorem blank_not (c : Int) (h : blankI c = false) : (c == 9) = false ∧ (c == 10) = false ∧ (c == 13) = false ∧ (c == 32) = false := by
  simp [blankI] at h ⊢; omega
theorem cls_dig (c : Int) (h : digB c = true) : clsI c = 3 := by
  rw [cls_if]; simp [digB] at h
  rw [if_neg (by omega), if_neg (by omega), if_pos (by omega)]
theorem cls_low (c : Int) (h : lowB c = true) : clsI c = 1 := by rw [clsI, if_pos h]
theorem cls_up (c : Int) (h : upB c = true) : clsI c = 2 := by
  rw [cls_if]; simp [upB] at h
  rw [if_neg (by omega), if_pos (by omega)]
theorem cls_not (c : Int) (h : wbB c = false) : clsI c = 0 := by
  have := cls_zero c; rw [h] at this; simpa using this
theorem l01Class_pos (c : Int) (w : World) (h : 0 ≤ c ∧ c ≤ 255) (hw : wbB c = true) :
    Calls Tryz.prog 19 #[.int .u8 c] w fun e w' => ∃ z : Int, 0 < z ∧ e = .returned (.int .i64 z) ∧ w = w' := by
  refine (l01Class c w h).mono fun e w' ⟨he, hw'⟩ => ⟨_, ?_, he, hw'⟩
  have := cls_zero c
  rw [hw] at this
  rw [cls_if]
  rw [cls_if] at this
  split <;> (try split) <;> (try split) <;> simp_all
theorem l01Class_no (c : Int) (w : World) (h : 0 ≤ c ∧ c ≤ 255) (hw : wbB c = false) :
    Calls Tryz.prog 19 #[.int .u8 c] w fun e w' => e = .returned (.int .i64 0) ∧ w = w' := by
  have := l01Class c w h
  rw [cls_not c hw] at this; exact this
theorem slice_mid (s : ByteArray) (p q : Nat) (h : p ≤ q) (hq : q ≤ s.size) (hs : s.size ≤ 1048576) (W : World) :
    (Instr.slice 9 (.string s) (some (.int .i64 (p : Int))) (some (.int .i64 (q : Int))) none).run Tryz.prog W = .ok (.string (mid s p q)) W := by
  have := run_slice_string (P := Tryz.prog) W 9 s .i64 .i64 p q Tryz.underlying9 (by omega) (by omega) (by omega)
  rw [Int.toNat_natCast, Int.toNat_natCast] at this
  exact this
theorem drop_first (s : ByteArray) (p : Nat) (h : p < s.size) : firstF (s.data.toList.drop p) = (if digB (s[p].toNat : Int) then numF ((s.data.toList.drop p).take (wordN (s.data.toList.drop p))) else if lowB (s[p].toNat : Int) || upB (s[p].toNat : Int) then wordF ((s.data.toList.drop p).take (wordN (s.data.toList.drop p)))
    else if s[p].toNat = 39 then varF (s.data.toList.drop p) else if s[p].toNat = 34 then strF (s.data.toList.drop p) else symF (s.data.toList.drop p)) := by
  have hd := drop_at s p h
  rw [hd, firstF, ← hd]
theorem cls_pos (c : Int) (h : (digB c || (lowB c || upB c)) = true) : 0 < clsI c := by
  unfold clsI
  cases h1 : lowB c <;> cases h2 : upB c <;> cases h3 : digB c <;> simp_all
theorem not_under (c : Int) (h : (digB c || (lowB c || upB c)) = true) : (c != 95) = true := by
  simp [digB, lowB, upB] at h ⊢; omega
theorem sTextNum_som (s : ByteArray) (v : Int) (w : World) (h : numO s.data.toList = some v) :
    Calls Tryz.prog 20 #[.string s] w fun e w' => e = .returned (.tuple #[.int .i64 v, .bool true]) ∧ Below w.heap.size w w' := sTextNum_yes s v w (TN_of s v h)
theorem sTextNum_non (s : ByteArray) (w : World) (hs : s.size ≤ 1048576) (h : numO s.data.toList = none) :
    Calls Tryz.prog 20 #[.string s] w fun e w' => e = .returned (.tuple #[.int .i64 0, .bool false]) ∧ Below w.heap.size w w' := by
  by_cases h1 : 1 ≤ s.size ∧ s.size ≤ 20
  · exact sTextNum_no s w h1.1 h1.2 (TN_no s h)
  · exact sTextNum_len s w h1 hs
/-- What stands when a token has been found. -/
def TokRel (p : Nat) (wr : World) (fr : FT) (nx : Value) (wx : World) : Prop :=
  fr.code = 0 ∧ nx = .int .i64 ((p + fr.z : Nat) : Int) ∧ Box wx wr.heap.size (.int .i64 fr.k) (.int .i64 fr.n) (.string (bs fr.s)) (.int .i64 0) ∧ Below wr.heap.size wr wx
def LexRelS (s : ByteArray) (R : LR) (w : World) (v i : Value) (wr : World) : Prop :=
  ∃ (p : Nat) (acc : List Tk), i = .int .i64 p ∧ LexAt s.data.toList R p acc ∧ wr.ownsRow w.heap.size 28 4 v acc.length (tc acc) ∧ Below w.heap.size w wr ∧ w.heap.size ≤ wr.heap.size
theorem sLex_long (s : ByteArray) (w : World) (hs : s.size ≤ maxLen) (h : 4000 < s.size) :
    Calls Tryz.prog 6 #[.string s] w (LexOut (lexL s.data.toList) w) := by
  have hR : lexL s.data.toList = ([], 1, 0) := by rw [lexL, if_pos (show 4000 < s.data.toList.length from h)]
  unfold maxLen at hs
  rw [hR]
  go_enter Tryz.func6, Tryz.ntmps6
  go_wp2
  go_ret3
  exact ⟨_, rfl, ⟨rfl, .inl ⟨rfl, rfl⟩⟩, Below.refl _ _⟩
theorem wordF_K (w : ByteArray) : wordF w.data.toList = if wordK w = 0 then .bad 5 else ⟨0, wordK w, 0, w.data.toList, w.size⟩ := by
  have hl : w.data.toList.length = w.size := rfl
  unfold wordF wordK
  rw [bs_eta]
  cases nameB w <;> cases conB w <;> cases kwB w <;> simp [hl]
theorem sUnq_som (s : ByteArray) (t : List UInt8) (w : World) (hs : s.size ≤ 1048576) (h : unqO s.data.toList = some t) :
    Calls Tryz.prog 23 #[.string s] w fun e w' => e = .returned (.tuple #[.string ⟨t.toArray⟩, .bool true]) ∧ Below w.heap.size w w' := by
  have hq := UQ_of s t h
  obtain ⟨h2, hin⟩ := uq_inner s t hq
  refine (sUnquote_loop s w hs h2).mono fun e w' ⟨t', _, ht, he, hb⟩ => ⟨?_, hb⟩
  obtain rfl := ht t hin
  have hq' : quoteL t' = s.data.toList := hq
  rw [he, if_pos hq', decide_eq_true hq']
theorem sUnq_non (s : ByteArray) (w : World) (hs : s.size ≤ 1048576) (h : unqO s.data.toList = none) :
    Calls Tryz.prog 23 #[.string s] w fun e w' => e = .returned (.tuple #[.string ⟨#[]⟩, .bool false]) ∧ Below w.heap.size w w' := by
  by_cases h2 : 2 ≤ s.size
  · refine (sUnquote_loop s w hs h2).mono fun e w' ⟨t', _, ht, he, hb⟩ => ⟨?_, hb⟩
    have hq' : ¬ quoteL t' = s.data.toList := UQ_no s h t'
    rw [he, if_neg hq', decide_eq_false hq']
  · exact sUnquote_short s w h2
theorem hyp_low (c : Int) (h : lowB c = true) : digB c = false := by simp [lowB, digB] at h ⊢; omega
theorem wordy_wb (c : Int) (h : (digB c || (lowB c || upB c)) = false) (h2 : (c == 95) = false) : wbB c = false := by
  simp [wbB] at h h2 ⊢; exact ⟨h.2.1, h.2.2, h.1, h2⟩
theorem l01Class_letter (c : Int) (w : World) (h : 0 ≤ c ∧ c ≤ 255) (hw : (lowB c || upB c) = true) :
    Calls Tryz.prog 19 #[.int .u8 c] w fun e w' => ∃ z : Int, 0 < z ∧ (z == 3) = false ∧ e = .returned (.int .i64 z) ∧ w = w' := by
  refine (l01Class c w h).mono fun e w' ⟨he, hw'⟩ => ⟨clsI c, ?_, ?_, he, hw'⟩
  · cases h1 : lowB c
    · rw [h1] at hw; rw [cls_up c (by simpa using hw)]; decide
    · rw [cls_low c h1]; decide
  · cases h1 : lowB c
    · rw [h1] at hw; rw [cls_up c (by simpa using hw)]; decide
    · rw [cls_low c h1]; decide
theorem l01Class_under (c : Int) (w : World) (h : 0 ≤ c ∧ c ≤ 255) (hw : c = 95) :
    Calls Tryz.prog 19 #[.int .u8 c] w fun e w' => e = .returned (.int .i64 3) ∧ w = w' := by
  have := l01Class c w h
  rw [show clsI c = 3 from by rw [hw]; rfl] at this; exact this
theorem sign_tick (s : ByteArray) (p : Nat) (h : p < s.size) (h39 : s[p].toNat = 39) : signN (s.data.toList.drop p) = 0 := by
  refine sign_no _ fun q hq => ?_
  cases hb : q.isPrefixOf (s.data.toList.drop p)
  · rfl
  · have hc := take_pre hb
    rw [drop_at s p h] at hc
    have hall : ∀ q ∈ syms, ∀ a, q.head? = some a → a.toNat ≠ 39 := by decide
    have hl := sym_len q hq
    cases q with
    | nil => simp at hl
    | cons a t => simp at hc; exact absurd (by rw [← hc.1]; exact h39) (hall _ hq a rfl)
set_option maxHeartbeats 8000000 in
theorem sLex_short (s : ByteArray) (w : World) (hs : ¬ 4000 < s.size) :
    Calls Tryz.prog 6 #[.string s] w (LexOut (lexL s.data.toList) w) := by
  have hst := lexAt_start s.data.toList hs
  generalize lexL s.data.toList = R at *
  obtain ⟨i0, hi, hz0, hz1, hz2⟩ := info_parts info_tok
  go_enter Tryz.func6, Tryz.ntmps6
  go_wp2
  go_loopw [5, 6] (fun v i wr => LexRelS s R w v i wr) (fun _ i _ => s.size - (intOf i).toNat)
  case atStart => exact ⟨0, [], rfl, hst, World.ownsRow_lit w #[] 0 (Nat.le_refl _) (by decide) rfl, Joins.below_alloc1 w _, by simp⟩
  case round =>
    obtain ⟨p, acc, rfl, hL, hown, hbel, hBs⟩ := hrel
    have hp : p ≤ s.size := hL.1
    have hacc : acc.length ≤ p := hL.2.1
    by_cases hlt : p < s.size
    · have hcb := byte_bd s[p]
      have hgl : s.data.toList[p]'hlt = s[p] := get_list s p hlt
      cases hb : blankI (s[p].toNat : Int)
      · have hgb : blankI (s.data.toList[p].toNat : Int) = false := by rw [hgl]; exact hb
        obtain ⟨n9, n10, n13, n32⟩ := blank_not _ hb
        have HO := fun W => Lib.hid (l02Has s ⟨#[40, 42]⟩ p W (by omega) hp (by decide))
        have ho0 := hasAt_open s p
        cases ho : openB (s.data.toList.drop p)
        · rw [show (⟨#[40, 42]⟩ : ByteArray).data.toList = [40, 42] from rfl, ho0, ho] at HO
          clear ho0
          cases hw : (digB (s[p].toNat : Int) || (lowB (s[p].toNat : Int) || upB (s[p].toNat : Int)))
          · have hd : digB (s[p].toNat : Int) = false := by simp only [Bool.or_eq_false_iff] at hw; exact hw.1
            have hlu : (lowB (s[p].toNat : Int) || upB (s[p].toNat : Int)) = false := by simp only [Bool.or_eq_false_iff] at hw ⊢; exact hw.2
            cases h95 : ((s[p].toNat : Int) == 95)
            · as_aux_lemma =>
                have n95 : ((s[p].toNat : Int) != 95) = true := by simpa using h95
                have HCl := fun W => Lib.hid (l01Class_no (s[p].toNat : Int) W hcb (wordy_wb _ hw h95))
                have HF := Lib.hid (drop_first s p hlt)
                go_upto_if 62 with (first | (go_at_call 17; refine (HO _).out.mono ?_; rintro e w' ⟨rfl, rfl⟩) | (go_at_call 19; refine (HCl _).out.mono ?_; rintro e w' ⟨rfl, rfl⟩))
                go_cut [10] (fun nx wx => TokRel p wr (firstF (s.data.toList.drop p)) nx wx)
                case first =>
                  by_cases h34 : s[p].toNat = 34
                  · have hE := strE_sz s p
                    have HX := fun W => Lib.hid (l02End s p W (by omega) hp)
                    have hF : firstF (s.data.toList.drop p) = strF (s.data.toList.drop p) := by rw [HF.out, if_neg (by rw [hd]; exact Bool.false_ne_true), if_neg (by rw [hlu]; exact Bool.false_ne_true), if_neg (by omega), if_pos h34]
                    have hszl := strSz_le (s.data.toList.drop p) (by simp; omega)
                    simp only [List.length_drop] at hszl
                    have hsl0 : s.data.toList.length = s.size := rfl
                    have b34 : ((s[p].toNat : Int) == 34) = true := by simp [h34]
                    have H34 := Lib.hid h34
                    clear h34
                    by_cases hz0' : strSz (s.data.toList.drop p) = 0
                    · rw [if_pos hz0'] at hE
                      have hR : R = ([], 4, p) := by
                        have hc : (firstF (s.data.toList.drop p)).code = 4 := by rw [hF, strF_none _ (by rw [hz0']; exact unqO_nil)]; rfl
                        have := lexAt_bad hL hlt hgb ho (by rw [hc]; decide)
                        rw [hc] at this; exact this
                      have HR := Lib.hid hR
                      clear hR
                      rw [hE] at HX
                      have HX2 := fun W => Lib.hid (show Calls Tryz.prog 22 #[.string s, .int .i64 p] W fun e w' => e = .returned (.int .i64 (-1)) ∧ W = w' from (HX W).out)
                      clear HX hF hE hz0' hszl hsl0
                      go_wp2_with fail
                      refine (HX2 _).out.mono ?_
                      rintro e w' ⟨rfl, rfl⟩
                      go_wp2
                      try rw [Exit.noGoto_ret]
                      go_ret3
                      rw [HR.out]
                      exact ⟨_, rfl, ⟨rfl, .inl ⟨rfl, rfl⟩⟩, (hbel.trans ((Joins.below_alloc1 wr _).mono hBs))⟩
                    · rw [if_neg hz0'] at hE
                      obtain ⟨E, hEE⟩ : ∃ E, E = strE s p := ⟨_, rfl⟩
                      have hEv : E = p + strSz (s.data.toList.drop p) := by rw [hEE, hE]
                      have hEs : E ≤ s.size := by omega
                      have hEp : p < E := by omega
                      rw [← hEE] at HX
                      have hml : (mid s p E).data.toList = (s.data.toList.drop p).take (strSz (s.data.toList.drop p)) := by rw [mid_list]; congr 1; omega
                      have hmz := mid_size s p E hEs
                      have hsl := slice_mid s p E (by omega) hEs (by omega)
                      have hbox := Box.new wr _ rfl (.int .i64 0) (.int .i64 0) (.string ⟨#[]⟩) (.int .i64 0) 28
                      cases hu : unqO (mid s p E).data.toList with
                      | some t =>
                        have hF2 : firstF (s.data.toList.drop p) = ⟨0, 2, 0, t, E - p⟩ := by rw [hF, strF_some _ t (by rw [← hml]; exact hu)]; congr 1; omega
                        have HT := fun W => Lib.hid (sUnq_som (mid s p E) t W (by omega) hu)
                        have HF2 := Lib.hid hF2
                        clear hF hF2 hu hml hmz hE hEE hEv hz0' hszl hsl0
                        go_wp2_with fail
                        refine (HX _).out.mono ?_
                        rintro e w' ⟨rfl, rfl⟩
                        go_wp2_with fail
                        refine (HT _).out.mono ?_
                        rintro e w1 ⟨rfl, hb1⟩
                        have hbb := (Joins.below_alloc1 wr _).trans (hb1.mono (by simp))
                        have D := hbox.below hb1 (by simp)
                        have P := D.put (.int .i64 2) (.int .i64 0) (.string ⟨t.toArray⟩) (.int .i64 0)
                        obtain ⟨a0, a1, a2, a3, af, al⟩ := D
                        go_wp2_with fail
                        go_meet
                        exact ⟨by rw [HF2.out], by rw [HF2.out]; simp only; congr 1; omega, by rw [HF2.out]; exact P, below_put4 hbb (Nat.le_refl _) _ _ _ _⟩
                      | none =>
                        have hR : R = ([], 4, p) := by
                          have hc : (firstF (s.data.toList.drop p)).code = 4 := by rw [hF, strF_none _ (by rw [← hml]; exact hu)]; rfl
                          have := lexAt_bad hL hlt hgb ho (by rw [hc]; decide)
                          rw [hc] at this; exact this
                        have HR := Lib.hid hR
                        clear hR
                        have HT := fun W => Lib.hid (sUnq_non (mid s p E) W (by omega) hu)
                        clear hF hu hml hmz hE hEE hEv hz0' hszl hsl0
                        go_wp2_with fail
                        refine (HX _).out.mono ?_
                        rintro e w' ⟨rfl, rfl⟩
                        go_wp2_with fail
                        refine (HT _).out.mono ?_
                        rintro e w1 ⟨rfl, hb1⟩
                        go_wp2
                        try rw [Exit.noGoto_ret]
                        go_ret3
                        rw [HR.out]
                        exact ⟨_, rfl, ⟨rfl, .inl ⟨rfl, rfl⟩⟩, (hbel.trans (((Joins.below_alloc1 wr _).trans (hb1.mono (by simp))).mono hBs))⟩
                  · by_cases h39 : s[p].toNat = 39
                    · have hF : firstF (s.data.toList.drop p) = varF (s.data.toList.drop p) := by rw [HF.out, if_neg (by rw [hd]; exact Bool.false_ne_true), if_neg (by rw [hlu]; exact Bool.false_ne_true), if_pos h39]
                      have b34 : ((s[p].toNat : Int) == 34) = false := by simp; omega
                      have b39 : ((s[p].toNat : Int) == 39) = true := by simp [h39]
                      have hsn := sign_tick s p hlt h39
                      have H39 := Lib.hid h39
                      clear h39
                      by_cases h1 : p + 1 < s.size
                      · have hd2 := drop_two s p h1
                        have hcb1 := byte_bd s[p + 1]
                        cases hlv : lowB (s[p + 1].toNat : Int)
                        · have hfin : varF (s.data.toList.drop p) = .bad 2 := by rw [hd2, varF, if_neg (by rw [hlv]; exact Bool.false_ne_true)]
                          have hR : R = ([], 2, p) := by
                            have hc : (firstF (s.data.toList.drop p)).code = 2 := by rw [hF, hfin]; rfl
                            have := lexAt_bad hL hlt hgb ho (by rw [hc]; decide)
                            rw [hc] at this; exact this
                          have HR := Lib.hid hR
                          clear hR
                          have HT := fun W => Lib.hid (l02Sign s p W (by omega) hp)
                          rw [show (s.data.toList.drop p).take (signN (s.data.toList.drop p)) = [] from by rw [hsn]; rfl, show bs [] = ⟨#[]⟩ from rfl] at HT
                          have HC1 := fun W => Lib.hid (l01Class (s[p + 1].toNat : Int) W hcb1)
                          have t1 : (clsI (s[p + 1].toNat : Int) == 1) = false := by rw [cls_one]; exact hlv
                          have HL := Lib.hid hlv
                          clear hlv hfin hF hd2 hsn
                          go_wp2_with fail
                          refine (HC1 _).out.mono ?_
                          rintro e w' ⟨rfl, rfl⟩
                          go_wp2_with fail
                          refine (HT _).out.mono ?_
                          rintro e w1 ⟨rfl, hb1⟩
                          go_wp2
                          try rw [Exit.noGoto_ret]
                          go_ret3
                          rw [HR.out]
                          exact ⟨_, rfl, ⟨rfl, .inl ⟨rfl, rfl⟩⟩, (hbel.trans (((Joins.below_alloc1 wr _).trans (hb1.mono (by simp))).mono hBs))⟩
                        · have hF2 : firstF (s.data.toList.drop p) = ⟨0, 5, (s[p + 1].toNat : Int) - 97, [], 2⟩ := by rw [hF, hd2, varF, if_pos hlv]
                          have HC1 := fun W => Lib.hid (l01Class (s[p + 1].toNat : Int) W hcb1)
                          rw [cls_low _ hlv] at HC1
                          have HF2 := Lib.hid hF2
                          have HL := Lib.hid hlv
                          clear hlv hF hF2 hd2 hsn
                          go_wp2_with fail
                          refine (HC1 _).out.mono ?_
                          rintro e w' ⟨rfl, rfl⟩
                          go_wp2_with fail
                          go_meet
                          exact ⟨by rw [HF2.out], by rw [HF2.out]; simp only; go_num, by rw [HF2.out]; exact Box.new wr _ rfl _ _ _ _ _, Joins.below_alloc1 wr _⟩
                      · have hfin : varF (s.data.toList.drop p) = .bad 2 := by
                          have hd2 := drop_at s p hlt
                          have hl0 : s.data.toList.length = s.size := rfl
                          rw [List.drop_of_length_le (show s.data.toList.length ≤ p + 1 by omega)] at hd2
                          rw [hd2]; rfl
                        have hR : R = ([], 2, p) := by
                          have hc : (firstF (s.data.toList.drop p)).code = 2 := by rw [hF, hfin]; rfl
                          have := lexAt_bad hL hlt hgb ho (by rw [hc]; decide)
                          rw [hc] at this; exact this
                        have HR := Lib.hid hR
                        clear hR
                        have HT := fun W => Lib.hid (l02Sign s p W (by omega) hp)
                        rw [show (s.data.toList.drop p).take (signN (s.data.toList.drop p)) = [] from by rw [hsn]; rfl, show bs [] = ⟨#[]⟩ from rfl] at HT
                        clear hfin hF hsn
                        go_wp2_with fail
                        refine (HT _).out.mono ?_
                        rintro e w1 ⟨rfl, hb1⟩
                        go_wp2
                        try rw [Exit.noGoto_ret]
                        go_ret3
                        rw [HR.out]
                        exact ⟨_, rfl, ⟨rfl, .inl ⟨rfl, rfl⟩⟩, (hbel.trans (((Joins.below_alloc1 wr _).trans (hb1.mono (by simp))).mono hBs))⟩
                    · have hF : firstF (s.data.toList.drop p) = symF (s.data.toList.drop p) := by rw [HF.out, if_neg (by rw [hd]; exact Bool.false_ne_true), if_neg (by rw [hlu]; exact Bool.false_ne_true), if_neg h39, if_neg h34]
                      have b34 : ((s[p].toNat : Int) == 34) = false := by simp; omega
                      have b39 : ((s[p].toNat : Int) == 39) = false := by simp; omega
                      have H34 := Lib.hid h34
                      have H39 := Lib.hid h39
                      clear h34 h39
                      have HT := fun W => Lib.hid (l02Sign s p W (by omega) hp)
                      by_cases hz0' : signN (s.data.toList.drop p) = 0
                      · have hR : R = ([], 2, p) := by
                          have hc : (firstF (s.data.toList.drop p)).code = 2 := by rw [hF]; rw [symF, if_pos hz0']; rfl
                          have := lexAt_bad hL hlt hgb ho (by rw [hc]; decide)
                          rw [hc] at this; exact this
                        have HR := Lib.hid hR
                        clear hR
                        have hT2 : (s.data.toList.drop p).take (signN (s.data.toList.drop p)) = [] := by rw [hz0']; rfl
                        rw [hT2, show bs [] = ⟨#[]⟩ from rfl] at HT
                        clear hz0' hT2
                        go_wp2_with fail
                        refine (HT _).out.mono ?_
                        rintro e w1 ⟨rfl, hb1⟩
                        go_wp2
                        try rw [Exit.noGoto_ret]
                        go_ret3
                        rw [HR.out]
                        exact ⟨_, rfl, ⟨rfl, .inl ⟨rfl, rfl⟩⟩, (hbel.trans (((Joins.below_alloc1 wr _).trans (hb1.mono (by simp))).mono hBs))⟩
                      · have hsn := signN_le (s.data.toList.drop p)
                        simp only [List.length_drop] at hsn
                        have hsl0 : s.data.toList.length = s.size := rfl
                        have hF2 : firstF (s.data.toList.drop p) = ⟨0, 6, 0, (s.data.toList.drop p).take (signN (s.data.toList.drop p)), signN (s.data.toList.drop p)⟩ := by rw [hF, symF, if_neg hz0']
                        have hT2 : (bs ((s.data.toList.drop p).take (signN (s.data.toList.drop p)))).size = signN (s.data.toList.drop p) := by rw [bs_size, List.length_take, List.length_drop]; omega
                        generalize signN (s.data.toList.drop p) = z at *
                        generalize hbt : bs ((s.data.toList.drop p).take z) = bt at *
                        have hne : bt.toList.isEmpty = false := by
                          rw [ByteArray.toList_eq]
                          have : bt.data.toList.length = z := hT2
                          cases hx : bt.data.toList with
                          | nil => rw [hx] at this; simp at this; omega
                          | cons a b => rfl
                        have hne2 : (bt.toList == []) = false := by cases hx : bt.toList with
                          | nil => rw [hx] at hne; cases hne
                          | cons a b => rfl
                        have hbox := Box.new wr _ rfl (.int .i64 0) (.int .i64 0) (.string ⟨#[]⟩) (.int .i64 0) 28
                        have HF2 := Lib.hid hF2
                        have HBT := Lib.hid hbt
                        have HT2 := Lib.hid hT2
                        clear hF hF2 hbt hT2
                        go_wp2_with fail
                        refine (HT _).out.mono ?_
                        rintro e w1 ⟨rfl, hb1⟩
                        have hbb := (Joins.below_alloc1 wr _).trans (hb1.mono (by simp))
                        have D := hbox.below hb1 (by simp)
                        have P := D.put (.int .i64 6) (.int .i64 0) (.string bt) (.int .i64 0)
                        obtain ⟨a0, a1, a2, a3, af, al⟩ := D
                        have hbz : bt.size ≤ 4000 := by rw [HT2.out]; omega
                        go_wp2_with fail
                        go_meet
                        exact ⟨by rw [HF2.out], by rw [HF2.out]; simp only; rw [HT2.out]; congr 1, by rw [HF2.out]; simp only; rw [HBT.out]; exact P, below_put4 hbb (Nat.le_refl _) _ _ _ _⟩
                case rest =>
                  obtain ⟨hc, rfl, hB, hb1⟩ := hcut
                  have hL' := lexAt_tok hL hlt hgb ho hc
                  have hzp := firstF_pos _ hc
                  have hzz := firstF_z (s.data.toList.drop p)
                  clear hL hgb ho HO HCl hgl hc HF
                  generalize firstF (s.data.toList.drop p) = fr at *
                  have hown1 := owns_below hown ((hb1.setCell (p := ⟨wr.heap.size, 3, none⟩) (Nat.le_refl _) (.int .i64 (p : Int))))
                  have hbel1 := hbel.trans ((hb1.setCell (p := ⟨wr.heap.size, 3, none⟩) (Nat.le_refl _) (.int .i64 (p : Int))).mono hBs)
                  have hBs1 : w.heap.size ≤ wc.heap.size := Nat.le_trans hBs hb1.size
                  have hB2 := hB.put3 (.int .i64 (p : Int))
                  obtain ⟨a0, a1, a2, a3, af, al⟩ := hB
                  obtain ⟨d0, d1, d2, d3, df, dl⟩ := hB2
                  go_wp2_with (at_builtin; go_loud (refine wpList_append_own _ rfl (.tmp 165) (.tmp 167) 24 rfl w.heap.size 28 i0 (.agg #[.int .i64 0, .int .i64 0, .string ⟨#[]⟩, .int .i64 0]) 4 40 Tryz.underlying24 hi hz0 hz1 hz2 rfl (by decide) _ acc.length (tc acc) rfl (hown1.alloc _) ⟨wc.heap.size, 0, none⟩ 1 1 (tkC (fr.tk p)) rfl rfl (new_cells_at _ _ (by simp) _ _ _ rfl) (tkC_one _) (by unfold maxLen; omega) (by omega) (by simp; omega) ?_); intro v' w2 hown2 hgrow _)
                  have O := owns_app (hown1.alloc _) (hbel1.alloc (by simp; omega) _) (Nat.le_refl _) (by simp; omega) hgrow
                  go_roundw
                  case rel => exact ⟨p + fr.z, acc ++ [fr.tk p], rfl, hL', owns_tok hown2, O.1, O.2⟩
                  case measure => simp [intOf]; simp at hzz; omega
            · as_aux_lemma =>
                have n95 : ((s[p].toNat : Int) != 95) = false := by simpa using h95
                have HCl := fun W => Lib.hid (l01Class_under (s[p].toNat : Int) W hcb (by simpa using h95))
                have HF := Lib.hid (drop_first s p hlt)
                go_upto_if 62 with (first | (go_at_call 17; refine (HO _).out.mono ?_; rintro e w' ⟨rfl, rfl⟩) | (go_at_call 19; refine (HCl _).out.mono ?_; rintro e w' ⟨rfl, rfl⟩))
                go_cut [10] (fun nx wx => TokRel p wr (firstF (s.data.toList.drop p)) nx wx)
                case first =>
                  have h95' : (s[p].toNat : Int) = 95 := by simpa using h95
                  have h34 : ¬ s[p].toNat = 34 := by omega
                  have h39 : ¬ s[p].toNat = 39 := by omega
                  clear h95'
                  have hF : firstF (s.data.toList.drop p) = symF (s.data.toList.drop p) := by rw [HF.out, if_neg (by rw [hd]; exact Bool.false_ne_true), if_neg (by rw [hlu]; exact Bool.false_ne_true), if_neg h39, if_neg h34]
                  have b34 : ((s[p].toNat : Int) == 34) = false := by simp; omega
                  have b39 : ((s[p].toNat : Int) == 39) = false := by simp; omega
                  have H34 := Lib.hid h34
                  have H39 := Lib.hid h39
                  clear h34 h39
                  have HT := fun W => Lib.hid (l02Sign s p W (by omega) hp)
                  by_cases hz0' : signN (s.data.toList.drop p) = 0
                  · have hR : R = ([], 2, p) := by
                      have hc : (firstF (s.data.toList.drop p)).code = 2 := by rw [hF]; rw [symF, if_pos hz0']; rfl
                      have := lexAt_bad hL hlt hgb ho (by rw [hc]; decide)
                      rw [hc] at this; exact this
                    have HR := Lib.hid hR
                    clear hR
                    have hT2 : (s.data.toList.drop p).take (signN (s.data.toList.drop p)) = [] := by rw [hz0']; rfl
                    rw [hT2, show bs [] = ⟨#[]⟩ from rfl] at HT
                    clear hz0' hT2
                    go_wp2_with fail
                    refine (HT _).out.mono ?_
                    rintro e w1 ⟨rfl, hb1⟩
                    go_wp2
                    try rw [Exit.noGoto_ret]
                    go_ret3
                    rw [HR.out]
                    exact ⟨_, rfl, ⟨rfl, .inl ⟨rfl, rfl⟩⟩, (hbel.trans (((Joins.below_alloc1 wr _).trans (hb1.mono (by simp))).mono hBs))⟩
                  · have hsn := signN_le (s.data.toList.drop p)
                    simp only [List.length_drop] at hsn
                    have hsl0 : s.data.toList.length = s.size := rfl
                    have hF2 : firstF (s.data.toList.drop p) = ⟨0, 6, 0, (s.data.toList.drop p).take (signN (s.data.toList.drop p)), signN (s.data.toList.drop p)⟩ := by rw [hF, symF, if_neg hz0']
                    have hT2 : (bs ((s.data.toList.drop p).take (signN (s.data.toList.drop p)))).size = signN (s.data.toList.drop p) := by rw [bs_size, List.length_take, List.length_drop]; omega
                    generalize signN (s.data.toList.drop p) = z at *
                    generalize hbt : bs ((s.data.toList.drop p).take z) = bt at *
                    have hne : bt.toList.isEmpty = false := by
                      rw [ByteArray.toList_eq]
                      have : bt.data.toList.length = z := hT2
                      cases hx : bt.data.toList with
                      | nil => rw [hx] at this; simp at this; omega
                      | cons a b => rfl
                    have hne2 : (bt.toList == []) = false := by cases hx : bt.toList with
                      | nil => rw [hx] at hne; cases hne
                      | cons a b => rfl
                    have hbox := Box.new wr _ rfl (.int .i64 0) (.int .i64 0) (.string ⟨#[]⟩) (.int .i64 0) 28
                    have HF2 := Lib.hid hF2
                    have HBT := Lib.hid hbt
                    have HT2 := Lib.hid hT2
                    clear hF hF2 hbt hT2
                    go_wp2_with fail
                    refine (HT _).out.mono ?_
                    rintro e w1 ⟨rfl, hb1⟩
                    have hbb := (Joins.below_alloc1 wr _).trans (hb1.mono (by simp))
                    have D := hbox.below hb1 (by simp)
                    have P := D.put (.int .i64 6) (.int .i64 0) (.string bt) (.int .i64 0)
                    obtain ⟨a0, a1, a2, a3, af, al⟩ := D
                    have hbz : bt.size ≤ 4000 := by rw [HT2.out]; omega
                    go_wp2_with fail
                    go_meet
                    exact ⟨by rw [HF2.out], by rw [HF2.out]; simp only; rw [HT2.out]; congr 1, by rw [HF2.out]; simp only; rw [HBT.out]; exact P, below_put4 hbb (Nat.le_refl _) _ _ _ _⟩
                case rest =>
                  obtain ⟨hc, rfl, hB, hb1⟩ := hcut
                  have hL' := lexAt_tok hL hlt hgb ho hc
                  have hzp := firstF_pos _ hc
                  have hzz := firstF_z (s.data.toList.drop p)
                  clear hL hgb ho HO HCl hgl hc HF
                  generalize firstF (s.data.toList.drop p) = fr at *
                  have hown1 := owns_below hown ((hb1.setCell (p := ⟨wr.heap.size, 3, none⟩) (Nat.le_refl _) (.int .i64 (p : Int))))
                  have hbel1 := hbel.trans ((hb1.setCell (p := ⟨wr.heap.size, 3, none⟩) (Nat.le_refl _) (.int .i64 (p : Int))).mono hBs)
                  have hBs1 : w.heap.size ≤ wc.heap.size := Nat.le_trans hBs hb1.size
                  have hB2 := hB.put3 (.int .i64 (p : Int))
                  obtain ⟨a0, a1, a2, a3, af, al⟩ := hB
                  obtain ⟨d0, d1, d2, d3, df, dl⟩ := hB2
                  go_wp2_with (at_builtin; go_loud (refine wpList_append_own _ rfl (.tmp 165) (.tmp 167) 24 rfl w.heap.size 28 i0 (.agg #[.int .i64 0, .int .i64 0, .string ⟨#[]⟩, .int .i64 0]) 4 40 Tryz.underlying24 hi hz0 hz1 hz2 rfl (by decide) _ acc.length (tc acc) rfl (hown1.alloc _) ⟨wc.heap.size, 0, none⟩ 1 1 (tkC (fr.tk p)) rfl rfl (new_cells_at _ _ (by simp) _ _ _ rfl) (tkC_one _) (by unfold maxLen; omega) (by omega) (by simp; omega) ?_); intro v' w2 hown2 hgrow _)
                  have O := owns_app (hown1.alloc _) (hbel1.alloc (by simp; omega) _) (Nat.le_refl _) (by simp; omega) hgrow
                  go_roundw
                  case rel => exact ⟨p + fr.z, acc ++ [fr.tk p], rfl, hL', owns_tok hown2, O.1, O.2⟩
                  case measure => simp [intOf]; simp at hzz; omega
          · cases hd : digB (s[p].toNat : Int)
            · as_aux_lemma =>
                have hlu : (lowB (s[p].toNat : Int) || upB (s[p].toNat : Int)) = true := by rw [hd] at hw; simpa using hw
                have HCl := fun W => Lib.hid (l01Class_letter (s[p].toNat : Int) W hcb hlu)
                have n95 := not_under _ hw
                have HF := Lib.hid (drop_first s p hlt)
                go_upto_if 62 with (first | (go_at_call 17; refine (HO _).out.mono ?_; rintro e w' ⟨rfl, rfl⟩) | (go_at_call 19; refine (HCl _).out.mono ?_; rintro e w' ⟨z, hzl0, hzl3, rfl, rfl⟩))
                go_cut [10] (fun nx wx => TokRel p wr (firstF (s.data.toList.drop p)) nx wx)
                case first =>
                  go_wp2_with fail
                  go_loop [10] (fun nx => ∃ q : Nat, nx = .int .i64 q ∧ WordTo s p q) (fun nx => s.size - (intOf nx).toNat)
                  case atStart => exact ⟨p, rfl, word_start s p hp⟩
                  case round =>
                    obtain ⟨q, rfl, hW⟩ := hrel
                    have hpq := hW.1
                    have hq := hW.2.1
                    by_cases hgo : ∃ hlq : q < s.size, wbB (s[q].toNat : Int) = true
                    · obtain ⟨hlq, hwb⟩ := hgo
                      have HCq := fun W => Lib.hid (l01Class_pos (s[q].toNat : Int) W (byte_bd _) hwb)
                      have hW2 := word_step hW hlq hwb
                      clear hwb
                      go_wp2_with (go_at_call 19; refine (HCq _).out.mono ?_; rintro e w' ⟨z, hz, rfl, rfl⟩)
                      go_round
                      case rel => exact ⟨q + 1, by go_num, hW2⟩
                      case measure => simp [intOf]; omega
                    · have hst2 : ∀ hlq : q < s.size, wbB (s[q].toNat : Int) = false := fun hlq => by
                        cases hx : wbB (s[q].toNat : Int)
                        · rfl
                        · exact absurd ⟨hlq, hx⟩ hgo
                      have hstop := word_stop hW hst2
                      have hml : (mid s p q).data.toList = (s.data.toList.drop p).take (wordN (s.data.toList.drop p)) := by rw [mid_list]; congr 1; omega
                      have hmz := mid_size s p q hq
                      have hsl := slice_mid s p q hpq hq (by omega)
                      have hF : firstF (s.data.toList.drop p) = wordF (mid s p q).data.toList := by rw [HF.out, if_neg (by rw [hd]; exact Bool.false_ne_true), if_pos hlu, hml]
                      rw [wordF_K] at hF
                      have hbox := Box.new wr _ rfl (.int .i64 0) (.int .i64 0) (.string ⟨#[]⟩) (.int .i64 0) 28
                      have HT := fun W => Lib.hid (l02Word (mid s p q) W (by omega))
                      by_cases hk0 : wordK (mid s p q) = 0
                      · have hR : R = ([], 5, p) := by
                          have hc : (firstF (s.data.toList.drop p)).code = 5 := by rw [hF, if_pos hk0]; rfl
                          have := lexAt_bad hL hlt hgb ho (by rw [hc]; decide)
                          rw [hc] at this; exact this
                        have HR := Lib.hid hR
                        clear hR
                        have t0 : (wordK (mid s p q) == 0) = true := by simp [hk0]
                        have HK0 := Lib.hid hk0
                        clear hF hml hmz hstop hgo hgl hk0
                        generalize wordK (mid s p q) = kk at *
                        by_cases hlq : q < s.size
                        · have HCq := fun W => Lib.hid (l01Class_no (s[q].toNat : Int) W (byte_bd _) (hst2 hlq))
                          clear hst2
                          go_wp2_with fail
                          refine (HCq _).out.mono ?_
                          rintro e w' ⟨rfl, rfl⟩
                          go_wp2_with fail
                          refine (HCl _).out.mono ?_
                          rintro e w' ⟨z2, hz02, hz32, rfl, rfl⟩
                          go_wp2_with fail
                          refine (HT _).out.mono ?_
                          rintro e w1 ⟨rfl, hb1⟩
                          have hbb := (Joins.below_alloc1 wr _).trans (hb1.mono (by simp))
                          have D := hbox.below hb1 (by simp)
                          have P := D.put (.int .i64 kk) (.int .i64 0) (.string (mid s p q)) (.int .i64 0)
                          obtain ⟨a0, a1, a2, a3, af, al⟩ := D
                          obtain ⟨d0, d1, d2, d3, df, dl⟩ := P
                          go_wp2
                          try rw [Exit.noGoto_ret]
                          go_ret3
                          rw [HR.out]
                          exact ⟨_, rfl, ⟨rfl, .inl ⟨rfl, rfl⟩⟩, (hbel.trans ((below_put4 hbb (Nat.le_refl _) _ _ _ _).mono hBs))⟩
                        · obtain rfl : q = s.size := by omega
                          clear hst2
                          go_wp2_with fail
                          refine (HCl _).out.mono ?_
                          rintro e w' ⟨z2, hz02, hz32, rfl, rfl⟩
                          go_wp2_with fail
                          refine (HT _).out.mono ?_
                          rintro e w1 ⟨rfl, hb1⟩
                          have hbb := (Joins.below_alloc1 wr _).trans (hb1.mono (by simp))
                          have D := hbox.below hb1 (by simp)
                          have P := D.put (.int .i64 kk) (.int .i64 0) (.string (mid s p s.size)) (.int .i64 0)
                          obtain ⟨a0, a1, a2, a3, af, al⟩ := D
                          obtain ⟨d0, d1, d2, d3, df, dl⟩ := P
                          go_wp2
                          try rw [Exit.noGoto_ret]
                          go_ret3
                          rw [HR.out]
                          exact ⟨_, rfl, ⟨rfl, .inl ⟨rfl, rfl⟩⟩, (hbel.trans ((below_put4 hbb (Nat.le_refl _) _ _ _ _).mono hBs))⟩
                      · have hF2 : firstF (s.data.toList.drop p) = ⟨0, wordK (mid s p q), 0, (mid s p q).data.toList, q - p⟩ := by rw [hF, if_neg hk0, hmz]
                        have t0 : (wordK (mid s p q) == 0) = false := by simpa using hk0
                        have HK0 := Lib.hid hk0
                        have HF2 := Lib.hid hF2
                        clear hF hF2 hml hmz hstop hgo hgl hk0
                        generalize wordK (mid s p q) = kk at *
                        by_cases hlq : q < s.size
                        · have HCq := fun W => Lib.hid (l01Class_no (s[q].toNat : Int) W (byte_bd _) (hst2 hlq))
                          clear hst2
                          go_wp2_with fail
                          refine (HCq _).out.mono ?_
                          rintro e w' ⟨rfl, rfl⟩
                          go_wp2_with fail
                          refine (HCl _).out.mono ?_
                          rintro e w' ⟨z2, hz02, hz32, rfl, rfl⟩
                          go_wp2_with fail
                          refine (HT _).out.mono ?_
                          rintro e w1 ⟨rfl, hb1⟩
                          have hbb := (Joins.below_alloc1 wr _).trans (hb1.mono (by simp))
                          have D := hbox.below hb1 (by simp)
                          have P := D.put (.int .i64 kk) (.int .i64 0) (.string (mid s p q)) (.int .i64 0)
                          have P' := P
                          obtain ⟨a0, a1, a2, a3, af, al⟩ := D
                          obtain ⟨d0, d1, d2, d3, df, dl⟩ := P
                          go_wp2_with fail
                          go_meet
                          exact ⟨by rw [HF2.out], by rw [HF2.out]; simp only; congr 1; omega, by rw [HF2.out]; rw [bs_eta]; exact P', below_put4 hbb (Nat.le_refl _) _ _ _ _⟩
                        · obtain rfl : q = s.size := by omega
                          clear hst2
                          go_wp2_with fail
                          refine (HCl _).out.mono ?_
                          rintro e w' ⟨z2, hz02, hz32, rfl, rfl⟩
                          go_wp2_with fail
                          refine (HT _).out.mono ?_
                          rintro e w1 ⟨rfl, hb1⟩
                          have hbb := (Joins.below_alloc1 wr _).trans (hb1.mono (by simp))
                          have D := hbox.below hb1 (by simp)
                          have P := D.put (.int .i64 kk) (.int .i64 0) (.string (mid s p s.size)) (.int .i64 0)
                          have P' := P
                          obtain ⟨a0, a1, a2, a3, af, al⟩ := D
                          obtain ⟨d0, d1, d2, d3, df, dl⟩ := P
                          go_wp2_with fail
                          go_meet
                          exact ⟨by rw [HF2.out], by rw [HF2.out]; simp only; congr 1; omega, by rw [HF2.out]; rw [bs_eta]; exact P', below_put4 hbb (Nat.le_refl _) _ _ _ _⟩
                case rest =>
                  obtain ⟨hc, rfl, hB, hb1⟩ := hcut
                  have hL' := lexAt_tok hL hlt hgb ho hc
                  have hzp := firstF_pos _ hc
                  have hzz := firstF_z (s.data.toList.drop p)
                  clear hL hgb ho HO HCl hgl hc HF
                  generalize firstF (s.data.toList.drop p) = fr at *
                  have hown1 := owns_below hown ((hb1.setCell (p := ⟨wr.heap.size, 3, none⟩) (Nat.le_refl _) (.int .i64 (p : Int))))
                  have hbel1 := hbel.trans ((hb1.setCell (p := ⟨wr.heap.size, 3, none⟩) (Nat.le_refl _) (.int .i64 (p : Int))).mono hBs)
                  have hBs1 : w.heap.size ≤ wc.heap.size := Nat.le_trans hBs hb1.size
                  have hB2 := hB.put3 (.int .i64 (p : Int))
                  obtain ⟨a0, a1, a2, a3, af, al⟩ := hB
                  obtain ⟨d0, d1, d2, d3, df, dl⟩ := hB2
                  go_wp2_with (at_builtin; go_loud (refine wpList_append_own _ rfl (.tmp 165) (.tmp 167) 24 rfl w.heap.size 28 i0 (.agg #[.int .i64 0, .int .i64 0, .string ⟨#[]⟩, .int .i64 0]) 4 40 Tryz.underlying24 hi hz0 hz1 hz2 rfl (by decide) _ acc.length (tc acc) rfl (hown1.alloc _) ⟨wc.heap.size, 0, none⟩ 1 1 (tkC (fr.tk p)) rfl rfl (new_cells_at _ _ (by simp) _ _ _ rfl) (tkC_one _) (by unfold maxLen; omega) (by omega) (by simp; omega) ?_); intro v' w2 hown2 hgrow _)
                  have O := owns_app (hown1.alloc _) (hbel1.alloc (by simp; omega) _) (Nat.le_refl _) (by simp; omega) hgrow
                  go_roundw
                  case rel => exact ⟨p + fr.z, acc ++ [fr.tk p], rfl, hL', owns_tok hown2, O.1, O.2⟩
                  case measure => simp [intOf]; simp at hzz; omega
            · as_aux_lemma =>
                have HCl := fun W => Lib.hid (l01Class (s[p].toNat : Int) W hcb)
                rw [cls_dig _ hd] at HCl
                have n95 := not_under _ hw
                have HF := Lib.hid (drop_first s p hlt)
                go_upto_if 62 with (first | (go_at_call 17; refine (HO _).out.mono ?_; rintro e w' ⟨rfl, rfl⟩) | (go_at_call 19; refine (HCl _).out.mono ?_; rintro e w' ⟨rfl, rfl⟩))
                go_cut [10] (fun nx wx => TokRel p wr (firstF (s.data.toList.drop p)) nx wx)
                case first =>
                  go_wp2_with fail
                  go_loop [10] (fun nx => ∃ q : Nat, nx = .int .i64 q ∧ WordTo s p q) (fun nx => s.size - (intOf nx).toNat)
                  case atStart => exact ⟨p, rfl, word_start s p hp⟩
                  case round =>
                    obtain ⟨q, rfl, hW⟩ := hrel
                    have hpq := hW.1
                    have hq := hW.2.1
                    by_cases hgo : ∃ hlq : q < s.size, wbB (s[q].toNat : Int) = true
                    · obtain ⟨hlq, hwb⟩ := hgo
                      have HCq := fun W => Lib.hid (l01Class_pos (s[q].toNat : Int) W (byte_bd _) hwb)
                      have hW2 := word_step hW hlq hwb
                      clear hwb
                      go_wp2_with (go_at_call 19; refine (HCq _).out.mono ?_; rintro e w' ⟨z, hz, rfl, rfl⟩)
                      go_round
                      case rel => exact ⟨q + 1, by go_num, hW2⟩
                      case measure => simp [intOf]; omega
                    · have hst2 : ∀ hlq : q < s.size, wbB (s[q].toNat : Int) = false := fun hlq => by
                        cases hx : wbB (s[q].toNat : Int)
                        · rfl
                        · exact absurd ⟨hlq, hx⟩ hgo
                      have hstop := word_stop hW hst2
                      have hml : (mid s p q).data.toList = (s.data.toList.drop p).take (wordN (s.data.toList.drop p)) := by rw [mid_list]; congr 1; omega
                      have hmz := mid_size s p q hq
                      have hsl := slice_mid s p q hpq hq (by omega)
                      have hF : firstF (s.data.toList.drop p) = numF (mid s p q).data.toList := by rw [HF.out, if_pos hd, hml]
                      have hbox := Box.new wr _ rfl (.int .i64 0) (.int .i64 0) (.string ⟨#[]⟩) (.int .i64 0) 28
                      cases hnum : numO (mid s p q).data.toList with
                      | some v =>
                        have hF2 : firstF (s.data.toList.drop p) = ⟨0, 1, v, [], q - p⟩ := by rw [hF, numF, hnum]; simp only; rw [show (mid s p q).data.toList.length = q - p from hmz]
                        have HT := fun W => Lib.hid (sTextNum_som (mid s p q) v W hnum)
                        have HF2 := Lib.hid hF2
                        clear hF hF2 hnum hml hmz hstop hgo hgl
                        by_cases hlq : q < s.size
                        · have HCq := fun W => Lib.hid (l01Class_no (s[q].toNat : Int) W (byte_bd _) (hst2 hlq))
                          clear hst2
                          go_wp2_with fail
                          refine (HCq _).out.mono ?_
                          rintro e w' ⟨rfl, rfl⟩
                          go_wp2_with fail
                          refine (HCl _).out.mono ?_
                          rintro e w' ⟨rfl, rfl⟩
                          go_wp2_with fail
                          refine (HT _).out.mono ?_
                          rintro e w1 ⟨rfl, hb1⟩
                          have hbb := (Joins.below_alloc1 wr _).trans (hb1.mono (by simp))
                          have D := hbox.below hb1 (by simp)
                          have P := D.put (.int .i64 1) (.int .i64 v) (.string ⟨#[]⟩) (.int .i64 0)
                          obtain ⟨a0, a1, a2, a3, af, al⟩ := D
                          go_wp2_with fail
                          go_meet
                          exact ⟨by rw [HF2.out], by rw [HF2.out]; simp only; congr 1; omega, by rw [HF2.out]; exact P, below_put4 hbb (Nat.le_refl _) _ _ _ _⟩
                        · obtain rfl : q = s.size := by omega
                          clear hst2
                          go_wp2_with fail
                          refine (HCl _).out.mono ?_
                          rintro e w' ⟨rfl, rfl⟩
                          go_wp2_with fail
                          refine (HT _).out.mono ?_
                          rintro e w1 ⟨rfl, hb1⟩
                          have hbb := (Joins.below_alloc1 wr _).trans (hb1.mono (by simp))
                          have D := hbox.below hb1 (by simp)
                          have P := D.put (.int .i64 1) (.int .i64 v) (.string ⟨#[]⟩) (.int .i64 0)
                          obtain ⟨a0, a1, a2, a3, af, al⟩ := D
                          go_wp2_with fail
                          go_meet
                          exact ⟨by rw [HF2.out], by rw [HF2.out]; simp only; congr 1; omega, by rw [HF2.out]; exact P, below_put4 hbb (Nat.le_refl _) _ _ _ _⟩
                      | none =>
                        have hR : R = ([], 3, p) := by
                          have hc : (firstF (s.data.toList.drop p)).code = 3 := by rw [hF, numF, hnum]; rfl
                          have := lexAt_bad hL hlt hgb ho (by rw [hc]; decide)
                          rw [hc] at this; exact this
                        have HR := Lib.hid hR
                        clear hR
                        have HT := fun W => Lib.hid (sTextNum_non (mid s p q) W (by omega) hnum)
                        clear hF hnum hml hmz hstop hgo hgl
                        by_cases hlq : q < s.size
                        · have HCq := fun W => Lib.hid (l01Class_no (s[q].toNat : Int) W (byte_bd _) (hst2 hlq))
                          clear hst2
                          go_wp2_with fail
                          refine (HCq _).out.mono ?_
                          rintro e w' ⟨rfl, rfl⟩
                          go_wp2_with fail
                          refine (HCl _).out.mono ?_
                          rintro e w' ⟨rfl, rfl⟩
                          go_wp2_with fail
                          refine (HT _).out.mono ?_
                          rintro e w1 ⟨rfl, hb1⟩
                          go_wp2
                          try rw [Exit.noGoto_ret]
                          go_ret3
                          rw [HR.out]
                          exact ⟨_, rfl, ⟨rfl, .inl ⟨rfl, rfl⟩⟩, (hbel.trans (((Joins.below_alloc1 wr _).trans (hb1.mono (by simp))).mono hBs))⟩
                        · obtain rfl : q = s.size := by omega
                          clear hst2
                          go_wp2_with fail
                          refine (HCl _).out.mono ?_
                          rintro e w' ⟨rfl, rfl⟩
                          go_wp2_with fail
                          refine (HT _).out.mono ?_
                          rintro e w1 ⟨rfl, hb1⟩
                          go_wp2
                          try rw [Exit.noGoto_ret]
                          go_ret3
                          rw [HR.out]
                          exact ⟨_, rfl, ⟨rfl, .inl ⟨rfl, rfl⟩⟩, (hbel.trans (((Joins.below_alloc1 wr _).trans (hb1.mono (by simp))).mono hBs))⟩
                case rest =>
                  obtain ⟨hc, rfl, hB, hb1⟩ := hcut
                  have hL' := lexAt_tok hL hlt hgb ho hc
                  have hzp := firstF_pos _ hc
                  have hzz := firstF_z (s.data.toList.drop p)
                  clear hL hgb ho HO HCl hgl hc HF
                  generalize firstF (s.data.toList.drop p) = fr at *
                  have hown1 := owns_below hown ((hb1.setCell (p := ⟨wr.heap.size, 3, none⟩) (Nat.le_refl _) (.int .i64 (p : Int))))
                  have hbel1 := hbel.trans ((hb1.setCell (p := ⟨wr.heap.size, 3, none⟩) (Nat.le_refl _) (.int .i64 (p : Int))).mono hBs)
                  have hBs1 : w.heap.size ≤ wc.heap.size := Nat.le_trans hBs hb1.size
                  have hB2 := hB.put3 (.int .i64 (p : Int))
                  obtain ⟨a0, a1, a2, a3, af, al⟩ := hB
                  obtain ⟨d0, d1, d2, d3, df, dl⟩ := hB2
                  go_wp2_with (at_builtin; go_loud (refine wpList_append_own _ rfl (.tmp 165) (.tmp 167) 24 rfl w.heap.size 28 i0 (.agg #[.int .i64 0, .int .i64 0, .string ⟨#[]⟩, .int .i64 0]) 4 40 Tryz.underlying24 hi hz0 hz1 hz2 rfl (by decide) _ acc.length (tc acc) rfl (hown1.alloc _) ⟨wc.heap.size, 0, none⟩ 1 1 (tkC (fr.tk p)) rfl rfl (new_cells_at _ _ (by simp) _ _ _ rfl) (tkC_one _) (by unfold maxLen; omega) (by omega) (by simp; omega) ?_); intro v' w2 hown2 hgrow _)
                  have O := owns_app (hown1.alloc _) (hbel1.alloc (by simp; omega) _) (Nat.le_refl _) (by simp; omega) hgrow
                  go_roundw
                  case rel => exact ⟨p + fr.z, acc ++ [fr.tk p], rfl, hL', owns_tok hown2, O.1, O.2⟩
                  case measure => simp [intOf]; simp at hzz; omega
        · rw [show (⟨#[40, 42]⟩ : ByteArray).data.toList = [40, 42] from rfl, ho0, ho] at HO
          have HS := fun W => Lib.hid (l02Remark s p W (by omega) hp ho)
          cases hz : remL 0 (s.data.toList.drop p) with
          | none =>
            have HR := Lib.hid (lexAt_open hL hlt hgb ho hz)
            have hI : remI s p = -1 := by rw [remI, hz]
            rw [hI] at HS
            clear hgl hL hgb hz ho ho0 hI
            go_wp2_with (first | (go_at_call 17; refine (HO _).out.mono ?_; rintro e w' ⟨rfl, rfl⟩))
            refine (HS _).out.mono ?_
            rintro e w1 ⟨rfl, rfl⟩
            go_wp2
            try rw [Exit.noGoto_ret]
            go_ret3
            rw [HR.out]
            exact ⟨_, rfl, ⟨rfl, .inl ⟨rfl, rfl⟩⟩, hbel⟩
          | some z =>
            have hL' := lexAt_remark hL hlt hgb ho hz
            have hzz := remL_le _ _ _ hz
            have hzr := hzz.2
            have hz2' := hzz.1
            have hI : remI s p = ((p + z : Nat) : Int) := by rw [remI, hz]
            rw [hI] at HS
            have hsl0 : s.data.toList.length = s.size := rfl
            simp only [List.length_drop] at hzr
            clear hgl hL hgb hz hzz ho ho0 hI
            go_wp2_with (first | (go_at_call 17; refine (HO _).out.mono ?_; rintro e w' ⟨rfl, rfl⟩))
            refine (HS _).out.mono ?_
            rintro e w1 ⟨rfl, rfl⟩
            go_wp2
            go_roundw
            case rel => exact ⟨p + z, acc, rfl, hL', hown, hbel, hBs⟩
            case measure => simp [intOf]; omega
      · have hL' := lexAt_blank hL hlt (by rw [hgl]; exact hb)
        rcases blank_yes _ hb with n9 | ⟨n9, n10⟩ | ⟨n9, n10, n13⟩ | ⟨n9, n10, n13, n32⟩
        all_goals
          clear hgl hL
          go_wp2
          go_roundw
          case rel => exact ⟨p + 1, acc, by go_num, hL', hown, hbel, hBs⟩
          case measure => simp [intOf]; omega
    · obtain rfl : p = s.size := by omega
      have hR := lexAt_end hL
      go_wp2
      go_ret3
      subst hR
      exact ⟨_, rfl, hown, hbel⟩
end Go.Proofs.YtjflnpcmjibcpaaGreatDoor
