/- The program's lexer: the first token, and all tokens. -/
import Derived.Test.YtjflnpcmjibcpaaGreatDoorLexI
import Derived.Test.YtjflnpcmjibcpaaGreatDoorTextNum
import Derived.Test.YtjflnpcmjibcpaaGreatDoorUnquoteI
import Derived.Test.YtjflnpcmjibcpaaGreatDoorShelf
import Derived.Test.YtjflnpcmjibcpaaGreatDoorBox
namespace Go.Proofs.YtjflnpcmjibcpaaGreatDoor
set_option linter.unusedVariables false
set_option maxRecDepth 100000
open Go.ChangeShapes Go.WideShapes Go.ChangeAt Go.RowKit

theorem TN_of (s : ByteArray) (v : Int) (h : numO s.data.toList = some v) : TN s v := (numO_iff _ _).1 h
theorem TN_no (s : ByteArray) (h : numO s.data.toList = none) : ∀ v, ¬ TN s v := fun v hv => by rw [(numO_iff _ v).2 hv] at h; cases h
theorem UQ_of (s : ByteArray) (t : List UInt8) (h : unqO s.data.toList = some t) : UQ s t := (unqO_iff _ _).1 h
theorem UQ_no (s : ByteArray) (h : unqO s.data.toList = none) : ∀ t, ¬ UQ s t := fun v hv => by rw [(unqO_iff _ v).2 hv] at h; cases h
theorem iTextNum_som (s : ByteArray) (v : Int) (w : World) (hs : s.size ≤ 1048576) (hV : Vars w) (h : numO s.data.toList = some v) :
    Calls Tryz.prog 47 #[.string s] w fun e w' => e = .returned (.tuple #[.int .i64 v, .bool true]) ∧ Below w.heap.size w w' := iTextNum_yes s v w hs hV (TN_of s v h)
theorem iTextNum_non (s : ByteArray) (w : World) (hs : s.size ≤ 1048576) (hV : Vars w) (h : numO s.data.toList = none) :
    Calls Tryz.prog 47 #[.string s] w fun e w' => e = .returned (.tuple #[.int .i64 0, .bool false]) ∧ Below w.heap.size w w' := iTextNum_no s w hs hV (TN_no s h)

theorem numberTok (s : ByteArray) (w : World) (hs : s.size ≤ 4000) (hV : Vars w) :
    Calls Tryz.prog 34 #[.string s] w fun e w' => e = .returned (ftV (numF s.data.toList)) ∧ Below w.heap.size w w' := by
  cases h : numO s.data.toList with
  | some v =>
    have hF : numF s.data.toList = ⟨0, 1, v, [], s.size⟩ := by rw [numF, h]; rfl
    have HT := fun W (hV : Vars W) => Lib.hid (iTextNum_som s v W (by omega) hV h)
    have HF := Lib.hid hF
    clear h hF
    go_enter Tryz.func34, Tryz.ntmps34
    go_wp2_with fail
    refine (HT _ (hV.below (Joins.below_alloc1 w _))).out.mono ?_
    rintro e w1 ⟨rfl, hb1⟩
    obtain ⟨⟨c0, c1, c2, c3⟩, hf, hz⟩ := resBox hb1
    have P := put4 c0 c1 c2 c3 (.int .i64 1) (.int .i64 v) (.string ⟨#[]⟩) (.int .i64 0)
    go_wp2
    clear c0 c1 c2 c3
    obtain ⟨c0, c1, c2, c3⟩ := P
    refine bodyPost_ret (v := ftV ⟨0, 1, v, [], s.size⟩) (by simp [results, Tryz.results34, go_sem, ftV, bs, c0, c1, c2, c3]) rfl ⟨by rw [HF.out], ?_⟩
    exact below_put4 ((Joins.below_alloc1 w _).trans (hb1.mono (by simp))) (Nat.le_refl _) _ _ _ _
  | none =>
    have hF : numF s.data.toList = .bad 3 := by rw [numF, h]
    have HT := fun W (hV : Vars W) => Lib.hid (iTextNum_non s W (by omega) hV h)
    have HF := Lib.hid hF
    clear h hF
    go_enter Tryz.func34, Tryz.ntmps34
    go_wp2_with fail
    refine (HT _ (hV.below (Joins.below_alloc1 w _))).out.mono ?_
    rintro e w1 ⟨rfl, hb1⟩
    obtain ⟨⟨c0, c1, c2, c3⟩, hf, hz⟩ := resBox hb1
    have P := put4 c0 c1 c2 c3 (.int .i64 0) (.int .i64 0) (.string ⟨#[]⟩) (.int .i64 0)
    go_wp2
    clear c0 c1 c2 c3
    obtain ⟨c0, c1, c2, c3⟩ := P
    refine bodyPost_ret (v := ftV (.bad 3)) (by simp [results, Tryz.results34, go_sem, ftV, FT.bad, bs, c0, c1, c2, c3]) rfl ⟨by rw [HF.out], ?_⟩
    exact below_put4 ((Joins.below_alloc1 w _).trans (hb1.mono (by simp))) (Nat.le_refl _) _ _ _ _
theorem wordTok (s : ByteArray) (w : World) (hs : s.size ≤ 4000) :
    Calls Tryz.prog 36 #[.string s] w fun e w' => e = .returned (ftV (wordF s.data.toList)) ∧ Below w.heap.size w w' := by
  have hm : s.size ≤ maxLen := by unfold maxLen; omega
  have hw : bs s.data.toList = s := bs_eta s
  have hl : s.data.toList.length = s.size := rfl
  cases h1 : nameB s <;> cases h2 : conB s <;> cases h3 : kwB s
  all_goals
    have HF : Hid (wordF s.data.toList = _) := Lib.hid (by rw [wordF, hw, h1, h2, h3, hl])
    have HW := Lib.hid hw
    clear hw hl
    go_enter Tryz.func36, Tryz.ntmps36
    go_wp2_with (first | (go_at_call 7; refine (iNameOk _ _ hm).mono ?_; rintro e w' ⟨rfl, rfl⟩) | (go_at_call 8; refine (iConOk _ _ hm).mono ?_; rintro e w' ⟨rfl, rfl⟩) | (go_at_call 27; refine (isKeyword _ _).mono ?_; rintro e w' ⟨rfl, rfl⟩))
    refine bodyPost_ret (v := ftV (wordF s.data.toList)) (by rw [HF.out]; first | (simp [results, Tryz.results36, go_sem, ftV, FT.bad, bs]; done) | simp [results, Tryz.results36, go_sem, ftV, HW.out]) rfl ⟨rfl, ?_⟩
    exact Joins.below_alloc1 w _
theorem stringTok (s : ByteArray) (w : World) (hs : s.size ≤ 4000) (h0 : 0 < s.size) (hV : Vars w) :
    Calls Tryz.prog 38 #[.string s] w fun e w' => e = .returned (ftV (strF s.data.toList)) ∧ Below w.heap.size w w' := by
  have hk : strSz s.data.toList ≤ s.size := strSz_le _ h0
  have hcs := cut_size s _ hk
  have hl := cut_list s (strSz s.data.toList)
  cases h : unqO (s.data.toList.take (strSz s.data.toList)) with
  | some t =>
    have hF := strF_some _ _ h
    have HT := fun W (hV : Vars W) => Lib.hid (iUnquote_yes (cut s (strSz s.data.toList)) t W (by omega) hV (UQ_of _ _ (by rw [hl]; exact h)))
    have HS := fun W => Lib.hid (stringSize' s W hs)
    have hsl := slice_cut s _ hk (by omega)
    clear h hl hcs
    generalize strSz s.data.toList = k at *
    have HF := Lib.hid hF
    clear hF
    go_enter Tryz.func38, Tryz.ntmps38
    go_wp2_with fail
    refine (HS _).out.mono ?_
    rintro e w' ⟨rfl, rfl⟩
    go_wp2_with fail
    refine (HT _ (hV.below (Joins.below_alloc1 w _))).out.mono ?_
    rintro e w1 ⟨rfl, hb1⟩
    obtain ⟨⟨c0, c1, c2, c3⟩, hf, hz⟩ := resBox hb1
    have P := put4 c0 c1 c2 c3 (.int .i64 2) (.int .i64 0) (.string ⟨t.toArray⟩) (.int .i64 0)
    go_wp2
    clear c0 c1 c2 c3
    obtain ⟨c0, c1, c2, c3⟩ := P
    refine bodyPost_ret (v := ftV ⟨0, 2, 0, t, k⟩) (by simp [results, Tryz.results38, go_sem, ftV, bs, c0, c1, c2, c3]) rfl ⟨by rw [HF.out], ?_⟩
    exact below_put4 ((Joins.below_alloc1 w _).trans (hb1.mono (by simp))) (Nat.le_refl _) _ _ _ _
  | none =>
    have hF := strF_none _ h
    have HT := fun W (hV : Vars W) => Lib.hid (iUnquote_no (cut s (strSz s.data.toList)) W (by omega) hV (UQ_no _ (by rw [hl]; exact h)))
    have HS := fun W => Lib.hid (stringSize' s W hs)
    have hsl := slice_cut s _ hk (by omega)
    clear h hl hcs
    generalize strSz s.data.toList = k at *
    have HF := Lib.hid hF
    clear hF
    go_enter Tryz.func38, Tryz.ntmps38
    go_wp2_with fail
    refine (HS _).out.mono ?_
    rintro e w' ⟨rfl, rfl⟩
    go_wp2_with fail
    refine (HT _ (hV.below (Joins.below_alloc1 w _))).out.mono ?_
    rintro e w1 ⟨rfl, hb1⟩
    obtain ⟨⟨c0, c1, c2, c3⟩, hf, hz⟩ := resBox hb1
    have P := put4 c0 c1 c2 c3 (.int .i64 0) (.int .i64 0) (.string ⟨#[]⟩) (.int .i64 0)
    go_wp2
    clear c0 c1 c2 c3
    obtain ⟨c0, c1, c2, c3⟩ := P
    refine bodyPost_ret (v := ftV (.bad 4)) (by simp [results, Tryz.results38, go_sem, ftV, FT.bad, bs, c0, c1, c2, c3]) rfl ⟨by rw [HF.out], ?_⟩
    exact below_put4 ((Joins.below_alloc1 w _).trans (hb1.mono (by simp))) (Nat.le_refl _) _ _ _ _
theorem first_get (s : ByteArray) (h0 : 0 < s.size) : firstF s.data.toList = (if digB (s[0].toNat : Int) then numF (s.data.toList.take (wordN s.data.toList)) else if lowB (s[0].toNat : Int) || upB (s[0].toNat : Int) then wordF (s.data.toList.take (wordN s.data.toList))
    else if s[0].toNat = 39 then varF s.data.toList else if s[0].toNat = 34 then strF s.data.toList else symF s.data.toList) := by
  have hd := drop_at s 0 h0
  rw [List.drop_zero] at hd
  rw [hd, firstF, ← hd]
theorem firstTok_num (s : ByteArray) (w : World) (hs : s.size ≤ 4000) (h0 : 0 < s.size) (hV : Vars w) (hd : digB (s[0].toNat : Int) = true) :
    Calls Tryz.prog 16 #[.string s] w fun e w' => e = .returned (ftV (firstF s.data.toList)) ∧ Below w.heap.size w w' := by
  have hF := first_get s h0
  rw [if_pos hd] at hF
  have hb := byte_bd s[0]
  have hk := wordN_le s.data.toList
  have hk' : wordN s.data.toList ≤ s.size := hk
  have hcs := cut_size s _ hk'
  have hcl := cut_list s (wordN s.data.toList)
  have HN := fun W (hV : Vars W) => Lib.hid (numberTok (cut s (wordN s.data.toList)) W (by omega) hV)
  rw [hcl, ← hF] at HN
  have HS := fun W => Lib.hid (wordSize s W hs)
  have hsl := slice_cut s _ hk' (by omega)
  clear hcl hcs hF hk
  generalize wordN s.data.toList = k at *
  generalize firstF s.data.toList = r at *
  unfold ftV at HN
  go_enter Tryz.func16, Tryz.ntmps16
  go_wp2_with (first | (go_at_call 33; refine (isDigit _ _ hb).mono ?_; rintro e w' ⟨rfl, rfl⟩))
  refine (HS _).out.mono ?_
  rintro e w1 ⟨rfl, hb1⟩
  have hb1' := (Joins.below_alloc1 w _).trans (hb1.mono (by simp))
  go_wp2_with fail
  refine (HN _ (hV.below hb1')).out.mono ?_
  rintro e w2 ⟨rfl, hb2⟩
  have hb3 := hb1.trans (hb2.mono hb1.size)
  obtain ⟨⟨c0, c1, c2, c3⟩, hf, hz⟩ := resBox hb3
  have P := put4 c0 c1 c2 c3 (.int .i64 r.k) (.int .i64 r.n) (.string (bs r.s)) (.int .i64 0)
  go_wp2
  clear c0 c1 c2 c3
  obtain ⟨c0, c1, c2, c3⟩ := P
  refine bodyPost_ret (v := ftV r) (by simp [results, Tryz.results16, go_sem, ftV, c0, c1, c2, c3]) rfl ⟨rfl, ?_⟩
  exact below_put4 ((Joins.below_alloc1 w _).trans (hb3.mono (by simp))) (Nat.le_refl _) _ _ _ _
theorem firstTok_low (s : ByteArray) (w : World) (hs : s.size ≤ 4000) (h0 : 0 < s.size) (hd : digB (s[0].toNat : Int) = false) (hl : lowB (s[0].toNat : Int) = true) :
    Calls Tryz.prog 16 #[.string s] w fun e w' => e = .returned (ftV (firstF s.data.toList)) ∧ Below w.heap.size w w' := by
  have hF := first_get s h0
  rw [if_neg (by rw [hd]; exact Bool.false_ne_true), if_pos (by rw [hl]; rfl)] at hF
  have hb := byte_bd s[0]
  have hk := wordN_le s.data.toList
  have hk' : wordN s.data.toList ≤ s.size := hk
  have hcs := cut_size s _ hk'
  have hcl := cut_list s (wordN s.data.toList)
  have HN := fun W => Lib.hid (wordTok (cut s (wordN s.data.toList)) W (by omega))
  rw [hcl, ← hF] at HN
  have HS := fun W => Lib.hid (wordSize s W hs)
  have hsl := slice_cut s _ hk' (by omega)
  clear hcl hcs hF hk
  generalize wordN s.data.toList = k at *
  generalize firstF s.data.toList = r at *
  unfold ftV at HN
  go_enter Tryz.func16, Tryz.ntmps16
  go_wp2_with (first | (go_at_call 33; refine (isDigit _ _ hb).mono ?_; rintro e w' ⟨rfl, rfl⟩) | (go_at_call 26; refine (isLower _ _ hb).mono ?_; rintro e w' ⟨rfl, rfl⟩) | (go_at_call 28; refine (isUpper _ _ hb).mono ?_; rintro e w' ⟨rfl, rfl⟩))
  refine (HS _).out.mono ?_
  rintro e w1 ⟨rfl, hb1⟩
  go_wp2_with fail
  refine (HN _).out.mono ?_
  rintro e w2 ⟨rfl, hb2⟩
  have hb3 := hb1.trans (hb2.mono hb1.size)
  obtain ⟨⟨c0, c1, c2, c3⟩, hf, hz⟩ := resBox hb3
  have P := put4 c0 c1 c2 c3 (.int .i64 r.k) (.int .i64 r.n) (.string (bs r.s)) (.int .i64 0)
  go_wp2
  clear c0 c1 c2 c3
  obtain ⟨c0, c1, c2, c3⟩ := P
  refine bodyPost_ret (v := ftV r) (by simp [results, Tryz.results16, go_sem, ftV, c0, c1, c2, c3]) rfl ⟨rfl, ?_⟩
  exact below_put4 ((Joins.below_alloc1 w _).trans (hb3.mono (by simp))) (Nat.le_refl _) _ _ _ _
theorem firstTok_up (s : ByteArray) (w : World) (hs : s.size ≤ 4000) (h0 : 0 < s.size) (hd : digB (s[0].toNat : Int) = false) (hl : lowB (s[0].toNat : Int) = false) (hu : upB (s[0].toNat : Int) = true) :
    Calls Tryz.prog 16 #[.string s] w fun e w' => e = .returned (ftV (firstF s.data.toList)) ∧ Below w.heap.size w w' := by
  have hF := first_get s h0
  rw [if_neg (by rw [hd]; exact Bool.false_ne_true), if_pos (by rw [hl, hu]; rfl)] at hF
  have hb := byte_bd s[0]
  have hk := wordN_le s.data.toList
  have hk' : wordN s.data.toList ≤ s.size := hk
  have hcs := cut_size s _ hk'
  have hcl := cut_list s (wordN s.data.toList)
  have HN := fun W => Lib.hid (wordTok (cut s (wordN s.data.toList)) W (by omega))
  rw [hcl, ← hF] at HN
  have HS := fun W => Lib.hid (wordSize s W hs)
  have hsl := slice_cut s _ hk' (by omega)
  clear hcl hcs hF hk
  generalize wordN s.data.toList = k at *
  generalize firstF s.data.toList = r at *
  unfold ftV at HN
  go_enter Tryz.func16, Tryz.ntmps16
  go_wp2_with (first | (go_at_call 33; refine (isDigit _ _ hb).mono ?_; rintro e w' ⟨rfl, rfl⟩) | (go_at_call 26; refine (isLower _ _ hb).mono ?_; rintro e w' ⟨rfl, rfl⟩) | (go_at_call 28; refine (isUpper _ _ hb).mono ?_; rintro e w' ⟨rfl, rfl⟩))
  refine (HS _).out.mono ?_
  rintro e w1 ⟨rfl, hb1⟩
  go_wp2_with fail
  refine (HN _).out.mono ?_
  rintro e w2 ⟨rfl, hb2⟩
  have hb3 := hb1.trans (hb2.mono hb1.size)
  obtain ⟨⟨c0, c1, c2, c3⟩, hf, hz⟩ := resBox hb3
  have P := put4 c0 c1 c2 c3 (.int .i64 r.k) (.int .i64 r.n) (.string (bs r.s)) (.int .i64 0)
  go_wp2
  clear c0 c1 c2 c3
  obtain ⟨c0, c1, c2, c3⟩ := P
  refine bodyPost_ret (v := ftV r) (by simp [results, Tryz.results16, go_sem, ftV, c0, c1, c2, c3]) rfl ⟨rfl, ?_⟩
  exact below_put4 ((Joins.below_alloc1 w _).trans (hb3.mono (by simp))) (Nat.le_refl _) _ _ _ _
theorem firstTok_var (s : ByteArray) (w : World) (hs : s.size ≤ 4000) (h0 : 0 < s.size) (hd : digB (s[0].toNat : Int) = false) (hl : lowB (s[0].toNat : Int) = false) (hu : upB (s[0].toNat : Int) = false) (hc : s[0].toNat = 39) :
    Calls Tryz.prog 16 #[.string s] w fun e w' => e = .returned (ftV (firstF s.data.toList)) ∧ Below w.heap.size w w' := by
  have hF := first_get s h0
  rw [if_neg (by rw [hd]; exact Bool.false_ne_true), if_neg (by rw [hl, hu]; exact Bool.false_ne_true), if_pos hc] at hF
  have hb := byte_bd s[0]
  have b1 : ((s[0].toNat : Int) == 39) = true := by simp [hc]
  have hc' := Lib.hid hc
  clear hc
  have HN := fun W => Lib.hid (varTok s W hs)
  rw [← hF] at HN
  clear hF
  generalize firstF s.data.toList = r at *
  unfold ftV at HN
  go_enter Tryz.func16, Tryz.ntmps16
  go_wp2_with (first | (go_at_call 33; refine (isDigit _ _ hb).mono ?_; rintro e w' ⟨rfl, rfl⟩) | (go_at_call 26; refine (isLower _ _ hb).mono ?_; rintro e w' ⟨rfl, rfl⟩) | (go_at_call 28; refine (isUpper _ _ hb).mono ?_; rintro e w' ⟨rfl, rfl⟩))
  refine (HN _).out.mono ?_
  rintro e w2 ⟨rfl, hb3⟩
  obtain ⟨⟨c0, c1, c2, c3⟩, hf, hz⟩ := resBox hb3
  have P := put4 c0 c1 c2 c3 (.int .i64 r.k) (.int .i64 r.n) (.string (bs r.s)) (.int .i64 0)
  go_wp2
  clear c0 c1 c2 c3
  obtain ⟨c0, c1, c2, c3⟩ := P
  refine bodyPost_ret (v := ftV r) (by simp [results, Tryz.results16, go_sem, ftV, c0, c1, c2, c3]) rfl ⟨rfl, ?_⟩
  exact below_put4 ((Joins.below_alloc1 w _).trans (hb3.mono (by simp))) (Nat.le_refl _) _ _ _ _
theorem firstTok_str (s : ByteArray) (w : World) (hs : s.size ≤ 4000) (h0 : 0 < s.size) (hV : Vars w) (hd : digB (s[0].toNat : Int) = false) (hl : lowB (s[0].toNat : Int) = false) (hu : upB (s[0].toNat : Int) = false) (hc : s[0].toNat = 34) :
    Calls Tryz.prog 16 #[.string s] w fun e w' => e = .returned (ftV (firstF s.data.toList)) ∧ Below w.heap.size w w' := by
  have hF := first_get s h0
  rw [if_neg (by rw [hd]; exact Bool.false_ne_true), if_neg (by rw [hl, hu]; exact Bool.false_ne_true), if_neg (by omega), if_pos hc] at hF
  have hb := byte_bd s[0]
  have b1 : ((s[0].toNat : Int) == 39) = false := by simp [hc]
  have b2 : ((s[0].toNat : Int) == 34) = true := by simp [hc]
  have hc' := Lib.hid hc
  clear hc
  have HN := fun W (hV : Vars W) => Lib.hid (stringTok s W hs h0 hV)
  rw [← hF] at HN
  clear hF
  generalize firstF s.data.toList = r at *
  unfold ftV at HN
  go_enter Tryz.func16, Tryz.ntmps16
  go_wp2_with (first | (go_at_call 33; refine (isDigit _ _ hb).mono ?_; rintro e w' ⟨rfl, rfl⟩) | (go_at_call 26; refine (isLower _ _ hb).mono ?_; rintro e w' ⟨rfl, rfl⟩) | (go_at_call 28; refine (isUpper _ _ hb).mono ?_; rintro e w' ⟨rfl, rfl⟩))
  refine (HN _ (hV.below (Joins.below_alloc1 w _))).out.mono ?_
  rintro e w2 ⟨rfl, hb3⟩
  obtain ⟨⟨c0, c1, c2, c3⟩, hf, hz⟩ := resBox hb3
  have P := put4 c0 c1 c2 c3 (.int .i64 r.k) (.int .i64 r.n) (.string (bs r.s)) (.int .i64 0)
  go_wp2
  clear c0 c1 c2 c3
  obtain ⟨c0, c1, c2, c3⟩ := P
  refine bodyPost_ret (v := ftV r) (by simp [results, Tryz.results16, go_sem, ftV, c0, c1, c2, c3]) rfl ⟨rfl, ?_⟩
  exact below_put4 ((Joins.below_alloc1 w _).trans (hb3.mono (by simp))) (Nat.le_refl _) _ _ _ _
theorem firstTok_sym (s : ByteArray) (w : World) (hs : s.size ≤ 4000) (h0 : 0 < s.size) (hd : digB (s[0].toNat : Int) = false) (hl : lowB (s[0].toNat : Int) = false) (hu : upB (s[0].toNat : Int) = false) (hc : s[0].toNat ≠ 39) (hc2 : s[0].toNat ≠ 34) :
    Calls Tryz.prog 16 #[.string s] w fun e w' => e = .returned (ftV (firstF s.data.toList)) ∧ Below w.heap.size w w' := by
  have hF := first_get s h0
  rw [if_neg (by rw [hd]; exact Bool.false_ne_true), if_neg (by rw [hl, hu]; exact Bool.false_ne_true), if_neg hc, if_neg hc2] at hF
  have hb := byte_bd s[0]
  have b1 : ((s[0].toNat : Int) == 39) = false := by simp; omega
  have b2 : ((s[0].toNat : Int) == 34) = false := by simp; omega
  have hc' := Lib.hid hc
  have hc2' := Lib.hid hc2
  clear hc hc2
  have HN := fun W => Lib.hid (symbolTok s W hs)
  rw [← hF] at HN
  clear hF
  generalize firstF s.data.toList = r at *
  unfold ftV at HN
  go_enter Tryz.func16, Tryz.ntmps16
  go_wp2_with (first | (go_at_call 33; refine (isDigit _ _ hb).mono ?_; rintro e w' ⟨rfl, rfl⟩) | (go_at_call 26; refine (isLower _ _ hb).mono ?_; rintro e w' ⟨rfl, rfl⟩) | (go_at_call 28; refine (isUpper _ _ hb).mono ?_; rintro e w' ⟨rfl, rfl⟩))
  refine (HN _).out.mono ?_
  rintro e w2 ⟨rfl, hb3⟩
  obtain ⟨⟨c0, c1, c2, c3⟩, hf, hz⟩ := resBox hb3
  have P := put4 c0 c1 c2 c3 (.int .i64 r.k) (.int .i64 r.n) (.string (bs r.s)) (.int .i64 0)
  go_wp2
  clear c0 c1 c2 c3
  obtain ⟨c0, c1, c2, c3⟩ := P
  refine bodyPost_ret (v := ftV r) (by simp [results, Tryz.results16, go_sem, ftV, c0, c1, c2, c3]) rfl ⟨rfl, ?_⟩
  exact below_put4 ((Joins.below_alloc1 w _).trans (hb3.mono (by simp))) (Nat.le_refl _) _ _ _ _
theorem firstTok (s : ByteArray) (w : World) (hs : s.size ≤ 4000) (h0 : 0 < s.size) (hV : Vars w) :
    Calls Tryz.prog 16 #[.string s] w fun e w' => e = .returned (ftV (firstF s.data.toList)) ∧ Below w.heap.size w w' := by
  cases hd : digB (s[0].toNat : Int)
  · cases hl : lowB (s[0].toNat : Int)
    · cases hu : upB (s[0].toNat : Int)
      · by_cases h39 : s[0].toNat = 39
        · exact firstTok_var s w hs h0 hd hl hu h39
        · by_cases h34 : s[0].toNat = 34
          · exact firstTok_str s w hs h0 hV hd hl hu h34
          · exact firstTok_sym s w hs h0 hd hl hu h39 h34
      · exact firstTok_up s w hs h0 hd hl hu
    · exact firstTok_low s w hs h0 hd hl
  · exact firstTok_num s w hs h0 hV hd
end Go.Proofs.YtjflnpcmjibcpaaGreatDoor
