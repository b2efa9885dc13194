/- The model's text of a type. -/
import Derived.Test.YtdgadjikdnmnoaaDoorOkS
import Derived.Test.YtdgadjikdnmnoaaDoorPrMath
import Derived.Test.YtdgadjikdnmnoaaDoorDigits
namespace Go.Proofs.YtdgadjikdnmnoaaDoor
set_option linter.unusedVariables false
set_option maxRecDepth 100000
open Go.ChangeShapes Go.WideShapes Go.ChangeAt Go.RowKit

/-- The text of a variable. -/
def varL (v : Int) : List UInt8 := if 25 < v then [39, 122] ++ numL v else [39, UInt8.ofNat (97 + v.toNat)]
theorem numL_len (v : Int) (h0 : 0 ≤ v) (h1 : v ≤ 9999) : (numL v).length ≤ 20 := by
  unfold numL Lib.itoa
  split
  · rw [if_neg (by omega)]; exact digits_len _ (by omega)
  · simp
theorem varL_len (v : Int) (h0 : 0 ≤ v) (h1 : v ≤ 9999) : (varL v).length ≤ 22 := by
  unfold varL
  split
  · have := numL_len v h0 h1; simp; omega
  · simp
theorem sVar (v : Int) (w : World) (h0 : 0 ≤ v) (h1 : v ≤ 9999) :
    Calls Tryd.prog 21 #[.int .i64 v] w fun e w' => e = .returned (.string ⟨(varL v).toArray⟩) ∧ Below w.heap.size w w' := by
  by_cases hv : 25 < v
  · have HB := Lib.hid (show varL v = [39, 122] ++ numL v from by rw [varL, if_pos hv])
    have hN := fun W => sNumText v W (by omega)
    have hl := numL_len v h0 h1
    have hl2 : 2 + (numL v).length ≤ 9223372036854775807 := by omega
    go_enter Tryd.func21, Tryd.ntmps21
    go_wp2_with (go_at_call 34; refine (hN _).mono ?_; rintro e w1 ⟨rfl, hb⟩)
    go_ret
    exact ⟨by rw [HB.out]; exact ret_str (str_app [39, 122] _), hb⟩
  · have HB := Lib.hid (show varL v = [39] ++ [UInt8.ofNat (97 + v.toNat)] from by rw [varL, if_neg hv]; rfl)
    obtain ⟨m, rfl⟩ : ∃ m : Nat, v = m := ⟨v.toNat, by omega⟩
    have hm : m ≤ 25 := by omega
    have hcv := fun (W : World) (n : Nat) (hc : W.cell? ⟨n, 0, none⟩ = some (.int .u8 (97 + (m : Int)))) => digit_of _ W n hc (97 + m) (by omega) (by omega) (by omega)
    have hw : IntKind.i64.wrap (97 + (m : Int)) = 97 + (m : Int) := IntWalk.i64_in _ (by omega)
    have hw2 : IntKind.u8.wrap (97 + (m : Int)) = 97 + (m : Int) := IntWalk.u8_in _ (by omega)
    clear h0 h1
    go_enter Tryd.func21, Tryd.ntmps21
    go_wp2
    go_ret
    exact ⟨by rw [HB.out]; rw [Int.toNat_natCast, UInt8.ofNat_add]; exact ret_str (str_app [39] [_]), (Below.refl _ _).alloc (Nat.le_refl _) _⟩
theorem prTy_len (l : List TyI) (hall : ∀ x ∈ l, itemB x = true) (f : Nat) (a : Int) (h0 : 0 ≤ a) (h : 0 ≤ endF f l a) : ((prTy varL f l a).length : Int) ≤ 40 * (endF f l a - a) := by
  obtain ⟨P, _, h1, h2, _⟩ := pr_walk varL varL_len l hall f a [] h0 h
  rw [← h1]; exact h2
theorem sTyText (l : List TyI) (hall : ∀ x ∈ l, itemB x = true) (hl : l.length ≤ 200) : ∀ (f : Nat) (v : Value) (a : Int) (w : World) (hR : RowRd 3 TyIEl w v l) (ha : 0 ≤ a) (he : 0 ≤ endF f l a) (hf : (l.length : Int) < a + f),
    Calls Tryd.prog 11 #[.agg #[v], .int .i64 a] w fun e w' => e = .returned (.string ⟨(prTy varL f l a).toArray⟩) ∧ Below w.heap.size w w' := by
  intro f
  induction f with
  | zero =>
    intro v a w hR ha he hf
    simp [endF] at he
  | succ f ih =>
    intro v a w hR ha he hf
    have hR0 := hR
    obtain ⟨p, cap, rfl, hm, hR⟩ := hR.form
    obtain ⟨n, rfl⟩ : ∃ n : Nat, a = n := ⟨a.toNat, by omega⟩
    have hn : n < l.length := by
      by_cases hc : n < l.length
      · exact hc
      · rw [endF_out _ _ _ (.inr (by omega))] at he; omega
    obtain ⟨b, o, rfl, hbw, hc⟩ := hR (by omega)
    have ex := hc n hn
    have hx := hall l[n] (List.getElem_mem hn)
    have har := item_arity hx
    have hnm := item_name hx
    have hvar := item_var hx
    have HP := Lib.hid (show prTy varL (f + 1) l (n : Int) = _ from by rw [prTy, Int.toNat_natCast, List.getElem?_eq_getElem hn])
    simp only at HP
    rw [endF_in f l n hn] at he
    have hE := fun w v hR => sEnd f l v ((n : Int) + 1) w hR ⟨by omega, by omega⟩ (.inr (by omega))
    have ih1 := fun w v hR he => ih v ((n : Int) + 1) w hR (by omega) he (by omega)
    have ih2 := fun w v hR (hg : (n : Int) + 1 ≤ endF f l ((n : Int) + 1)) he => ih v (endF f l ((n : Int) + 1)) w hR (by omega) he (by omega)
    have hgt : ∀ k, iterE (endF f l) k ((n : Int) + 1) = -1 ∨ (n : Int) + 1 ≤ iterE (endF f l) k ((n : Int) + 1) := fun k => iter_gt f l k _ (by omega)
    have hlt := iter_le f l 1 ((n : Int) + 1) (by omega)
    have hlt2 := iter_le f l 2 ((n : Int) + 1) (by omega)
    clear hc hR ih
    have hl1 := fun h => prTy_len l hall f ((n : Int) + 1) (by omega) h
    have hl2 := fun h0 h => prTy_len l hall f (endF f l ((n : Int) + 1)) h0 h
    generalize l[n] = x at *
    obtain ⟨⟨e0, i0⟩, ⟨e1, i1⟩, ⟨e2, i2⟩⟩ := ex
    have hns : x.name.size ≤ 12 := by rw [pr_toList] at hnm; exact hnm
    have h2 : (n : Int) < l.length := by omega
    have hap : ∀ (s : ByteArray) (k : List UInt8), s ++ ⟨k.toArray⟩ = ⟨(s.toList ++ k).toArray⟩ := fun s k => by rw [pr_toList]; exact str_app s.data.toList k
    have hself : (⟨x.name.toList.toArray⟩ : ByteArray) = x.name := by rw [pr_toList]
    by_cases hn0 : x.name.toList = []
    · obtain ⟨v0, v1, v2⟩ := hvar hn0
      have h1 : x.name.toList.isEmpty = true := by simp [hn0]
      have HB : Hid (prTy varL (f + 1) l (n : Int) = varL x.var) := by show _ = _; rw [HP.out, if_pos hn0]
      have hV := fun W => sVar x.var W v0 v1
      clear HP hE ih1 ih2 hgt hl1 hl2 hlt hlt2 hn0 he har hvar hap hself
      go_enter Tryd.func11, Tryd.ntmps11
      go_wp2_with (go_at_call 21; refine (hV _).mono ?_; rintro e w1 ⟨rfl, hb⟩)
      go_ret
      exact ⟨by rw [HB.out]; rfl, below_tr (Joins.below_alloc2 w _ _) hb⟩
    have h1 : x.name.toList.isEmpty = false := by simpa using hn0
    have HS := Lib.hid hself
    have HA := Lib.hid hap
    clear hself hap
    rcases har with h0 | har
    · have HB : Hid (prTy varL (f + 1) l (n : Int) = x.name.toList) := by show _ = _; rw [HP.out, if_neg hn0, if_pos h0]
      have t0 : (x.arity == 0) = true := by simpa using h0
      clear HP hE ih1 ih2 hgt hl1 hl2 hlt hlt2 hn0 he hvar h0
      go_enter Tryd.func11, Tryd.ntmps11
      go_wp2
      go_ret
      exact ⟨by rw [HB.out, HS.out]; rfl, Joins.below_alloc2 w _ _⟩
    have t0 : (x.arity == 0) = false := by simp; omega
    have he1 : 0 ≤ endF f l ((n : Int) + 1) := by
      rcases har with h | h
      · rw [h, show (1 : Int).toNat = 1 from rfl, iterE, if_neg (by omega)] at he; simpa only [iterE] using he
      · rw [h, show (2 : Int).toNat = 2 from rfl, iterE, if_neg (by omega)] at he
        by_cases hc : 0 ≤ endF f l ((n : Int) + 1)
        · exact hc
        · rw [iterE, if_pos (by omega)] at he; omega
    have hlA := hl1 he1
    have hT1 := fun W (hK : Kept w W) => Lib.hid (ih1 W _ (hR0.kept TyIEl.st hK) he1)
    have hle1 : endF f l ((n : Int) + 1) ≤ 200 := by
      rw [iterE, if_neg (by omega)] at hlt; simp only [iterE] at hlt; omega
    rcases har with h0 | h0
    · have HB : Hid (prTy varL (f + 1) l (n : Int) = [40] ++ prTy varL f l ((n : Int) + 1) ++ [41, 32] ++ x.name.toList) := by show _ = _; rw [HP.out, if_neg hn0, if_neg (by omega), if_pos h0]
      have ta : (x.arity == 1) = true := by simpa using h0
      generalize prTy varL f l ((n : Int) + 1) = A1 at *
      have hA1 : A1.length ≤ 8000 := by omega
      have hw : IntKind.i64.wrap ((n : Int) + 1) = (n : Int) + 1 := IntWalk.i64_in _ (by omega)
      clear HP hE ih1 ih2 hgt hl1 hl2 hlt hlt2 hn0 he hvar h0 hlA he1 hle1
      go_enter Tryd.func11, Tryd.ntmps11
      go_wp2_with (go_at_call 11; refine (hT1 _ (Kept.al2 _ _ _)).out.mono ?_; rintro e w1 ⟨rfl, hb⟩; obtain ⟨hcl, hfr⟩ := bcell hb)
      go_ret
      refine ⟨by rw [HB.out]; exact ret_str (by simp only [← str_app]; rw [HS.out]), below_tr (Joins.below_alloc2 w _ _) hb⟩
    · have ta : (x.arity == 1) = false := by simp; omega
      have he2 : 0 ≤ endF f l (endF f l ((n : Int) + 1)) := by
        rw [h0, show (2 : Int).toNat = 2 from rfl, iterE, if_neg (by omega), iterE, if_neg (by omega)] at he
        simpa only [iterE] using he
      have hg1 := hgt 1
      rw [iterE, if_neg (by omega)] at hg1
      simp only [iterE] at hg1
      have hle2 : endF f l (endF f l ((n : Int) + 1)) ≤ 200 := by
        rw [iterE, if_neg (by omega), iterE, if_neg (by omega)] at hlt2; simp only [iterE] at hlt2; omega
      have hlB := hl2 he1 he2
      have hT2 := fun W (hK : Kept w W) => Lib.hid (ih2 W _ (hR0.kept TyIEl.st hK) (by omega) he2)
      have hE' := fun W (hK : Kept w W) => Lib.hid (hE W _ (hR0.kept TyIEl.st hK))
      have HB : Hid (prTy varL (f + 1) l (n : Int) = if arrowB x.name = true then [40] ++ prTy varL f l ((n : Int) + 1) ++ [32] ++ x.name.toList ++ [32] ++ prTy varL f l (endF f l ((n : Int) + 1)) ++ [41]
          else [40] ++ prTy varL f l ((n : Int) + 1) ++ [44, 32] ++ prTy varL f l (endF f l ((n : Int) + 1)) ++ [41, 32] ++ x.name.toList) := by show _ = _; rw [HP.out, if_neg hn0, if_neg (by omega), if_neg (by omega)]
      generalize prTy varL f l ((n : Int) + 1) = A1 at *
      generalize prTy varL f l (endF f l ((n : Int) + 1)) = A2 at *
      generalize endF f l ((n : Int) + 1) = m at *
      have hA1 : A1.length ≤ 8000 := by omega
      have hA2 : A2.length ≤ 8000 := by omega
      have hw : IntKind.i64.wrap ((n : Int) + 1) = (n : Int) + 1 := IntWalk.i64_in _ (by omega)
      clear HP hE ih1 ih2 hgt hl1 hl2 hlt hlt2 hn0 he hvar h0 hlA hlB he1 hle1 he2 hle2 hg1
      go_enter Tryd.func11, Tryd.ntmps11
      go_wp2_with (go_at_call 11; refine (hT1 _ (Kept.al2 _ _ _)).out.mono ?_; rintro e w1 ⟨rfl, hb⟩; have hdone := 0; fail)
      refine (hT1 _ (Kept.al2 _ _ _)).out.mono ?_
      rintro e w1 ⟨rfl, hb⟩
      have Bt := below_tr (Joins.below_alloc2 w _ _) hb
      have K1 := Kept.of_below Bt
      have z1 := hb.size
      simp at z1
      have c0 : w1.cell? ⟨w.heap.size, 0, none⟩ = some (.slice (some ⟨b, o, none⟩) l.length cap) := by rw [hb.cell (p := ⟨w.heap.size, 0, none⟩) (by simp; omega)]; simp
      have c1 : w1.cell? ⟨w.heap.size + 1, 1, none⟩ = some (.string x.name) := by rw [hb.cell (p := ⟨w.heap.size + 1, 1, none⟩) (by simp)]; simp
      have c2 : w1.cell? ⟨w.heap.size + 1, 2, none⟩ = some (.int .i64 x.arity) := by rw [hb.cell (p := ⟨w.heap.size + 1, 2, none⟩) (by simp)]; simp
      clear hb hT1 hR hR0 e0 e1 e2
      go_wp2_with fail
      go_region_held3 (fun w' => w'.cell? ⟨w.heap.size, 0, none⟩ = some (.slice (some ⟨b, o, none⟩) l.length cap) ∧ w'.cell? ⟨w.heap.size + 1, 1, none⟩ = some (.string x.name) ∧ Kept w1 w')
        (first | exact ⟨c0, c1, Kept.refl _⟩ | exact ⟨c0, c1, Kept.drew _⟩ | exact ⟨(hbE.cell (p := ⟨w.heap.size, 0, none⟩) (by show w.heap.size < w1.heap.size; omega)).trans c0, (hbE.cell (p := ⟨w.heap.size + 1, 1, none⟩) (by show w.heap.size + 1 < w1.heap.size; omega)).trans c1, (Kept.drew _).trans (Kept.of_below hbE)⟩ | exact ⟨(hbT.cell (p := ⟨w.heap.size, 0, none⟩) (by show w.heap.size < wE.heap.size; have := hbE.size; simp at this; omega)).trans ((hbE.cell (p := ⟨w.heap.size, 0, none⟩) (by show w.heap.size < w1.heap.size; omega)).trans c0), (hbT.cell (p := ⟨w.heap.size + 1, 1, none⟩) (by show w.heap.size + 1 < wE.heap.size; have := hbE.size; simp at this; omega)).trans ((hbE.cell (p := ⟨w.heap.size + 1, 1, none⟩) (by show w.heap.size + 1 < w1.heap.size; omega)).trans c1), ((Kept.drew _).trans (Kept.of_below hbE)).trans (Kept.of_below hbT)⟩)
        (first | (go_at_call 20; refine (hE' _ (K1.trans (by first | exact Kept.drew _ | exact Kept.refl _))).out.mono ?_; rintro e wE ⟨rfl, hbE⟩) | (go_at_call 11; refine (hT2 _ ((K1.trans (Kept.drew _)).trans (Kept.of_below hbE))).out.mono ?_; rintro e wT ⟨rfl, hbT⟩))
      have Bx : Below w.heap.size w wT := below_tr Bt ((Below.refl _ _).drew.trans (hbE.trans (hbT.mono hbE.size)))
      have x1 : wT.cell? ⟨w.heap.size + 1, 1, none⟩ = some (.string x.name) := (hbT.cell (p := ⟨w.heap.size + 1, 1, none⟩) (by show w.heap.size + 1 < wE.heap.size; have := hbE.size; simp at this; omega)).trans ((hbE.cell (p := ⟨w.heap.size + 1, 1, none⟩) (by show w.heap.size + 1 < w1.heap.size; omega)).trans c1)
      clear c0 c1 c2 K1 Bt hbE hbT hE' hT2
      cases hab : arrowB x.name
      · rw [hab] at HB
        have HB' : Hid (prTy varL (f + 1) l (n : Int) = [40] ++ A1 ++ [44, 32] ++ A2 ++ [41, 32] ++ x.name.toList) := HB
        simp only [arrowB, Bool.or_eq_false_iff] at hab
        obtain ⟨q1, q2⟩ := hab
        clear HB
        go_wp2
        go_ret
        refine ⟨by rw [HB'.out]; exact ret_str (by simp only [← str_app]; rw [HS.out]), Bx⟩
      · rw [hab] at HB
        have HB' : Hid (prTy varL (f + 1) l (n : Int) = [40] ++ A1 ++ [32] ++ x.name.toList ++ [32] ++ A2 ++ [41]) := HB
        simp only [arrowB, Bool.or_eq_true] at hab
        clear HB
        by_cases q1 : (x.name.toList == [45, 62]) = true
        · clear hab
          go_wp2
          go_ret
          refine ⟨by rw [HB'.out]; exact ret_str (by simp only [← str_app]; rw [HS.out]), Bx⟩
        · have q2 : (x.name.toList == [42]) = true := hab.resolve_left q1
          have q1' : (x.name.toList == [45, 62]) = false := by simpa using q1
          clear hab q1
          go_wp2
          go_ret
          refine ⟨by rw [HB'.out]; exact ret_str (by simp only [← str_app]; rw [HS.out]), Bx⟩
/-- What PrintTy answers. -/
def prTyRes (l : List TyI) : ByteArray := if tyOkB l = true then ⟨(prTy varL (l.length + 1) l 0).toArray⟩ else ⟨#[]⟩
theorem tyOk_parts {l : List TyI} (h : tyOkB l = true) : (∀ x ∈ l, itemB x = true) ∧ l.length ≤ 200 ∧ endF (l.length + 1) l 0 = l.length := by
  unfold tyOkB at h
  simp only [Bool.and_eq_true, decide_eq_true_eq] at h
  obtain ⟨h0, h1, h2⟩ := h
  exact ⟨fun x hx => List.all_eq_true.1 h1 x hx, by omega, h2⟩
theorem sPrintTyC (l : List TyI) (v : Value) (w : World) (hR : RowRd 3 TyIEl w v l) (hz : bTy l ≤ 1048576) :
    Calls Tryd.prog 5 #[.agg #[v]] w fun e w' => e = .returned (.string (prTyRes l)) ∧ Below w.heap.size w w' := by
  have hR0 := hR
  obtain ⟨p, cap, rfl, hm, hR⟩ := hR.form
  clear hR
  have hO := fun W (hK : Kept w W) => Lib.hid (sTyOk l _ W (hR0.kept TyIEl.st hK))
  cases hb : tyOkB l
  · rw [hb] at hO
    have HB := Lib.hid (show prTyRes l = ⟨#[]⟩ from by rw [prTyRes, hb]; rfl)
    clear hR0
    go_enter Tryd.func5, Tryd.ntmps5
    go_wp2_with (go_at_call 10; refine (hO _ (Kept.alloc _ _)).out.mono ?_; rintro e w1 ⟨rfl, hb1⟩; obtain ⟨hcl, hfr⟩ := bcell hb1)
    go_ret
    exact ⟨by rw [HB.out]; rfl, below_tr (Joins.below_alloc1 w _) hb1⟩
  · rw [hb] at hO
    obtain ⟨h1, h2, h3⟩ := tyOk_parts hb
    have HB := Lib.hid (show prTyRes l = ⟨(prTy varL (l.length + 1) l 0).toArray⟩ from by rw [prTyRes, if_pos hb])
    have hT := fun W (hK : Kept w W) => Lib.hid (sTyText l h1 h2 (l.length + 1) _ 0 W (hR0.kept TyIEl.st hK) (Int.le_refl _) (by omega) (by omega))
    clear hR0 h1 h3
    go_enter Tryd.func5, Tryd.ntmps5
    go_wp2_with (first | (go_at_call 10; refine (hO _ (Kept.alloc _ _)).out.mono ?_; rintro e w1 ⟨rfl, hb1⟩; have B1 := below_tr (Joins.below_alloc1 w _) hb1; obtain ⟨hcl, hfr⟩ := bcell hb1) | (go_at_call 11; refine (hT _ (Kept.of_below B1)).out.mono ?_; rintro e w2 ⟨rfl, hb2⟩))
    go_ret
    exact ⟨by rw [HB.out]; rfl, below_tr B1 hb2⟩
end Go.Proofs.YtdgadjikdnmnoaaDoor
