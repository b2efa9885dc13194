/- The text of a type: woven out of the texts of its items (the program), and by recursion (the model). -/
import Derived.Test.YtdhpmblhejcehaaDoorOkIMath
namespace Go.Proofs.YtdhpmblhejcehaaDoor
set_option linter.unusedVariables false
open Go.RowKit

theorem pr_loop_len (bs : ByteArray) : ∀ (n i : Nat) (r : List UInt8), bs.size - i = n → (ByteArray.toList.loop bs i r) = r.reverse ++ bs.data.toList.drop i := by
  intro n
  induction n with
  | zero =>
    intro i r h
    unfold ByteArray.toList.loop
    have : ¬ i < bs.size := by omega
    have h2 : bs.data.toList.length ≤ i := by have e : bs.size = bs.data.toList.length := rfl; omega
    rw [if_neg this, List.drop_eq_nil_of_le h2, List.append_nil]
  | succ n ih =>
    intro i r h
    unfold ByteArray.toList.loop
    have hi : i < bs.size := by omega
    rw [if_pos hi, ih (i + 1) _ (by omega)]
    have hd : i < bs.data.toList.length := hi
    rw [List.drop_eq_getElem_cons hd, List.reverse_cons, List.append_assoc]
    congr 1
    show bs.get! i :: _ = _
    congr 1
    show bs.data[i]! = _
    rw [getElem!_pos bs.data i hi]; rfl
theorem pr_toList (bs : ByteArray) : bs.toList = bs.data.toList := by
  unfold ByteArray.toList; rw [pr_loop_len bs _ 0 [] rfl]; rfl
def arrowB (s : ByteArray) : Bool := s.toList == [45, 62] || s.toList == [42]
/-- The texts of an item: ahead of its first kid, between its kids, behind the last. vt: the text of a variable. -/
def itemT (vt : Int → List UInt8) (x : TyI) : List (List UInt8) :=
  if x.name.toList = [] then [vt x.var]
  else if x.arity = 0 then [x.name.toList]
  else if x.arity = 1 then [[40], [41, 32] ++ x.name.toList]
  else if arrowB x.name = true then [[40], [32] ++ x.name.toList ++ [32], [41]]
  else [[40], [44, 32], [41, 32] ++ x.name.toList]
/-- The model's text of the type that begins at a place. -/
def prTy (vt : Int → List UInt8) : Nat → List TyI → Int → List UInt8
  | 0, _, _ => []
  | f + 1, l, a => match l[a.toNat]? with
    | none => []
    | some x =>
      if x.name.toList = [] then vt x.var
      else if x.arity = 0 then x.name.toList
      else if x.arity = 1 then [40] ++ prTy vt f l (a + 1) ++ [41, 32] ++ x.name.toList
      else if arrowB x.name = true then [40] ++ prTy vt f l (a + 1) ++ [32] ++ x.name.toList ++ [32] ++ prTy vt f l (endF f l (a + 1)) ++ [41]
      else [40] ++ prTy vt f l (a + 1) ++ [44, 32] ++ prTy vt f l (endF f l (a + 1)) ++ [41, 32] ++ x.name.toList
/-- The visitor that gathers the pieces. -/
def vPr (vt : Int → List UInt8) (l : List TyI) (s : List (List UInt8)) (a d : Nat) (_ : Int) : Bool × List (List UInt8) :=
  (true, s ++ [match l[a]? with | some x => (itemT vt x)[d]?.getD [] | none => []])
theorem vPr_at (vt : Int → List UInt8) (l : List TyI) (s : List (List UInt8)) (a d : Nat) (n : Int) (h : a < l.length) : vPr vt l s a d n = (true, s ++ [(itemT vt l[a])[d]?.getD []]) := by
  unfold vPr
  rw [List.getElem?_eq_getElem h]
theorem item_arity {x : TyI} (h : itemB x = true) : x.arity = 0 ∨ x.arity = 1 ∨ x.arity = 2 := by
  unfold itemB at h
  split at h
  · simp only [Bool.and_eq_true, decide_eq_true_eq] at h; exact .inl h.2.2
  · split at h
    · split at h
      · exact .inr (.inr (by simpa using h))
      · split at h
        · exact .inr (.inl (by simpa using h))
        · simp only [Bool.and_eq_true, decide_eq_true_eq] at h; omega
    · cases h
theorem item_name {x : TyI} (h : itemB x = true) : x.name.toList.length ≤ 12 := by
  unfold itemB at h
  split at h
  · next hn => rw [hn]; simp
  · split at h
    · split at h
      · next hn => rcases hn with hn | hn <;> rw [hn] <;> simp
      · split at h
        · next hn => rw [hn]; simp
        · simp only [Bool.and_eq_true, decide_eq_true_eq] at h
          have hw := h.1
          unfold nameB wordB lenB at hw
          simp only [Bool.and_eq_true, decide_eq_true_eq] at hw
          rw [pr_toList]
          exact hw.1.1.2
    · cases h
theorem item_var {x : TyI} (h : itemB x = true) (hn : x.name.toList = []) : 0 ≤ x.var ∧ x.var ≤ 9999 ∧ x.arity = 0 := by
  unfold itemB at h
  rw [if_pos hn] at h
  simp only [Bool.and_eq_true, decide_eq_true_eq] at h
  exact ⟨h.1, h.2.1, h.2.2⟩
/-- What the walk gathers. -/
def Woven (vt : Int → List UInt8) (l : List TyI) (f : Nat) (a : Int) (P : List (List UInt8)) : Prop :=
  P.flatten = prTy vt f l a ∧ (P.flatten.length : Int) ≤ 40 * (endF f l a - a) ∧ (P.length : Int) ≤ 3 * (endF f l a - a)
theorem pr_walk (vt : Int → List UInt8) (hvt : ∀ v, 0 ≤ v → v ≤ 9999 → (vt v).length ≤ 22) (l : List TyI) (hall : ∀ x ∈ l, itemB x = true) :
    ∀ (f : Nat) (a : Int) (s : List (List UInt8)), 0 ≤ a → 0 ≤ endF f l a → ∃ P, walkS (vPr vt l) (l.map TyI.arity) f s a = (endF f l a, s ++ P) ∧ Woven vt l f a P := by
  intro f
  induction f with
  | zero => intro a s _ h; simp [endF] at h
  | succ f ih =>
    intro a s ha h
    obtain ⟨n, rfl⟩ : ∃ n : Nat, a = n := ⟨a.toNat, by omega⟩
    have hlt : n < l.length := by
      by_cases hc : n < l.length
      · exact hc
      · rw [endF_out _ _ _ (.inr (by omega))] at h; omega
    have hx := hall l[n] (List.getElem_mem hlt)
    have har := item_arity hx
    have hnm := item_name hx
    have hvar := item_var hx
    rw [walkS_in _ _ _ _ _ (by simpa using hlt)]
    simp only [vPr_at vt l _ n _ _ hlt, if_true, List.getElem_map]
    rw [endF_in f l n hlt] at h
    have hpr : ∀ P : List (List UInt8), Woven vt l (f + 1) n P ↔ (P.flatten = (if l[n].name.toList = [] then vt l[n].var
      else if l[n].arity = 0 then l[n].name.toList
      else if l[n].arity = 1 then [40] ++ prTy vt f l ((n : Int) + 1) ++ [41, 32] ++ l[n].name.toList
      else if arrowB l[n].name = true then [40] ++ prTy vt f l ((n : Int) + 1) ++ [32] ++ l[n].name.toList ++ [32] ++ prTy vt f l (endF f l ((n : Int) + 1)) ++ [41]
      else [40] ++ prTy vt f l ((n : Int) + 1) ++ [44, 32] ++ prTy vt f l (endF f l ((n : Int) + 1)) ++ [41, 32] ++ l[n].name.toList)
        ∧ (P.flatten.length : Int) ≤ 40 * (iterE (endF f l) l[n].arity.toNat ((n : Int) + 1) - n) ∧ (P.length : Int) ≤ 3 * (iterE (endF f l) l[n].arity.toNat ((n : Int) + 1) - n)) := by
      intro P
      unfold Woven
      rw [endF_in f l n hlt, prTy, Int.toNat_natCast, List.getElem?_eq_getElem hlt]
    simp only [hpr, endF_in f l n hlt]
    clear hpr hall
    generalize l[n] = x at *
    rcases har with h0 | h1 | h2
    · rw [h0]
      refine ⟨[(itemT vt x)[0]?.getD []], by simp [iterS, iterE], ?_⟩
      by_cases hn : x.name.toList = []
      · have := hvt x.var (hvar hn).1 (hvar hn).2.1
        simp [itemT, hn, iterE]; omega
      · simp [itemT, hn, h0, iterE]; omega
    · have hn : x.name.toList ≠ [] := fun e => by have := (hvar e).2.2; omega
      rw [h1] at h ⊢
      have e1 : (1 : Int).toNat = 1 := rfl
      rw [e1, iterE, if_neg (by omega)] at h
      simp only [iterE] at h
      obtain ⟨P, hP, hW1, hW2, hW3⟩ := ih ((n : Int) + 1) (s ++ [(itemT vt x)[0]?.getD []]) (by omega) h
      rw [e1]
      have hnl : ¬ endF f l ((n : Int) + 1) < 0 := by omega
      rw [iterS_yes (r := endF f l ((n : Int) + 1)) (s2 := s ++ [(itemT vt x)[0]?.getD []] ++ P) (s3 := s ++ [(itemT vt x)[0]?.getD []] ++ P ++ [(itemT vt x)[1]?.getD []]) hP hnl (by rfl)]
      refine ⟨[(itemT vt x)[0]?.getD []] ++ P ++ [(itemT vt x)[1]?.getD []], ?_, ?_, ?_, ?_⟩
      · rw [iterE, if_neg (by omega)]; simp [iterS, iterE]
      · simp [itemT, hn, h1, hW1]
      · rw [iterE, if_neg (by omega)]; simp [itemT, hn, h1, iterE] at hW2 ⊢; omega
      · rw [iterE, if_neg (by omega)]; simp [iterE] at hW3 ⊢; omega
    · have hn : x.name.toList ≠ [] := fun e => by have := (hvar e).2.2; omega
      rw [h2] at h ⊢
      have e1 : (2 : Int).toNat = 2 := rfl
      rw [e1, iterE, if_neg (by omega)] at h
      have hq : 0 ≤ endF f l ((n : Int) + 1) := by
        by_cases hc : 0 ≤ endF f l ((n : Int) + 1)
        · exact hc
        · rw [iterE, if_pos (by omega)] at h; omega
      rw [iterE, if_neg (by omega)] at h
      simp only [iterE] at h
      obtain ⟨P, hP, hW1, hW2, hW3⟩ := ih ((n : Int) + 1) (s ++ [(itemT vt x)[0]?.getD []]) (by omega) hq
      obtain ⟨P2, hP2, hV1, hV2, hV3⟩ := ih (endF f l ((n : Int) + 1)) (s ++ [(itemT vt x)[0]?.getD []] ++ P ++ [(itemT vt x)[1]?.getD []]) hq h
      rw [e1]
      have hnl : ¬ endF f l ((n : Int) + 1) < 0 := by omega
      have hnl2 : ¬ endF f l (endF f l ((n : Int) + 1)) < 0 := by omega
      rw [iterS_yes (r := endF f l ((n : Int) + 1)) (s2 := s ++ [(itemT vt x)[0]?.getD []] ++ P) (s3 := s ++ [(itemT vt x)[0]?.getD []] ++ P ++ [(itemT vt x)[1]?.getD []]) hP hnl (by rfl),
        iterS_yes (r := endF f l (endF f l ((n : Int) + 1))) (s2 := s ++ [(itemT vt x)[0]?.getD []] ++ P ++ [(itemT vt x)[1]?.getD []] ++ P2) (s3 := s ++ [(itemT vt x)[0]?.getD []] ++ P ++ [(itemT vt x)[1]?.getD []] ++ P2 ++ [(itemT vt x)[2]?.getD []]) hP2 hnl2 (by rfl)]
      refine ⟨[(itemT vt x)[0]?.getD []] ++ P ++ [(itemT vt x)[1]?.getD []] ++ P2 ++ [(itemT vt x)[2]?.getD []], ?_, ?_, ?_, ?_⟩
      · rw [iterE, if_neg (by omega), iterE, if_neg (by omega)]; simp [iterS, iterE]
      · cases hab : arrowB x.name <;> simp [itemT, hn, h2, hab, hW1, hV1]
      · rw [iterE, if_neg (by omega), iterE, if_neg (by omega)]
        cases hab : arrowB x.name <;> simp [itemT, hn, h2, hab, iterE] at hW2 hV2 ⊢ <;> omega
      · rw [iterE, if_neg (by omega), iterE, if_neg (by omega)]; simp [iterE] at hW3 hV3 ⊢; omega
/-- Of a right type. -/
theorem pr_ok (vt : Int → List UInt8) (hvt : ∀ v, 0 ≤ v → v ≤ 9999 → (vt v).length ≤ 22) (l : List TyI) (h : tyOkB l = true) :
    ∃ P, walkS (vPr vt l) (l.map TyI.arity) (l.length + 1) [] 0 = ((l.length : Int), P) ∧ P.flatten = prTy vt (l.length + 1) l 0 ∧ P.flatten.length ≤ 8000 ∧ P.length ≤ 600 := by
  unfold tyOkB at h
  simp only [Bool.and_eq_true, decide_eq_true_eq] at h
  obtain ⟨h0, h1, h2⟩ := h
  obtain ⟨P, hP, hW1, hW2, hW3⟩ := pr_walk vt hvt l (fun x hx => List.all_eq_true.1 h1 x hx) (l.length + 1) 0 [] (Int.le_refl _) (by rw [h2]; omega)
  rw [h2] at hP hW2 hW3
  exact ⟨P, by simpa using hP, hW1, by omega, by omega⟩
end Go.Proofs.YtdhpmblhejcehaaDoor
