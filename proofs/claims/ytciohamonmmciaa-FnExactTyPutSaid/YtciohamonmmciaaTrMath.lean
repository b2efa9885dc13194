/- A type as a tree, by its items in preorder. -/
import Derived.Test.YtciohamonmmciaaOkMath
import Derived.Test.YtciohamonmmciaaVs
namespace Go.Proofs.Ytciohamonmmciaa
set_option linter.unusedVariables false
open Go.RowKit

theorem loop_len (bs : ByteArray) : ∀ (n i : Nat) (r : List UInt8), bs.size - i = n → (ByteArray.toList.loop bs i r) = r.reverse ++ bs.data.toList.drop i := by
  intro n
  induction n with
  | zero =>
    intro i r h
    unfold ByteArray.toList.loop
    have : ¬ i < bs.size := by omega
    have h2 : bs.data.toList.length ≤ i := by have e : bs.size = bs.data.toList.length := rfl; omega
    rw [if_neg this, List.drop_eq_nil_of_le h2, List.append_nil]
  | succ n ih =>
    intro i r h
    unfold ByteArray.toList.loop
    have hi : i < bs.size := by omega
    rw [if_pos hi, ih (i + 1) _ (by omega)]
    have hd : i < bs.data.toList.length := hi
    rw [List.drop_eq_getElem_cons hd, List.reverse_cons, List.append_assoc]
    congr 1
    show bs.get! i :: _ = _
    congr 1
    show bs.data[i]! = _
    rw [getElem!_pos bs.data i hi]; rfl
theorem toList_data (bs : ByteArray) : bs.toList = bs.data.toList := by
  unfold ByteArray.toList; rw [loop_len bs _ 0 [] rfl]; rfl
def noName : ByteArray := ⟨#[]⟩
/-- The items of one tree. -/
inductive IsTr : List TyI → Prop
  | var (n : Int) (h : I64 n) : IsTr [⟨n, noName, 0⟩]
  | con (s : ByteArray) (ls : List (List TyI)) (hs : s.toList ≠ []) (hm : s.size ≤ maxLen) (h : ∀ t ∈ ls, IsTr t) : IsTr (⟨0, s, ls.length⟩ :: ls.flatten)
theorem noName_of {s : ByteArray} (h : s.toList = []) : s = noName := by
  have h1 := toList_data s
  rw [h] at h1
  obtain ⟨⟨l⟩⟩ := s
  have : l = [] := h1.symm
  rw [this]; rfl
theorem end_iter (g : Int → Int) (l : List TyI) (hg : ∀ n : Nat, 0 ≤ g n → ∃ m : Nat, g n = ((n + m : Nat) : Int) ∧ n + m ≤ l.length ∧ IsTr ((l.drop n).take m)) :
    ∀ (k n : Nat), n ≤ l.length → 0 ≤ iterE g k n → ∃ (ls : List (List TyI)) (m : Nat), ls.length = k ∧ (∀ t ∈ ls, IsTr t) ∧ iterE g k n = ((n + m : Nat) : Int) ∧ n + m ≤ l.length ∧ (l.drop n).take m = ls.flatten := by
  intro k
  induction k with
  | zero => intro n hn h; exact ⟨[], 0, rfl, fun t ht => by simp at ht, by simp [iterE], by omega, by simp⟩
  | succ k ih =>
    intro n hn h
    have hlt : ¬ ((n : Int) < 0) := by omega
    rw [iterE, if_neg hlt] at h ⊢
    have h0 : 0 ≤ g n := by
      by_cases hc : 0 ≤ g n
      · exact hc
      · rw [iterE_neg g k (g n) (by omega)] at h; omega
    obtain ⟨m, hm, hml, ht⟩ := hg n h0
    rw [hm] at h ⊢
    obtain ⟨ls, m2, h1, h2, h3, h4, h5⟩ := ih (n + m) hml h
    refine ⟨(l.drop n).take m :: ls, m + m2, by simp [h1], fun t ht' => ?_, by rw [h3]; congr 1; omega, by omega, ?_⟩
    · rcases List.mem_cons.1 ht' with rfl | ht'
      · exact ht
      · exact h2 t ht'
    · rw [List.flatten_cons, ← h5, List.take_add, List.drop_drop]
theorem end_tree (l : List TyI) (hall : ∀ x ∈ l, itemB x = true ∧ x.name.size ≤ maxLen) : ∀ (f a : Nat), 0 ≤ endF f l a → ∃ m : Nat, endF f l a = ((a + m : Nat) : Int) ∧ a + m ≤ l.length ∧ IsTr ((l.drop a).take m) := by
  intro f
  induction f with
  | zero => intro a h; simp [endF] at h
  | succ f ih =>
    intro a h
    have hlt : ¬ ((a : Int) < 0) := by omega
    rw [endF, if_neg hlt] at h ⊢
    have hal : a < l.length := by
      by_cases hc : a < l.length
      · exact hc
      · rw [show (a : Int).toNat = a from by omega, List.getElem?_eq_none (by omega)] at h; simp at h
    rw [show (a : Int).toNat = a from by omega, List.getElem?_eq_getElem hal] at h ⊢
    simp only at h ⊢
    obtain ⟨hb, hm⟩ := hall l[a] (List.getElem_mem hal)
    have hd : l.drop a = l[a] :: l.drop (a + 1) := List.drop_eq_getElem_cons hal
    generalize l[a] = x at *
    obtain ⟨ls, m, h1, h2, h3, h4, h5⟩ := end_iter (endF f l) l ih x.arity.toNat (a + 1) (by omega) (by rw [show ((a + 1 : Nat) : Int) = (a : Int) + 1 from by omega]; exact h)
    rw [show ((a + 1 : Nat) : Int) = (a : Int) + 1 from by omega] at h3
    refine ⟨m + 1, by rw [h3]; congr 1; omega, by omega, ?_⟩
    rw [hd, List.take_succ_cons, h5]
    obtain ⟨v, s, ar⟩ := x
    unfold itemB at hb
    simp only at hb h1 hm
    by_cases hn : s.toList = []
    · rw [if_pos hn] at hb
      simp only [Bool.and_eq_true, decide_eq_true_eq] at hb
      obtain ⟨b1, b2, b3⟩ := hb
      subst b3
      obtain rfl : ls = [] := List.eq_nil_of_length_eq_zero (by simpa using h1)
      rw [noName_of hn]
      exact .var v ⟨by omega, by omega⟩
    · rw [if_neg hn] at hb
      by_cases hv : v = 0
      · rw [if_pos hv] at hb
        have ha : 0 ≤ ar := by
          split at hb
          · have : ar = 2 := by simpa using hb
            omega
          · split at hb
            · have : ar = 1 := by simpa using hb
              omega
            · simp only [Bool.and_eq_true, decide_eq_true_eq] at hb; exact hb.2.1
        subst hv
        have : ar = (ls.length : Int) := by omega
        subst this
        exact .con s ls hn hm h2
      · rw [if_neg hv] at hb; cases hb
theorem ty_tree {x : List TyI} (h : tyOkB x = true) (hs : ∀ y ∈ x, y.name.size ≤ maxLen) : IsTr x := by
  unfold tyOkB at h
  simp only [Bool.and_eq_true, decide_eq_true_eq] at h
  obtain ⟨h0, h1, h2⟩ := h
  have ha : ∀ y ∈ x, itemB y = true ∧ y.name.size ≤ maxLen := fun y hy => ⟨List.all_eq_true.1 h1 y hy, hs y hy⟩
  obtain ⟨m, e, _, ht⟩ := end_tree x ha (x.length + 1) 0 (by show 0 ≤ endF (x.length + 1) x 0; omega)
  have : m = x.length := by have e' : endF (x.length + 1) x 0 = ((0 + m : Nat) : Int) := e; omega
  subst this
  simpa using ht
theorem row_names {w : World} {v : Value} {x : List TyI} (h : RowRd 3 TyIEl w v x) : ∀ y ∈ x, y.name.size ≤ maxLen := by
  intro y hy
  obtain ⟨i, hi, rfl⟩ := List.getElem_of_mem hy
  obtain ⟨a, cap, -, -, hR⟩ := h.form
  obtain ⟨b, o, -, -, hc⟩ := hR (by omega)
  exact (hc i hi).2.1.2
theorem IsTr.pos {t : List TyI} (h : IsTr t) : 0 < t.length := by cases h <;> simp
end Go.Proofs.Ytciohamonmmciaa
