/- Texts of this proof, merged: SmP, QpMath, QuoteMath, QpM, SmQ, SmS, OkN, OkO, OkR. -/
import Derived.Test.YtaibgnfjjbncpaaGreatM7
import Derived.Test.YtaibgnfjjbncpaaGreatM8
import Derived.Test.YtaibgnfjjbncpaaGreatM4
import Derived.Deep.DeepCutAuto
namespace Go.Proofs.YtaibgnfjjbncpaaGreat
set_option linter.unusedVariables false
set_option maxRecDepth 100000
open Go.RowKit

/-- What a word is: 1 '_', 2 a name, 3 a number, 4 a constructor. -/
def wc (w : List UInt8) : Int := match w with
  | [] => 0
  | c :: _ => if c = 95 then 1 else if (48 ≤ c.toNat ∧ c.toNat ≤ 57) ∨ c = 45 then 3 else if c = 91 ∨ (65 ≤ c.toNat ∧ c.toNat ≤ 90) then 4 else if w = [116, 114, 117, 101] ∨ w = [102, 97, 108, 115, 101] then 4 else 2
def conW (s : ByteArray) : Prop := s.toList = [116, 114, 117, 101] ∨ s.toList = [102, 97, 108, 115, 101] ∨ s.toList = [91, 93] ∨ conB s = true
theorem con_up {s : ByteArray} (h : conB s = true) : (∃ c t, s.toList = c :: t ∧ 65 ≤ c.toNat ∧ c.toNat ≤ 90) ∧ Wd s.toList := by
  have h0 := h
  unfold conB wordB lenB at h
  simp only [Bool.and_eq_true, decide_eq_true_eq] at h
  obtain ⟨⟨⟨h1, _⟩, h3⟩, h2⟩ := h
  rw [fst_get s (by omega)] at h2
  unfold upB at h2
  simp only [Bool.and_eq_true, decide_eq_true_eq] at h2
  rw [pr_toList]
  refine ⟨?_, fun c hc => ?_⟩
  · obtain ⟨⟨l⟩⟩ := s
    cases l with
    | nil => simp [ByteArray.size] at h1
    | cons c t =>
      have e : (⟨⟨c :: t⟩⟩ : ByteArray)[0]'(by simp [ByteArray.size]) = c := rfl
      rw [e] at h2
      exact ⟨c, t, rfl, by omega, by omega⟩
  · unfold allB at h3
    rw [List.all_eq_true] at h3
    exact wb_dl c (h3 c hc)
theorem conW_wd {s : ByteArray} (h : conW s) : Wd s.toList := by
  rcases h with h | h | h | h
  · rw [h]; intro c hc; simp only [List.mem_cons, List.not_mem_nil, or_false] at hc; rcases hc with rfl | rfl | rfl | rfl <;> decide
  · rw [h]; intro c hc; simp only [List.mem_cons, List.not_mem_nil, or_false] at hc; rcases hc with rfl | rfl | rfl | rfl | rfl <;> decide
  · rw [h]; intro c hc; simp only [List.mem_cons, List.not_mem_nil, or_false] at hc; rcases hc with rfl | rfl <;> decide
  · exact (con_up h).2
theorem wc_con {s : ByteArray} (h : conW s) : wc s.toList = 4 := by
  rcases h with h | h | h | h
  · rw [h]; rfl
  · rw [h]; rfl
  · rw [h]; rfl
  · obtain ⟨⟨c, t, e, h1, h2⟩, _⟩ := con_up h
    rw [e]
    unfold wc
    simp only
    rw [if_neg (by rintro rfl; simp at h2), if_neg (by rintro (h3 | rfl); · omega
                                                       · simp at h1), if_pos (.inr ⟨h1, h2⟩)]
theorem wc_name {s : ByteArray} (h : nameB s = true) : wc s.toList = 2 := by
  obtain ⟨c, t, e, h1, h2⟩ := name_low h
  have hk : kwB s = false := by
    unfold nameB at h
    simp only [Bool.and_eq_true, Bool.not_eq_true'] at h
    exact h.2.2
  have n1 : s.toList ≠ [116, 114, 117, 101] := fun e2 => by
    unfold kwB at hk; rw [e2] at hk; revert hk; decide
  have n2 : s.toList ≠ [102, 97, 108, 115, 101] := fun e2 => by
    unfold kwB at hk; rw [e2] at hk; revert hk; decide
  rw [e] at n1 n2 ⊢
  unfold wc
  simp only
  rw [if_neg (by rintro rfl; simp at h1), if_neg (by rintro (h3 | rfl); · omega
                                                     · simp at h1), if_neg (by rintro (rfl | h3); · simp at h1
                                                                               · omega), if_neg (by rintro (h3 | h3); · exact n1 h3
                                                                                                    · exact n2 h3)]
theorem num_hd (n : Int) (h : -4611686018427387904 ≤ n ∧ n ≤ 4611686018427387903) : ∃ c t, numL n = c :: t ∧ ((48 ≤ c.toNat ∧ c.toNat ≤ 57) ∨ (c = 45 ∧ n < 0)) ∧ Wd (numL n) := by
  rw [numL_ok n h]
  unfold Lib.itoa
  split
  · next hn =>
    refine ⟨45, _, rfl, .inr ⟨rfl, hn⟩, ?_⟩
    intro c hc
    rcases List.mem_cons.1 hc with rfl | hc
    · decide
    · exact digL_dl (digits_dig _) c hc
  · obtain ⟨c, t, e, hd⟩ := head_dig n.natAbs
    refine ⟨c, t, ?_, .inl hd, digL_dl ?_⟩
    · first | exact e | (rw [← e]; congr 1; omega)
    · exact digits_dig _
theorem wc_num (n : Int) (h : -4611686018427387904 ≤ n ∧ n ≤ 4611686018427387903) : wc (numL n) = 3 := by
  obtain ⟨c, t, e, h1, _⟩ := num_hd n h
  rw [e]
  unfold wc
  simp only
  have n1 : ¬ c = 95 := by rintro rfl; rcases h1 with h1 | h1 <;> simp at h1
  have n2 : (48 ≤ c.toNat ∧ c.toNat ≤ 57) ∨ c = 45 := by
    rcases h1 with h1 | h1
    · exact .inl h1
    · exact .inr h1.1
  rw [if_neg n1, if_pos n2]
/-! ### Where a tree ends -/
section
variable {l : List (List Int)} (hp : preB l = true) {a : Nat} (ha : a < l.length)
include hp ha
theorem end_0 (h : l[a] = []) : endN l a = a + 1 := by
  obtain ⟨e, hs, _, _⟩ := span_at hp a ha
  have he := endN_of ha hs
  rw [h] at hs
  cases hs
  exact he
theorem end_1 {x : Int} (h : l[a] = [x]) : x = ((a + 1 : Nat) : Int) ∧ a + 1 < l.length ∧ endN l a = endN l (a + 1) ∧ a + 1 < endN l (a + 1) := by
  obtain ⟨e, hs, _, _⟩ := span_at hp a ha
  have he := endN_of ha hs
  rw [h] at hs
  cases hs with
  | cons _ m _ _ hl h1 h2 =>
    cases h2
    have := endN_of hl h1
    have := h1.le
    exact ⟨rfl, hl, by omega, by omega⟩
theorem end_2 {x y : Int} (h : l[a] = [x, y]) : ∃ m : Nat, x = ((a + 1 : Nat) : Int) ∧ y = (m : Int) ∧ a + 1 < l.length ∧ m < l.length ∧ endN l (a + 1) = m ∧ endN l a = endN l m ∧ a + 1 < m ∧ m < endN l m := by
  obtain ⟨e, hs, _, _⟩ := span_at hp a ha
  have he := endN_of ha hs
  rw [h] at hs
  cases hs with
  | cons _ m _ _ hl h1 h2 =>
    cases h2 with
    | cons _ m2 _ _ hl2 h3 h4 =>
      cases h4
      have e1 := endN_of hl h1
      have e2 := endN_of hl2 h3
      have := h1.le
      have := h3.le
      exact ⟨m, rfl, rfl, hl, hl2, e1, by omega, by omega, by omega⟩
theorem end_3 {x y z : Int} (h : l[a] = [x, y, z]) : ∃ m n : Nat, x = ((a + 1 : Nat) : Int) ∧ y = (m : Int) ∧ z = (n : Int) ∧ a + 1 < l.length ∧ m < l.length ∧ n < l.length ∧ endN l (a + 1) = m ∧ endN l m = n ∧ endN l a = endN l n ∧ a + 1 < m ∧ m < n ∧ n < endN l n := by
  obtain ⟨e, hs, _, _⟩ := span_at hp a ha
  have he := endN_of ha hs
  rw [h] at hs
  cases hs with
  | cons _ m _ _ hl h1 h2 =>
    cases h2 with
    | cons _ m2 _ _ hl2 h3 h4 =>
      cases h4 with
      | cons _ m3 _ _ hl3 h5 h6 =>
        cases h6
        have e1 := endN_of hl h1
        have e2 := endN_of hl2 h3
        have e3 := endN_of hl3 h5
        have := h1.le
        have := h3.le
        have := h5.le
        exact ⟨m, m2, rfl, rfl, rfl, hl, hl2, hl3, e1, e2, by omega, by omega, by omega, by omega⟩
end
/-- Two trees agree from a place on to where they end. -/
structure Agr {β : Type} (P Q : List β) (l l' : List (List Int)) (a : Nat) : Prop where
  e : endN l a = endN l' a
  at_ : ∀ i, a ≤ i → i < endN l a → P[i]? = Q[i]?
theorem Agr.zero {β : Type} {P Q : List β} {l l' : List (List Int)} {a : Nat} (h0 : P[a]? = Q[a]?) (e : endN l a = a + 1) (e' : endN l' a = a + 1) : Agr P Q l l' a :=
  ⟨by omega, fun i h1 h2 => by obtain rfl : i = a := by omega
                               exact h0⟩
theorem Agr.one {β : Type} {P Q : List β} {l l' : List (List Int)} {a : Nat} (h0 : P[a]? = Q[a]?) (e : endN l a = endN l (a + 1)) (e' : endN l' a = endN l' (a + 1)) (h : Agr P Q l l' (a + 1)) : Agr P Q l l' a :=
  ⟨by have := h.e; omega, fun i h1 h2 => by
    by_cases hi : i = a
    · subst hi; exact h0
    · exact h.at_ i (by omega) (by omega)⟩
theorem Agr.two {β : Type} {P Q : List β} {l l' : List (List Int)} {a m : Nat} (h0 : P[a]? = Q[a]?) (h : Agr P Q l l' (a + 1)) (e1 : endN l (a + 1) = m) (e : endN l a = endN l m) (e' : endN l' a = endN l' m) (h2 : Agr P Q l l' m) : Agr P Q l l' a :=
  ⟨by have := h2.e; omega, fun i g1 g2 => by
    by_cases hi : i = a
    · subst hi; exact h0
    · by_cases hm : i < m
      · exact h.at_ i (by omega) (by omega)
      · exact h2.at_ i (by omega) (by omega)⟩
end Go.Proofs.YtaibgnfjjbncpaaGreat
namespace Go.Proofs.YtaibgnfjjbncpaaGreat
set_option linter.unusedVariables false
open Go.RowKit

/-- A constructor alone. -/
def isLoneN (x : Nd) : Bool := decide (x.kind = 4) && decide (x.kids.length = 0)
/-- How a node wants its first child to look: 1 below a '::', 2 below a let rec, 3 below an application. -/
def modeN (x : Nd) : Nat := if isConsN x = true then 1 else if x.kind = 8 then 2 else if x.kind = 6 then 3 else 0
/-- The arms of a match. -/
def armsT (pt : List PN → List UInt8) : List UInt8 → List (List PN) → List (List UInt8)
  | _, [] => []
  | b, q :: qs => (b ++ pt q ++ [32, 45, 62, 32]) :: armsT pt [32, 124, 32] qs
/-- The texts of a node by itself. -/
def nodeT (nt : Int → List UInt8) (qt : List UInt8 → List UInt8) (pt : List PN → List UInt8) (x : Nd) : List (List UInt8) :=
  if x.kind = 1 then [nt x.n]
  else if x.kind = 2 then [qt x.s.toList]
  else if x.kind = 3 then [x.s.toList]
  else if x.kind = 4 then (if x.kids.length = 0 then [x.s.toList] else [[40] ++ x.s.toList ++ [32], [41]])
  else if x.kind = 5 then [[40, 102, 117, 110, 32] ++ x.s.toList ++ [32, 45, 62, 32], [41]]
  else if x.kind = 6 then [[40], [32], [41]]
  else if x.kind = 7 then [[40, 108, 101, 116, 32] ++ x.s.toList ++ [32, 61, 32], [32, 105, 110, 32], [41]]
  else if x.kind = 8 then [[40, 108, 101, 116, 32, 114, 101, 99, 32] ++ x.s.toList ++ [32], [32, 105, 110, 32], [41]]
  else if x.kind = 9 then [[40, 105, 102, 32], [32, 116, 104, 101, 110, 32], [32, 101, 108, 115, 101, 32], [41]]
  else if x.kind = 10 then [[40], [32] ++ x.s.toList ++ [32], [41]]
  else if x.kind = 11 then [[40], [44, 32], [41]]
  else if x.kind = 13 then ([40, 109, 97, 116, 99, 104, 32] :: armsT pt [32, 119, 105, 116, 104, 32] x.pats) ++ [[32, 101, 110, 100, 41]]
  else if x.kind = 14 then [[40, 114, 97, 105, 115, 101, 32], [41]]
  else if x.kind = 15 then [[40, 116, 114, 121, 32], [32, 119, 105, 116, 104, 32] ++ x.s.toList ++ [32, 45, 62, 32], [32, 101, 110, 100, 41]]
  else if x.kind = 16 then [[40, 114, 101, 102, 32], [41]]
  else if x.kind = 17 then [[40, 33, 32], [41]]
  else if x.kind = 18 then [[40], [32, 58, 61, 32], [41]]
  else if x.kind = 19 then [[40], [59, 32], [41]]
  else [[40, 41]]
/-- The texts of a node that its parent wants in a way. -/
def rowM (N : Nd → List (List UInt8)) (c : Nat) (x : Nd) : List (List UInt8) :=
  if c = 1 then [[40], [32, 58, 58, 32], [41]] else if c = 2 then [x.s.toList ++ [32, 61, 32], []]
  else if c = 3 ∧ isLoneN x = true then [[40] ++ x.s.toList ++ [41]] else if isConsN x = true then [[], []] else N x
/-- The children's texts, behind each the next piece of the node's own; the first child is wanted in the way m. -/
def kF (g : Nat → Nat → List UInt8) (T : List (List UInt8)) : Nat → Nat → List Int → List UInt8
  | _, _, [] => []
  | d, m, k :: ks => g m k.toNat ++ (T[d + 1]?.getD [] ++ kF g T (d + 1) 0 ks)
/-- The text by recursion: c, how the parent wants it. -/
def exprT (N : Nd → List (List UInt8)) (p : List Nd) : Nat → Nat → Nat → List UInt8
  | 0, _, _ => []
  | f + 1, c, a => match p[a]? with
    | none => []
    | some n => (rowM N c n)[0]?.getD [] ++ kF (exprT N p f) (rowM N c n) 0 (modeN n) n.kids
theorem exprT_at (N : Nd → List (List UInt8)) (p : List Nd) (f c a : Nat) (ha : a < p.length) : exprT N p (f + 1) c a = (rowM N c p[a])[0]?.getD [] ++ kF (exprT N p f) (rowM N c p[a]) 0 (modeN p[a]) p[a].kids := by
  rw [exprT, List.getElem?_eq_getElem ha]
/-- How a place's text is wanted, when the first t nodes have been asked. -/
def modeTo (p : List Nd) (t i : Nat) : Nat := match (p.take t).find? (fun x => decide (x.kids.head? = some (i : Int))) with
  | some x => modeN x
  | none => 0
/-- The row at a place, when the first t nodes have been asked. -/
def rowTo (N : Nd → List (List UInt8)) (p : List Nd) (t i : Nat) (x : Nd) : List (List UInt8) :=
  if modeTo p t i = 1 then [[40], [32, 58, 58, 32], [41]] else if modeTo p t i = 2 then [x.s.toList ++ [32, 61, 32], []]
  else if modeTo p t i = 3 ∧ isLoneN x = true then [[40] ++ x.s.toList ++ [41]] else if isConsN x = true ∧ i < t then [[], []] else N x
theorem rowTo_0 (N : Nd → List (List UInt8)) (p : List Nd) (i : Nat) (x : Nd) : rowTo N p 0 i x = N x := by simp [rowTo, modeTo]
theorem rowTo_end (N : Nd → List (List UInt8)) (p : List Nd) (i : Nat) (x : Nd) (hi : i < p.length) : rowTo N p p.length i x = rowM N (modeTo p p.length i) x := by
  unfold rowTo rowM
  simp [hi]
/-- A child lies in one place: its parent's head alone says how it is wanted. -/
theorem modeTo_head {p : List Nd} (hp : preB (p.map Nd.kids) = true) {t a k : Nat} (ha : a < p.length) (hat : a < t) (hk : p[a].kids.head? = some (k : Int)) : modeTo p t k = modeN p[a] := by
  unfold modeTo
  have hmem : ∀ (x : Nd), x ∈ p.take t → x.kids.head? = some (k : Int) → x = p[a] := by
    intro x hx hh
    obtain ⟨j, hj, rfl⟩ := List.getElem_of_mem hx
    have hj' : j < p.length := by simp at hj; omega
    rw [List.getElem_take] at hh ⊢
    have h1 : (k : Int) ∈ p[j].kids := List.mem_of_mem_head? (by rw [hh]; rfl)
    have h2 : (k : Int) ∈ p[a].kids := List.mem_of_mem_head? (by rw [hk]; rfl)
    have := one_parent hp (i := j) (j := a) (by simpa using hj') (by simpa using ha) (k := k) (by simpa using h1) (by simpa using h2)
    subst this; rfl
  cases hf : (p.take t).find? (fun x => decide (x.kids.head? = some (k : Int))) with
  | some x =>
    have h1 := List.find?_some hf
    simp only [decide_eq_true_eq] at h1
    simp only [hmem x (List.mem_of_find?_eq_some hf) h1]
  | none =>
    rw [List.find?_eq_none] at hf
    have hm : p[a] ∈ p.take t := by
      rw [List.mem_take_iff_getElem]
      exact ⟨a, by omega, rfl⟩
    have := hf p[a] hm
    simp [hk] at this
theorem modeTo_none {p : List Nd} {t k : Nat} (h : ∀ j (hj : j < p.length), p[j].kids.head? ≠ some (k : Int)) : modeTo p t k = 0 := by
  unfold modeTo
  cases hf : (p.take t).find? (fun x => decide (x.kids.head? = some (k : Int))) with
  | none => rfl
  | some x =>
    have h1 := List.find?_some hf
    simp only [decide_eq_true_eq] at h1
    obtain ⟨j, hj, rfl⟩ := List.getElem_of_mem (List.mem_of_find?_eq_some hf)
    have hj' : j < p.length := by simp at hj; omega
    rw [List.getElem_take] at h1
    exact absurd h1 (h j hj')
/-- The program's rows, woven, are the text. -/
theorem wT_exprT (N : Nd → List (List UInt8)) {p : List Nd} (hp : preB (p.map Nd.kids) = true) (L : List (List (List UInt8))) (hL : ∀ i (h : i < p.length), L[i]? = some (rowM N (modeTo p p.length i) p[i])) :
    ∀ (f a : Nat), a < p.length → p.length < a + f → wT L (p.map Nd.kids) f a = exprT N p f (modeTo p p.length a) a := by
  intro f
  induction f with
  | zero => intro a ha hf; omega
  | succ f ih =>
    intro a ha hf
    rw [exprT_at _ _ _ _ _ ha, wT, hL a ha, Option.getD_some, List.getElem?_map, List.getElem?_eq_getElem ha, Option.map_some, Option.getD_some]
    congr 1
    obtain ⟨e, hs, _, _⟩ := span_at hp a (by simpa using ha)
    rw [List.getElem_map] at hs
    have hkid : ∀ k ∈ p[a].kids, (a : Int) < k ∧ k < (p.length : Int) := fun k hk => by
      have := preB_kids _ hp a (by simpa using ha) k (by simpa using hk)
      simpa using this
    have hone : ∀ (j : Nat) (hj : j < p.length) (k : Int), k ∈ p[j].kids → k ∈ p[a].kids → j = a := fun j hj k h1 h2 =>
      one_parent hp (i := j) (j := a) (by simpa using hj) (by simpa using ha) (k := k) (by simpa using h1) (by simpa using h2)
    have hrest : ∀ (ks : List Int) (d : Nat), (∀ k ∈ ks, k ∈ p[a].kids ∧ p[a].kids.head? ≠ some k) → wF (wT L (p.map Nd.kids) f) (rowM N (modeTo p p.length a) p[a]) d ks = kF (exprT N p f) (rowM N (modeTo p p.length a) p[a]) d 0 ks := by
      intro ks
      induction ks with
      | nil => intro d _; simp [wF, kF]
      | cons k ks ih2 =>
        intro d hk
        obtain ⟨h1, h2⟩ := hk k (by simp)
        obtain ⟨h3, h4⟩ := hkid k h1
        obtain ⟨kn, rfl⟩ : ∃ kn : Nat, k = kn := ⟨k.toNat, by omega⟩
        have hm : modeTo p p.length kn = 0 := modeTo_none fun j hj hh => by
          have h5 : (kn : Int) ∈ p[j].kids := List.mem_of_mem_head? (by rw [hh]; rfl)
          have := hone j hj kn h5 h1
          subst this
          exact h2 hh
        rw [wF, kF, Int.toNat_natCast, ih kn (by omega) (by omega), hm, ih2 (d + 1) fun x hx => hk x (by simp [hx])]
    cases hk : p[a].kids with
    | nil => simp [wF, kF]
    | cons k ks =>
      have hkm : k ∈ p[a].kids := by rw [hk]; simp
      obtain ⟨h3, h4⟩ := hkid k hkm
      obtain ⟨kn, rfl⟩ : ∃ kn : Nat, k = kn := ⟨k.toNat, by omega⟩
      have hm : modeTo p p.length kn = modeN p[a] := modeTo_head hp ha ha (by rw [hk]; rfl)
      rw [wF, kF, Int.toNat_natCast, ih kn (by omega) (by omega), hm, hrest ks 1 fun x hx => ⟨by rw [hk]; simp [hx], by
        rw [hk]
        simp only [List.head?_cons, ne_eq, Option.some.injEq]
        have h6 := hs.asc
        rw [hk] at h6
        have := (List.pairwise_cons.1 h6).1 x hx
        omega⟩]
theorem modeTo_old {p : List Nd} {t i : Nat} (ht : t < p.length) (h : p[t].kids.head? ≠ some (i : Int)) : modeTo p (t + 1) i = modeTo p t i := by
  unfold modeTo
  rw [List.take_add_one, List.getElem?_eq_getElem ht, List.find?_append]
  have : [p[t]].find? (fun x => decide (x.kids.head? = some (i : Int))) = none := by simp [h]
  rw [show (some p[t]).toList = [p[t]] from rfl, this, Option.or_none]
theorem modeTo_before {p : List Nd} (hp : preB (p.map Nd.kids) = true) {t k : Nat} (ht : t < p.length) (h : p[t].kids.head? = some (k : Int)) : modeTo p t k = 0 := by
  unfold modeTo
  cases hf : (p.take t).find? (fun x => decide (x.kids.head? = some (k : Int))) with
  | none => rfl
  | some x =>
    have h1 := List.find?_some hf
    simp only [decide_eq_true_eq] at h1
    obtain ⟨j, hj, rfl⟩ := List.getElem_of_mem (List.mem_of_find?_eq_some hf)
    have hj' : j < p.length := by simp at hj; omega
    rw [List.getElem_take] at h1
    have h2 : (k : Int) ∈ p[j].kids := List.mem_of_mem_head? (by rw [h1]; rfl)
    have h3 : (k : Int) ∈ p[t].kids := List.mem_of_mem_head? (by rw [h]; rfl)
    have := one_parent hp (i := j) (j := t) (by simpa using hj') (by simpa using ht) (k := k) (by simpa using h2) (by simpa using h3)
    simp at hj
    omega
/-- What a right program's nodes are like. -/
structure PgV (p : List Nd) : Prop where
  pre : preB (p.map Nd.kids) = true
  nd : ∀ i (h : i < p.length), isNodeB p[i] = true
  fst : ∀ i (h : i < p.length), rfB p p[i] = true
theorem PgV.kid {p : List Nd} (h : PgV p) {i : Nat} (hi : i < p.length) {k : Int} (hk : k ∈ p[i].kids) : (i : Int) < k ∧ k < (p.length : Int) := by
  have := preB_kids _ h.pre i (by simpa using hi) k (by simpa using hk)
  simpa using this
/-- A '::' has one child; it is wanted as it is. -/
theorem PgV.cons1 {p : List Nd} (h : PgV p) {i : Nat} (hi : i < p.length) (hc : isConsN p[i] = true) : p[i].kids.length = 1 := by
  have h3 := h.nd i hi
  have h1 := isNode_first _ h3 (.inr hc)
  simp only [isNodeB, Bool.and_eq_true] at h3
  simp only [isConsN, Bool.and_eq_true, decide_eq_true_eq] at hc
  have h4 := h3.2.2.2.1
  rw [hc.1] at h4
  unfold rkB at h4
  simp at h4
  omega
theorem PgV.plain {p : List Nd} (h : PgV p) {t i : Nat} (hi : i < p.length) (hc : isConsN p[i] = true) : modeTo p t i ≠ 1 ∧ modeTo p t i ≠ 2 ∧ isLoneN p[i] = false := by
  have hl := h.cons1 hi hc
  have hk : p[i].kind = 4 := by simp only [isConsN, Bool.and_eq_true, decide_eq_true_eq] at hc; exact hc.1
  have key : ∀ (j : Nat) (hj : j < p.length), p[j].kids.head? = some (i : Int) → p[j].kind ≠ 8 ∧ isConsN p[j] ≠ true := by
    intro j hj hh
    have hf := h.fst j hj
    cases hq : p[j].kids with
    | nil => rw [hq] at hh; simp at hh
    | cons y ys =>
      rw [hq] at hh
      simp only [List.head?_cons, Option.some.injEq] at hh
      subst hh
      unfold rfB at hf
      simp only [hq, firstNK, Int.toNat_natCast, List.getElem?_eq_getElem hi, hk] at hf
      constructor
      · intro h8; rw [if_pos h8] at hf; simp at hf
      · intro hcj
        have h8 : ¬ p[j].kind = 8 := by
          simp only [isConsN, Bool.and_eq_true, decide_eq_true_eq] at hcj; omega
        rw [if_neg h8, if_pos hcj] at hf; simp at hf
  refine ⟨?_, ?_, by simp [isLoneN, hl]⟩
  all_goals
    unfold modeTo
    cases hf : (p.take t).find? (fun x => decide (x.kids.head? = some (i : Int))) with
    | none => simp
    | some x =>
      have h1 := List.find?_some hf
      simp only [decide_eq_true_eq] at h1
      obtain ⟨j, hj, rfl⟩ := List.getElem_of_mem (List.mem_of_find?_eq_some hf)
      have hj' : j < p.length := by simp at hj; omega
      rw [List.getElem_take] at h1
      obtain ⟨g1, g2⟩ := key j hj' h1
      simp only [List.getElem_take]
      unfold modeN
      rw [if_neg g2, if_neg g1]
      split <;> simp
/-- What asking node t does to the row at a place. -/
theorem PgV.step {p : List Nd} (h : PgV p) (N : Nd → List (List UInt8)) {t i : Nat} (ht : t < p.length) (hi : i < p.length) :
    rowTo N p (t + 1) i p[i] = if p[t].kids.head? = some (i : Int) ∧ (modeN p[t] = 1 ∨ modeN p[t] = 2 ∨ modeN p[t] = 3 ∧ isLoneN p[i] = true) then rowM N (modeN p[t]) p[i]
      else if i = t ∧ isConsN p[t] = true then [[], []] else rowTo N p t i p[i] := by
  by_cases hh : p[t].kids.head? = some (i : Int)
  · have hlt : t < i := by
      have := h.kid ht (k := i) (List.mem_of_mem_head? (by rw [hh]; rfl))
      omega
    have m1 : modeTo p (t + 1) i = modeN p[t] := modeTo_head h.pre ht (by omega) hh
    have m0 : modeTo p t i = 0 := modeTo_before h.pre ht hh
    have e : (i < t + 1) = False := by simp; omega
    have e2 : (i < t) = False := by simp; omega
    have e3 : (i = t) = False := by simp; omega
    unfold rowTo rowM
    rw [m1, m0]
    simp only [hh, e, e2, e3, true_and, and_false, false_and, if_false]
    by_cases c1 : modeN p[t] = 1
    · simp [c1]
    · by_cases c2 : modeN p[t] = 2
      · simp [c2]
      · by_cases c3 : modeN p[t] = 3 ∧ isLoneN p[i] = true
        · simp [c3]
        · simp [c1, c2, c3]
  · have m1 := modeTo_old ht hh
    unfold rowTo
    rw [m1]
    simp only [hh, false_and, if_false]
    by_cases he : i = t
    · subst he
      by_cases hc : isConsN p[i] = true
      · obtain ⟨g1, g2, g3⟩ := h.plain (t := i) hi hc
        simp [hc, g1, g2, g3]
      · simp [hc]
    · have : (i < t + 1) = (i < t) := by simp; omega
      simp only [this, he, false_and, if_false]
/-- The pieces are the rows' own. -/
theorem weave_sz (L : List (List (List UInt8))) (M : Nat) (hL : ∀ T ∈ L, ∀ t ∈ T, t.length ≤ M) (s : List (List UInt8)) (a d : Nat) (n : Int) (hs : ∀ t ∈ s, t.length ≤ M) : ∀ t ∈ (vW L s a d n).2, t.length ≤ M := by
  intro t ht
  simp only [vW, List.mem_append, List.mem_singleton] at ht
  rcases ht with ht | rfl
  · exact hs t ht
  · cases hA : L[a]? with
    | none => simp
    | some T =>
      cases hB : T[d]? with
      | none => simp [hB]
      | some u =>
        simp only [Option.getD_some, hB]
        exact hL T (List.mem_of_getElem? hA) u (List.mem_of_getElem? hB)
/-- What each visit keeps, the walk keeps. -/
theorem iterS_keeps {σ : Type} {g : σ → Int → Int × σ} {V : σ → Nat → Int → Bool × σ} (I : σ → Prop) (hg : ∀ s n, I s → I (g s n).2) (hV : ∀ s d n, I s → I (V s d n).2) : ∀ (t d : Nat) (n : Int) (s : σ), I s → I (iterS g V t d n s).2 := by
  intro t
  induction t with
  | zero => intro d n s hs; exact hs
  | succ t ih =>
    intro d n s hs
    rw [iterS]
    split
    · exact hg _ _ hs
    · split
      · exact ih _ _ _ (hV _ _ _ (hg _ _ hs))
      · exact hV _ _ _ (hg _ _ hs)
theorem walkS_keeps {σ : Type} {V : σ → Nat → Nat → Int → Bool × σ} (cs : List Int) (I : σ → Prop) (hV : ∀ s a d n, I s → I (V s a d n).2) : ∀ (f : Nat) (s : σ) (a : Int), I s → I (walkS V cs f s a).2 := by
  intro f
  induction f with
  | zero => intro s a hs; exact hs
  | succ f ih =>
    intro s a hs
    rw [walkS]
    split
    · exact hs
    · split
      · exact iterS_keeps I (fun s n h => ih s n h) (fun s d n h => hV s _ d n h) _ _ _ _ (hV _ _ _ _ hs)
      · exact hV _ _ _ _ hs
theorem flat_le (P : List (List UInt8)) (M : Nat) (h : ∀ t ∈ P, t.length ≤ M) : P.flatten.length ≤ P.length * M := by
  induction P with
  | nil => simp
  | cons x P ih =>
    rw [List.flatten_cons, List.length_append, List.length_cons, Nat.succ_mul]
    have := h x (by simp)
    have := ih fun t ht => h t (by simp [ht])
    omega
/-- The whole of what is woven, with a bound on its length. -/
theorem weave_len (L : List (List (List UInt8))) {l : List (List Int)} (hp : preB l = true) (M : Nat) (hL : ∀ T ∈ L, ∀ t ∈ T, t.length ≤ M) : ∃ P, walkS (vW L) (lens l) (l.length + 1) [] 0 = ((l.length : Int), P) ∧ P.flatten = wT L l (l.length + 1) 0 ∧ P.length ≤ 1200 ∧ P ≠ [] ∧ P.flatten.length ≤ 1200 * M := by
  obtain ⟨P, h1, h2, h3, h4⟩ := weave_all L hp
  refine ⟨P, h1, h2, h3, h4, ?_⟩
  have h5 := walkS_keeps (V := vW L) (lens l) (fun s => ∀ t ∈ s, t.length ≤ M) (fun s a d n hs => weave_sz L M hL s a d n hs) (l.length + 1) [] 0 (by simp)
  rw [h1] at h5
  exact Nat.le_trans (flat_le P M h5) (Nat.mul_le_mul_right M h3)
end Go.Proofs.YtaibgnfjjbncpaaGreat
namespace Go.Proofs.YtaibgnfjjbncpaaGreat
set_option linter.unusedVariables false
open Go.RowKit

def hexI (d : Int) : Int := if d < 10 then 48 + d else 87 + d
def hexB (d : Nat) : UInt8 := UInt8.ofNat (if d < 10 then 48 + d else 87 + d)
theorem hexB_toNat (d : Nat) (h : d < 16) : ((hexB d).toNat : Int) = hexI d := by
  unfold hexB hexI
  have : d = 0 ∨ d = 1 ∨ d = 2 ∨ d = 3 ∨ d = 4 ∨ d = 5 ∨ d = 6 ∨ d = 7 ∨ d = 8 ∨ d = 9 ∨ d = 10 ∨ d = 11 ∨ d = 12 ∨ d = 13 ∨ d = 14 ∨ d = 15 := by omega
  rcases this with rfl | rfl | rfl | rfl | rfl | rfl | rfl | rfl | rfl | rfl | rfl | rfl | rfl | rfl | rfl | rfl <;> rfl
/-- How one byte is written in quotes. -/
def qb (c : UInt8) : List UInt8 :=
  if c.toNat = 10 then [92, 110] else if c.toNat = 34 ∨ c.toNat = 92 then [92, c] else if 32 ≤ c.toNat ∧ c.toNat ≤ 126 then [c] else [92, 120, hexB (c.toNat / 16), hexB (c.toNat % 16)]
def qpre (s : ByteArray) (k : Nat) : List UInt8 := 34 :: ((s.data.toList.take k).flatMap qb)
def quoteL (l : List UInt8) : List UInt8 := 34 :: (l.flatMap qb ++ [34])
theorem qb_ten (c : UInt8) (h : (c.toNat : Int) = 10) : qb c = [92, 110] := by unfold qb; rw [if_pos (by omega)]
theorem qb_esc (c : UInt8) (h : ¬ (c.toNat : Int) = 10) (h2 : (c.toNat : Int) = 34 ∨ (c.toNat : Int) = 92) : qb c = [92, c] := by unfold qb; rw [if_neg (by omega), if_pos (by omega)]
theorem qb_self (c : UInt8) (h : ¬ (c.toNat : Int) = 10) (h2 : ¬ ((c.toNat : Int) = 34 ∨ (c.toNat : Int) = 92)) (h3 : 32 ≤ (c.toNat : Int) ∧ (c.toNat : Int) ≤ 126) : qb c = [c] := by unfold qb; rw [if_neg (by omega), if_neg (by omega), if_pos (by omega)]
theorem qb_hex (c : UInt8) (h : ¬ (c.toNat : Int) = 10) (h2 : ¬ ((c.toNat : Int) = 34 ∨ (c.toNat : Int) = 92)) (h3 : ¬ (32 ≤ (c.toNat : Int) ∧ (c.toNat : Int) ≤ 126)) : qb c = [92, 120, hexB (c.toNat / 16), hexB (c.toNat % 16)] := by unfold qb; rw [if_neg (by omega), if_neg (by omega), if_neg (by omega)]
theorem bc_hex (c : UInt8) : [Value.int .u8 92, .int .u8 120, .int .u8 (hexI ((c.toNat : Int) / 16)), .int .u8 (hexI ((c.toNat : Int) % 16))] = bc [92, 120, hexB (c.toNat / 16), hexB (c.toNat % 16)] := by
  have hc := c.toNat_lt
  have h1 := hexB_toNat (c.toNat / 16) (by omega)
  have h2 := hexB_toNat (c.toNat % 16) (by omega)
  simp only [bc, List.map_cons, List.map_nil, h1, h2]
  simp
theorem qb_length (c : UInt8) : (qb c).length ≤ 4 := by unfold qb; split; · simp
                                                        split; · simp
                                                        split <;> simp
theorem flat_length (l : List UInt8) : (l.flatMap qb).length ≤ 4 * l.length := by
  induction l with
  | nil => simp
  | cons c l ih => have := qb_length c; simp only [List.flatMap_cons, List.length_append, List.length_cons]; omega
theorem qpre_length (s : ByteArray) (k : Nat) (hk : k ≤ s.size) : (qpre s k).length ≤ 1 + 4 * k := by
  have h := flat_length (s.data.toList.take k)
  have : (s.data.toList.take k).length = k := by simp; omega
  simp only [qpre, List.length_cons]; omega
theorem qpre_succ (s : ByteArray) (k : Nat) (h : k < s.size) : qpre s (k + 1) = qpre s k ++ qb s[k] := by
  unfold qpre
  have ht : s.data.toList.take (k + 1) = s.data.toList.take k ++ [s[k]] := by
    rw [List.take_succ_eq_append_getElem (by simpa using h)]; rfl
  rw [ht, List.flatMap_append]; simp
theorem qpre_end (s : ByteArray) : qpre s s.size ++ [34] = quoteL s.data.toList := by
  unfold qpre quoteL; rw [List.take_of_length_le (by simp)]; simp
end Go.Proofs.YtaibgnfjjbncpaaGreat
namespace Go.Proofs.YtaibgnfjjbncpaaGreat
set_option linter.unusedVariables false
set_option maxRecDepth 100000
open Go.RowKit

/-- The text of a pattern. -/
def pTxt (q : List PN) : List UInt8 := patU numL q (q.length + 1) false 0
/-- The texts of a node. -/
def NT : Nd → List (List UInt8) := nodeT numL quoteL pTxt
theorem ex_at {N : Nd → List (List UInt8)} {p : List Nd} {f a : Nat} (ha : a < p.length) (h4 : isConsN p[a] = false) : exprT N p (f + 1) 0 a = (N p[a])[0]?.getD [] ++ kF (exprT N p f) (N p[a]) 0 (modeN p[a]) p[a].kids := by
  rw [exprT_at _ _ _ _ _ ha]; simp [rowM, h4]
theorem ncons {n : Nd} {c : Int} (h : n.kind = c) (hc : c ≠ 4) : isConsN n = false := by simp [isConsN, h, hc]
theorem mode0 {n : Nd} {c : Int} (h : n.kind = c) (h4 : c ≠ 4) (h8 : c ≠ 8) (h6 : c ≠ 6) : modeN n = 0 := by simp [modeN, isConsN, h, h4, h8, h6]
theorem kF0 (g : Nat → Nat → List UInt8) (T : List (List UInt8)) (d m : Nat) : kF g T d m [] = [] := by simp [kF]
theorem kF1 (g : Nat → Nat → List UInt8) (T : List (List UInt8)) (d m x : Nat) : kF g T d m [(x : Int)] = g m x ++ (T[d + 1]?.getD []) := by simp [kF]
theorem kF2 (g : Nat → Nat → List UInt8) (T : List (List UInt8)) (d m x y : Nat) : kF g T d m [(x : Int), (y : Int)] = g m x ++ (T[d + 1]?.getD [] ++ (g 0 y ++ (T[d + 2]?.getD []))) := by simp [kF]
theorem kF3 (g : Nat → Nat → List UInt8) (T : List (List UInt8)) (d m x y z : Nat) : kF g T d m [(x : Int), (y : Int), (z : Int)] = g m x ++ (T[d + 1]?.getD [] ++ (g 0 y ++ (T[d + 2]?.getD [] ++ (g 0 z ++ (T[d + 3]?.getD []))))) := by simp [kF]
/-- The function of an application. -/
theorem ex_app {p : List Nd} (hv : PgV p) {f x : Nat} (hx : x < p.length) : exprT NT p (f + 1) 3 x = if isLoneN p[x] = true then [40] ++ (exprT NT p (f + 1) 0 x ++ [41]) else exprT NT p (f + 1) 0 x := by
  rw [exprT_at _ _ _ _ _ hx, exprT_at _ _ _ _ _ hx]
  by_cases hl : isLoneN p[x] = true
  · have h2 : p[x].kind = 4 ∧ p[x].kids.length = 0 := by simpa [isLoneN] using hl
    have h3 : p[x].kids = [] := List.eq_nil_of_length_eq_zero h2.2
    have hc : ¬ isConsN p[x] = true := fun hc => by
      have := (hv.plain (t := 0) hx hc).2.2
      rw [this] at hl; cases hl
    simp [rowM, hl, h3, kF, hc, NT, nodeT, h2.1]
  · simp [rowM, hl]
/-- The function of a let rec. -/
theorem ex_rec {N : Nd → List (List UInt8)} {p : List Nd} {f x z : Nat} (hx : x < p.length) (hk : p[x].kind = 5) (hz : p[x].kids = [(z : Int)]) : exprT N p (f + 1) 2 x = p[x].s.toList ++ [32, 61, 32] ++ exprT N p f 0 z := by
  rw [exprT_at _ _ _ _ _ hx, mode0 hk (by decide) (by decide) (by decide), hz, kF1]
  simp [rowM]
/-- The pair of a '::'. -/
theorem ex_pair {N : Nd → List (List UInt8)} {p : List Nd} {f x y z : Nat} (hx : x < p.length) (hk : p[x].kind = 11) (hz : p[x].kids = [(y : Int), (z : Int)]) : exprT N p (f + 1) 1 x = [40] ++ (exprT N p f 0 y ++ ([32, 58, 58, 32] ++ (exprT N p f 0 z ++ [41]))) := by
  rw [exprT_at _ _ _ _ _ hx, mode0 hk (by decide) (by decide) (by decide), hz, kF2]
  simp [rowM]
theorem ex_cons {N : Nd → List (List UInt8)} {p : List Nd} {f a x : Nat} (ha : a < p.length) (hc : isConsN p[a] = true) (hx : p[a].kids = [(x : Int)]) : exprT N p (f + 1) 0 a = exprT N p f 1 x := by
  have hm : modeN p[a] = 1 := by simp [modeN, hc]
  rw [exprT_at _ _ _ _ _ ha, hm, hx, kF1]
  simp [rowM, hc]
theorem get_le {T : List (List UInt8)} {M : Nat} (hT : ∀ t ∈ T, t.length ≤ M) (d : Nat) : (T[d]?.getD []).length ≤ M := by
  cases h : T[d]? with
  | none => simp
  | some u => exact hT u (List.mem_of_getElem? h)
theorem kF_size {l : List (List Int)} {g : Nat → Nat → List UInt8} {T : List (List UInt8)} {M : Nat} (hT : ∀ t ∈ T, t.length ≤ M) (hg : ∀ m k, k < l.length → (g m k).length + M ≤ 2 * M * (endN l k - k)) :
    ∀ (ks : List Int) (a e d m : Nat), Span l ks a e → (kF g T d m ks).length ≤ 2 * M * (e - a) := by
  intro ks
  induction ks with
  | nil => intro a e d m h; simp [kF]
  | cons k ks ih =>
    intro a e d m h
    cases h with
    | cons _ mm _ _ hl h1 h2 =>
      have i1 := ih mm e (d + 1) 0 h2
      have i2 := hg m a hl
      rw [endN_of hl h1] at i2
      have l1 := h1.le
      have l2 := h2.le
      have l3 := get_le hT (d + 1)
      have e1 : 2 * M * (e - a) = 2 * M * (mm - a) + 2 * M * (e - mm) := by rw [← Nat.mul_add]; congr 1; omega
      rw [kF, Int.toNat_natCast, List.length_append, List.length_append, e1]
      omega
theorem ex_size {N : Nd → List (List UInt8)} {p : List Nd} (hp : preB (p.map Nd.kids) = true) {M : Nat} (hM : ∀ c (x : Nd), x ∈ p → ∀ t ∈ rowM N c x, t.length ≤ M) : ∀ (f c a : Nat), a < p.length → (exprT N p f c a).length + M ≤ 2 * M * (endN (p.map Nd.kids) a - a) := by
  intro f
  induction f with
  | zero =>
    intro c a ha
    obtain ⟨e, hs, h1, h2⟩ := span_at hp a (by simpa using ha)
    rw [endN_of (by simpa using ha) hs]
    have e1 : 2 * M * (e - a) = 2 * M + 2 * M * (e - a - 1) := by rw [show e - a = 1 + (e - a - 1) by omega, Nat.mul_add]; simp
    simp only [exprT, List.length_nil]
    omega
  | succ f ih =>
    intro c a ha
    obtain ⟨e, hs, h1, h2⟩ := span_at hp a (by simpa using ha)
    rw [endN_of (by simpa using ha) hs]
    rw [List.getElem_map] at hs
    have hT := hM c p[a] (List.getElem_mem ha)
    have i1 := kF_size hT (fun m k hk => ih m k (by simpa using hk)) p[a].kids (a + 1) e 0 (modeN p[a]) hs
    have l3 := get_le hT 0
    have l4 := hs.le
    have e1 : 2 * M * (e - a) = 2 * M + 2 * M * (e - (a + 1)) := by rw [show e - a = 1 + (e - (a + 1)) by omega, Nat.mul_add]; simp
    rw [exprT_at _ _ _ _ _ ha, List.length_append]
    omega
/-- The pieces of a node's texts are not too long. -/
theorem pTxt_len {q : List PN} (h : patOkB q = true) : (pTxt q).length ≤ 14400 := by
  obtain ⟨h0, h1⟩ := patOk_len h
  have hv := patV_of h
  have := pat_size numL numL_len24 hv (q.length + 1) 0 false h0
  have := pendF_le ((q.map PN.kids).length + 1) (q.map PN.kids) ((0 : Nat) : Int)
  unfold pTxt
  unfold endN at *
  simp only [List.length_map] at *
  omega
theorem arms_sz {l : List (List PN)} (hq : ∀ q ∈ l, (pTxt q).length ≤ 14400) : ∀ b : List UInt8, b.length ≤ 6 → ∀ t ∈ armsT pTxt b l, t.length ≤ 5000000 := by
  induction l with
  | nil => intro b _ t ht; simp [armsT] at ht
  | cons q qs ih =>
    intro b hb t ht
    rw [armsT, List.mem_cons] at ht
    rcases ht with rfl | ht
    · have := hq q (by simp)
      simp only [List.length_append, List.length_cons, List.length_nil]; omega
    · exact ih (fun q hq' => hq q (by simp [hq'])) _ (by simp) t ht
theorem quoteL_len (s : ByteArray) (h : s.size ≤ 1048576) : (quoteL s.toList).length ≤ 4194306 := by
  have := flat_length s.toList
  have h2 : s.toList.length = s.size := by rw [pr_toList]; rfl
  unfold quoteL
  simp only [List.length_cons, List.length_append, List.length_nil]
  omega
theorem mem_ite' {α : Type} {c : Prop} [Decidable c] {t : α} {A B : List α} (h : t ∈ if c then A else B) : (c ∧ t ∈ A) ∨ (¬ c ∧ t ∈ B) := by
  by_cases hc : c
  · rw [if_pos hc] at h; exact .inl ⟨hc, h⟩
  · rw [if_neg hc] at h; exact .inr ⟨hc, h⟩
theorem nodeT_sz {x : Nd} (hx : isNodeB x = true) (hs : x.s.size ≤ 1048576) : ∀ t ∈ NT x, t.length ≤ 5000000 := by
  have h2 : x.s.toList.length = x.s.size := by rw [pr_toList]; rfl
  have hq := quoteL_len x.s hs
  simp only [isNodeB, Bool.and_eq_true, decide_eq_true_eq] at hx
  obtain ⟨_, hn, _, _, hp⟩ := hx
  have hnl : (numL x.n).length ≤ 24 := by
    refine numL_len24 _ ?_ ?_
    all_goals
      unfold rnB at hn
      split at hn
      · simp at hn; omega
      · simp at hn; omega
  have hpt : x.kind = 13 → ∀ q ∈ x.pats, (pTxt q).length ≤ 14400 := fun h13 q hq' => by
    unfold rpB at hp
    rw [if_pos h13] at hp
    simp only [Bool.and_eq_true, List.all_eq_true] at hp
    exact pTxt_len (hp.2 q hq')
  intro t ht
  unfold NT nodeT at ht
  by_cases h13 : x.kind = 13
  · simp only [h13] at ht
    simp at ht
    rcases ht with rfl | ht | rfl
    · simp
    · exact arms_sz (hpt h13) _ (by simp) t ht
    · simp
  · rw [if_neg h13] at ht
    repeat' (rcases mem_ite' ht with ⟨_, ht⟩ | ⟨_, ht⟩)
    all_goals
      simp only [List.mem_cons, List.not_mem_nil, or_false] at ht
      repeat' (first | (rcases ht with rfl | ht) | (obtain rfl := ht))
      all_goals ((try simp only [List.length_append, List.length_cons, List.length_nil]); try omega)
theorem rowM_sz {x : Nd} (hx : isNodeB x = true) (hs : x.s.size ≤ 1048576) (c : Nat) : ∀ t ∈ rowM NT c x, t.length ≤ 5000000 := by
  have h2 : x.s.toList.length = x.s.size := by rw [pr_toList]; rfl
  intro t ht
  unfold rowM at ht
  repeat' split at ht
  all_goals first
    | exact nodeT_sz hx hs t ht
    | (simp only [List.mem_cons, List.not_mem_nil, or_false] at ht
       repeat' (first | (rcases ht with rfl | ht) | (obtain rfl := ht))
       all_goals ((try simp only [List.length_append, List.length_cons, List.length_nil]); try omega))
theorem ex_len {p : List Nd} (hv : PgV p) (hS : ∀ x ∈ p, x.s.size ≤ 1048576) (f c a : Nat) (ha : a < p.length) : (exprT NT p f c a).length ≤ 6000000000 := by
  have h1 := ex_size hv.pre (M := 5000000) (N := NT) (fun c x hx => by
    obtain ⟨i, hi, rfl⟩ := List.getElem_of_mem hx
    exact rowM_sz (hv.nd i hi) (hS _ hx) c) f c a ha
  have h2 := (preB_iff _).1 hv.pre
  have h3 := pendF_le ((p.map Nd.kids).length + 1) (p.map Nd.kids) a
  unfold endN at h1
  simp only [List.length_map] at *
  omega
end Go.Proofs.YtaibgnfjjbncpaaGreat
namespace Go.Proofs.YtaibgnfjjbncpaaGreat
set_option linter.unusedVariables false
set_option maxRecDepth 100000
open Go.RowKit

def nn : ByteArray := ⟨#[]⟩
theorem nn_of {s : ByteArray} (h : s.toList = []) : s = nn := toL_inj (by rw [h, pr_toList]; rfl)
/-- A leaf's word. -/
def leafP (x : PN) (w : List UInt8) : Prop :=
  (x = ⟨1, 0, nn, []⟩ ∧ w = [95]) ∨ (∃ s, x = ⟨2, 0, s, []⟩ ∧ w = s.toList ∧ nameB s = true) ∨ (∃ n, x = ⟨3, n, nn, []⟩ ∧ w = numL n ∧ -4611686018427387904 ≤ n ∧ n ≤ 4611686018427387903) ∨ (∃ s, x = ⟨4, 0, s, []⟩ ∧ w = s.toList ∧ conW s)
theorem leafP_wc {x : PN} {w : List UInt8} (h : leafP x w) : wc w = x.kind := by
  rcases h with ⟨rfl, rfl⟩ | ⟨s, rfl, rfl, h⟩ | ⟨n, rfl, rfl, h⟩ | ⟨s, rfl, rfl, h⟩
  · rfl
  · exact wc_name h
  · exact wc_num n h
  · exact wc_con h
theorem leafP_inj {x y : PN} {w : List UInt8} (h : leafP x w) (g : leafP y w) : x = y := by
  have e : x.kind = y.kind := (leafP_wc h).symm.trans (leafP_wc g)
  rcases h with ⟨rfl, h1⟩ | ⟨s, rfl, h1, h2⟩ | ⟨n, rfl, h1, h2⟩ | ⟨s, rfl, h1, h2⟩ <;>
  rcases g with ⟨rfl, g1⟩ | ⟨u, rfl, g1, g2⟩ | ⟨m, rfl, g1, g2⟩ | ⟨u, rfl, g1, g2⟩ <;>
  first
    | (simp at e; done)
    | rfl
    | (rw [toL_inj (h1.symm.trans g1)]; done)
    | (rw [numL_inj h2 g2 (h1.symm.trans g1)]; done)
theorem conW_hd {s : ByteArray} (h : conW s) : ∃ c t, s.toList = c :: t ∧ c ≠ 40 ∧ c ≠ 34 ∧ c ≠ 58 ∧ dl c = false ∧ c ≠ 33 := by
  have hw := conW_wd h
  rcases h with h | h | h | h
  · exact ⟨116, _, h, by decide, by decide, by decide, by decide, by decide⟩
  · exact ⟨102, _, h, by decide, by decide, by decide, by decide, by decide⟩
  · exact ⟨91, _, h, by decide, by decide, by decide, by decide, by decide⟩
  · obtain ⟨⟨c, t, e, h1, h2⟩, _⟩ := con_up h
    refine ⟨c, t, e, ?_, ?_, ?_, hw c (by rw [e]; simp), ?_⟩ <;> (rintro rfl; simp at h1)
theorem leafP_wd {x : PN} {w : List UInt8} (h : leafP x w) : Wd w ∧ ∃ c t, w = c :: t ∧ c ≠ 40 ∧ c ≠ 58 ∧ dl c = false := by
  rcases h with ⟨rfl, rfl⟩ | ⟨s, rfl, rfl, h⟩ | ⟨n, rfl, rfl, h⟩ | ⟨s, rfl, rfl, h⟩
  · refine ⟨fun c hc => ?_, 95, [], rfl, by decide, by decide, by decide⟩
    simp only [List.mem_cons, List.not_mem_nil, or_false] at hc; subst hc; decide
  · obtain ⟨c, t, e, h1, h2⟩ := name_low h
    have hw := name_wd h
    exact ⟨hw, c, t, e, by rintro rfl; simp at h1, by rintro rfl; simp at h1, hw c (by rw [e]; simp)⟩
  · obtain ⟨c, t, e, h1, hw⟩ := num_hd n h
    refine ⟨hw, c, t, e, ?_, ?_, hw c (by rw [e]; simp)⟩ <;> (rintro rfl; rcases h1 with h1 | h1 <;> simp at h1)
  · obtain ⟨c, t, e, h1, h2, h3, h4, _⟩ := conW_hd h
    exact ⟨conW_wd h, c, t, e, h1, h3, h4⟩
/-- What the text of a pattern is made of. -/
inductive PShape (q : List PN) (f a : Nat) (T : List UInt8) : Prop
  | leaf (w : List UInt8) (hx : (h : a < q.length) → leafP q[a] w) (hk : (h : a < q.length) → q[a].kids = []) (ht : T = w)
  | unit (hx : (h : a < q.length) → q[a] = ⟨6, 0, nn, []⟩) (ht : T = [40, 41])
  | con (s : ByteArray) (g : Nat) (hs : conW s) (hx : (h : a < q.length) → q[a] = ⟨4, 0, s, [((a + 1 : Nat) : Int)]⟩) (hg : g < f) (hl : a + 1 < q.length) (hf : q.length < a + 1 + g) (ht : T = 40 :: (s.toList ++ 32 :: (patU numL q g false (a + 1) ++ [41])))
  | cons (m g : Nat) (hx : (h : a < q.length) → q[a] = ⟨4, 0, ⟨#[58, 58]⟩, [((a + 1 : Nat) : Int)]⟩) (hl : a + 1 < q.length) (hy : q[a + 1] = ⟨5, 0, nn, [((a + 2 : Nat) : Int), (m : Int)]⟩) (hg : g < f) (hl2 : a + 2 < q.length) (hm : m < q.length) (hf : q.length < a + 2 + g) (hf2 : q.length < m + g)
      (ht : T = 40 :: (patU numL q g false (a + 2) ++ 32 :: 58 :: 58 :: 32 :: (patU numL q g false m ++ [41])))
  | pair (m g : Nat) (hx : (h : a < q.length) → q[a] = ⟨5, 0, nn, [((a + 1 : Nat) : Int), (m : Int)]⟩) (hg : g < f) (hl : a + 1 < q.length) (hm : m < q.length) (hf : q.length < a + 1 + g) (hf2 : q.length < m + g)
      (ht : T = 40 :: (patU numL q g false (a + 1) ++ 44 :: 32 :: (patU numL q g false m ++ [41])))
theorem pn_eq {x : PN} {k n : Int} {s : ByteArray} {ks : List Int} (h1 : x.kind = k) (h2 : x.n = n) (h3 : x.s = s) (h4 : x.kids = ks) : x = ⟨k, n, s, ks⟩ := by
  obtain ⟨a, b, c, d⟩ := x; simp only at h1 h2 h3 h4; subst h1 h2 h3 h4; rfl
theorem pshape {q : List PN} (hv : PatV q) (f a : Nat) (ha : a < q.length) (hf : q.length < a + f) : PShape q f a (patU numL q f false a) := by
  obtain ⟨f1, rfl⟩ : ∃ f1, f = f1 + 1 := ⟨f - 1, by omega⟩
  have hn := hv.nd a ha
  have hn0 := hn
  have hal : a < (q.map PN.kids).length := by simpa using ha
  have hgk : (q.map PN.kids)[a] = q[a].kids := by simp
  rw [patU_at _ _ _ _ _ ha]
  unfold patN
  unfold isPNB pnodeB at hn
  rcases pk_range hn0 with hk | hk | hk | hk | hk | hk
  · have hkd := kids36 hn0 (.inl hk)
    rw [if_pos hk]
    rw [hk] at hn
    simp at hn
    have hk0 : q[a].kids = [] := List.eq_nil_of_length_eq_zero hkd
    exact .leaf [95] (fun _ => .inl ⟨pn_eq hk hn.1 (nn_of hn.2.1) hk0, rfl⟩) (fun _ => hk0) rfl
  · have hkd := kids36 hn0 (.inr (.inl hk))
    rw [if_neg (by omega), if_pos hk]
    rw [hk] at hn
    simp at hn
    have hk0 : q[a].kids = [] := List.eq_nil_of_length_eq_zero hkd
    exact .leaf _ (fun _ => .inr (.inl ⟨q[a].s, pn_eq hk hn.1 rfl hk0, rfl, hn.2.1⟩)) (fun _ => hk0) rfl
  · have hkd := kids36 hn0 (.inr (.inr (.inl hk)))
    rw [if_neg (by omega), if_neg (by omega), if_pos hk]
    rw [hk] at hn
    simp at hn
    have hk0 : q[a].kids = [] := List.eq_nil_of_length_eq_zero hkd
    exact .leaf _ (fun _ => .inr (.inr (.inl ⟨q[a].n, pn_eq hk rfl (nn_of hn.2.2.1) hk0, rfl, by omega, by omega⟩))) (fun _ => hk0) rfl
  · have hkd := kids4 hn0 hk
    rw [if_neg (by omega), if_neg (by omega), if_neg (by omega), if_neg (by omega), if_neg (by omega)]
    rw [hk] at hn
    simp at hn
    obtain ⟨hn1, hn2⟩ := hn
    by_cases h0 : q[a].kids.length = 0
    · have hk0 : q[a].kids = [] := List.eq_nil_of_length_eq_zero h0
      rw [if_pos h0]
      refine .leaf _ (fun _ => .inr (.inr (.inr ⟨q[a].s, pn_eq hk hn1 rfl hk0, rfl, ?_⟩))) (fun _ => hk0) rfl
      unfold conOkB at hn2
      split at hn2
      · simp at hn2; omega
      · split at hn2
        · rename_i hh
          rcases hh with hh | hh | hh
          · exact .inl hh
          · exact .inr (.inl hh)
          · exact .inr (.inr (.inl hh))
        · simp only [Bool.and_eq_true] at hn2
          exact .inr (.inr (.inr hn2.1))
    · obtain ⟨k, hkk⟩ := List.length_eq_one_iff.1 (show q[a].kids.length = 1 by omega)
      obtain ⟨e1, e2, e3, _⟩ := end_1 hv.pre hal (x := k) (by rw [hgk, hkk])
      have e2' : a + 1 < q.length := by simpa using e2
      subst e1
      rw [if_neg h0, hkk]
      by_cases hs : q[a].s.toList = [58, 58]
      · rw [if_pos hs]
        have hc5 := hv.cons a ha (by simp [isConsB, hk, hs])
        rw [hkk] at hc5
        simp only [firstPK, Int.toNat_natCast, List.getElem?_eq_getElem e2'] at hc5
        have hn5 := hv.nd (a + 1) e2'
        have hl5 := kids5 hn5 hc5
        obtain ⟨x, y, hxy⟩ := two_kids hl5
        obtain ⟨m, g1, g2, g3, g4, g5, g6, g7, g8⟩ := end_2 hv.pre (a := a + 1) e2 (x := x) (y := y) (by simp [hxy])
        subst g1 g2
        have g3' : a + 1 + 1 < q.length := by simpa using g3
        have g4' : m < q.length := by simpa using g4
        obtain ⟨f2, rfl⟩ : ∃ f2, f1 = f2 + 1 := ⟨f1 - 1, by omega⟩
        simp only [List.getElem?_cons_zero, Option.getD_some, Int.toNat_natCast]
        rw [patU_at _ _ _ _ _ e2']
        unfold patN
        rw [if_neg (by omega), if_neg (by omega), if_neg (by omega), if_neg (by omega), if_pos hc5, hxy]
        have hq5 : q[a + 1] = ⟨5, 0, nn, [((a + 2 : Nat) : Int), (m : Int)]⟩ := by
          have h5 := hn5
          unfold isPNB pnodeB at h5
          rw [hc5] at h5
          simp at h5
          exact pn_eq hc5 h5.1 (nn_of h5.2.1) hxy
        exact .cons m f2 (fun _ => pn_eq hk hn1 (toL_inj (by rw [hs, pr_toList])) hkk) e2' hq5 (by omega) g3' g4' (by omega) (by omega) (by simp only [List.getElem?_cons_zero, List.getElem?_cons_succ, Option.getD_some, Int.toNat_natCast, if_true]; rfl)
      · rw [if_neg hs]
        refine .con q[a].s f1 ?_ (fun _ => pn_eq hk hn1 rfl hkk) (by omega) e2' (by omega) (by simp)
        unfold conOkB at hn2
        rw [if_neg hs] at hn2
        split at hn2
        · rename_i hh
          rcases hh with hh | hh | hh
          · exact .inl hh
          · exact .inr (.inl hh)
          · exact .inr (.inr (.inl hh))
        · simp only [Bool.and_eq_true] at hn2
          exact .inr (.inr (.inr hn2.1))
  · have hl5 := kids5 hn0 hk
    obtain ⟨x, y, hxy⟩ := two_kids hl5
    obtain ⟨m, g1, g2, g3, g4, g5, g6, g7, g8⟩ := end_2 hv.pre hal (x := x) (y := y) (by rw [hgk, hxy])
    subst g1 g2
    have g3' : a + 1 < q.length := by simpa using g3
    have g4' : m < q.length := by simpa using g4
    rw [if_neg (by omega), if_neg (by omega), if_neg (by omega), if_neg (by omega), if_pos hk, hxy]
    rw [hk] at hn
    simp at hn
    exact .pair m f1 (fun _ => pn_eq hk hn.1 (nn_of hn.2.1) hxy) (by omega) g3' g4' (by omega) (by omega) (by simp)
  · have hkd := kids36 hn0 (.inr (.inr (.inr hk)))
    rw [if_neg (by omega), if_neg (by omega), if_neg (by omega), if_pos hk]
    rw [hk] at hn
    simp at hn
    have hk0 : q[a].kids = [] := List.eq_nil_of_length_eq_zero hkd
    exact .unit (fun _ => pn_eq hk hn.1 (nn_of hn.2.1) hk0) rfl
/-- How the text of a pattern begins. -/
theorem PShape.hd {q : List PN} {f a : Nat} {T : List UInt8} (ha : a < q.length) (h : PShape q f a T) : (∃ t, T = 40 :: t) ∨ (∃ w, T = w ∧ leafP q[a] w) := by
  cases h with
  | leaf w hx hk ht => exact .inr ⟨w, ht, hx ha⟩
  | unit hx ht => exact .inl ⟨_, ht⟩
  | con s g hs hx hg hl hf ht => exact .inl ⟨_, ht⟩
  | cons m g hx hl hy hg hl2 hm hf hf2 ht => exact .inl ⟨_, ht⟩
  | pair m g hx hg hl hm hf hf2 ht => exact .inl ⟨_, ht⟩
theorem pt_ne {q : List PN} (hv : PatV q) {f a : Nat} (ha : a < q.length) (hf : q.length < a + f) {c : UInt8} (hc : c = 41 ∨ c = 58) (t r : List UInt8) : patU numL q f false a ++ r ≠ c :: t := by
  rcases (pshape hv f a ha hf).hd ha with ⟨u, e⟩ | ⟨w, e, hl⟩
  · rw [e]
    intro h
    simp only [List.cons_append, List.cons.injEq] at h
    rcases hc with rfl | rfl <;> (have := h.1; revert this; decide)
  · obtain ⟨_, c', u, e2, h1, h2, h3⟩ := leafP_wd hl
    rw [e, e2]
    intro h
    simp only [List.cons_append, List.cons.injEq] at h
    rw [h.1] at h2 h3
    rcases hc with rfl | rfl
    · revert h3; decide
    · exact h2 rfl
/-- A word against the text of a pattern. -/
theorem wd_pt {q : List PN} (hv : PatV q) {f a : Nat} (ha : a < q.length) (hf : q.length < a + f) {s : ByteArray} (hs : conW s) {r r' : List UInt8} (hr : Dlm r) (hr' : Dlm r') (h : s.toList ++ r = patU numL q f false a ++ r') : r = r' := by
  rcases (pshape hv f a ha hf).hd ha with ⟨u, e⟩ | ⟨w, e, hl⟩
  · obtain ⟨c, t, e2, h1, _⟩ := conW_hd hs
    rw [e, e2] at h
    simp only [List.cons_append, List.cons.injEq] at h
    exact absurd h.1 h1
  · rw [e] at h
    exact (wd_split _ _ _ _ (conW_wd hs) (leafP_wd hl).1 hr hr' h).2
theorem get_some {α : Type} {P Q : List α} {a : Nat} (h1 : a < P.length) (h2 : a < Q.length) (h : P[a] = Q[a]) : P[a]? = Q[a]? := by
  rw [List.getElem?_eq_getElem h1, List.getElem?_eq_getElem h2, h]
theorem D32 (t : List UInt8) : Dlm (32 :: t) := Dlm.cons (by decide)
theorem D41 (t : List UInt8) : Dlm (41 :: t) := Dlm.cons (by decide)
theorem D44 (t : List UInt8) : Dlm (44 :: t) := Dlm.cons (by decide)
theorem pat_inj {p q : List PN} (hv : PatV p) (hw : PatV q) : ∀ (f a f' a' : Nat) (r s : List UInt8), a < p.length → a' < q.length → p.length < a + f → q.length < a' + f' → Dlm r → Dlm s →
    patU numL p f false a ++ r = patU numL q f' false a' ++ s → r = s ∧ (a = a' → Agr p q (p.map PN.kids) (q.map PN.kids) a) := by
  intro f
  induction f using Nat.strongRecOn with
  | _ f ih =>
    intro a f' a' r s ha ha' hf hf' hr hs he
    have hal : a < (p.map PN.kids).length := by simpa using ha
    have hal' : a' < (q.map PN.kids).length := by simpa using ha'
    have hgk : (p.map PN.kids)[a] = p[a].kids := by simp
    have hgk' : (q.map PN.kids)[a'] = q[a'].kids := by simp
    have sh := pshape hv f a ha hf
    have sh' := pshape hw f' a' ha' hf'
    cases sh with
    | leaf w hx hk ht =>
      rw [ht] at he
      obtain ⟨w1, c, t, w2, w3, w4, w5⟩ := leafP_wd (hx ha)
      rcases sh'.hd ha' with ⟨u, e⟩ | ⟨w', e, hl⟩
      · rw [e, w2] at he
        simp only [List.cons_append, List.cons.injEq] at he
        exact absurd he.1 w3
      · rw [e] at he
        obtain ⟨e1, e2⟩ := wd_split _ _ _ _ w1 (leafP_wd hl).1 hr hs he
        refine ⟨e2, fun haa => ?_⟩
        subst haa
        rw [← e1] at hl
        have hxy := leafP_inj (hx ha) hl
        refine .zero (get_some ha ha' hxy) (end_0 hv.pre hal (by rw [hgk]; exact hk ha)) (end_0 hw.pre hal' (by rw [hgk', ← hxy]; exact hk ha))
    | unit hx ht =>
      rw [ht] at he
      have hk : p[a].kids = [] := by rw [hx ha]
      cases sh' with
      | leaf w hx' hk' ht' =>
        obtain ⟨w1, c, t, w2, w3, w4, w5⟩ := leafP_wd (hx' ha')
        rw [ht', w2] at he
        simp only [List.cons_append, List.cons.injEq] at he
        exact absurd he.1.symm w3
      | unit hx' ht' =>
        rw [ht'] at he
        simp only [List.cons_append, List.nil_append, List.cons.injEq, true_and] at he
        refine ⟨he, fun haa => ?_⟩
        subst haa
        have hxy : p[a] = q[a] := (hx ha).trans (hx' ha').symm
        exact .zero (get_some ha ha' hxy) (end_0 hv.pre hal (by rw [hgk]; exact hk)) (end_0 hw.pre hal' (by rw [hgk', ← hxy]; exact hk))
      | con s' g hs' hx' hg hl hf2 ht' =>
        obtain ⟨c, t, e2, _, _, _, h4, _⟩ := conW_hd hs'
        rw [ht', e2] at he
        simp only [List.cons_append, List.nil_append, List.cons.injEq, true_and] at he
        rw [← he.1] at h4
        exact absurd h4 (by decide)
      | cons m g hx' hl hy hg hl2 hm hf2 hf3 ht' =>
        rw [ht'] at he
        simp only [List.cons_append, List.nil_append, List.append_assoc, List.cons.injEq, true_and] at he
        exact absurd he.symm (pt_ne hw hl2 hf2 (.inl rfl) _ _)
      | pair m g hx' hg hl hm hf2 hf3 ht' =>
        rw [ht'] at he
        simp only [List.cons_append, List.nil_append, List.append_assoc, List.cons.injEq, true_and] at he
        exact absurd he.symm (pt_ne hw hl hf2 (.inl rfl) _ _)
    | con s0 g hs0 hx hg hl hfg ht =>
      rw [ht] at he
      cases sh' with
      | leaf w hx' hk' ht' =>
        obtain ⟨w1, c, t, w2, w3, w4, w5⟩ := leafP_wd (hx' ha')
        rw [ht', w2] at he
        simp only [List.cons_append, List.cons.injEq] at he
        exact absurd he.1.symm w3
      | unit hx' ht' =>
        obtain ⟨c, t, e2, _, _, _, h4, _⟩ := conW_hd hs0
        rw [ht', e2] at he
        simp only [List.cons_append, List.nil_append, List.cons.injEq, true_and] at he
        rw [he.1] at h4
        exact absurd h4 (by decide)
      | con s' g' hs' hx' hg' hl' hf2 ht' =>
        rw [ht'] at he
        simp only [List.cons_append, List.append_assoc, List.cons.injEq, true_and] at he
        obtain ⟨e1, e2⟩ := wd_split _ _ _ _ (conW_wd hs0) (conW_wd hs') (D32 _) (D32 _) he
        simp only [List.cons.injEq, true_and] at e2
        obtain ⟨e3, e4⟩ := ih g hg _ _ _ _ _ hl hl' hfg hf2 (D41 _) (D41 _) e2
        simp only [List.nil_append, List.cons.injEq, true_and] at e3
        refine ⟨e3, fun haa => ?_⟩
        subst haa
        have hxy : p[a] = q[a] := by rw [hx ha, hx' ha', toL_inj e1]
        obtain ⟨_, _, b1, _⟩ := end_1 hv.pre hal (x := ((a + 1 : Nat) : Int)) (by rw [hgk, hx ha])
        obtain ⟨_, _, b2, _⟩ := end_1 hw.pre hal' (x := ((a + 1 : Nat) : Int)) (by rw [hgk', hx' ha'])
        exact .one (get_some ha ha' hxy) b1 b2 (e4 rfl)
      | cons m g' hx' hl' hy' hg' hl2 hm hf2 hf3 ht' =>
        rw [ht'] at he
        simp only [List.cons_append, List.append_assoc, List.cons.injEq, true_and] at he
        have e2 := wd_pt hw hl2 hf2 hs0 (D32 _) (D32 _) he
        simp only [List.cons.injEq, true_and] at e2
        exact absurd e2 (pt_ne hv hl hfg (.inr rfl) _ _)
      | pair m g' hx' hg' hl' hm hf2 hf3 ht' =>
        rw [ht'] at he
        simp only [List.cons_append, List.append_assoc, List.cons.injEq, true_and] at he
        have e2 := wd_pt hw hl' hf2 hs0 (D32 _) (D44 _) he
        simp at e2
    | cons m g hx hl hy hg hl2 hm hf2 hf3 ht =>
      rw [ht] at he
      cases sh' with
      | leaf w hx' hk' ht' =>
        obtain ⟨w1, c, t, w2, w3, w4, w5⟩ := leafP_wd (hx' ha')
        rw [ht', w2] at he
        simp only [List.cons_append, List.cons.injEq] at he
        exact absurd he.1.symm w3
      | unit hx' ht' =>
        rw [ht'] at he
        simp only [List.cons_append, List.nil_append, List.append_assoc, List.cons.injEq, true_and] at he
        exact absurd he (pt_ne hv hl2 hf2 (.inl rfl) _ _)
      | con s' g' hs' hx' hg' hl' hfg' ht' =>
        rw [ht'] at he
        simp only [List.cons_append, List.append_assoc, List.cons.injEq, true_and] at he
        have e2 := wd_pt hv hl2 hf2 hs' (D32 _) (D32 _) he.symm
        simp only [List.cons.injEq, true_and] at e2
        exact absurd e2 (pt_ne hw hl' hfg' (.inr rfl) _ _)
      | cons m' g' hx' hl' hy' hg' hl2' hm' hf2' hf3' ht' =>
        rw [ht'] at he
        simp only [List.cons_append, List.append_assoc, List.cons.injEq, true_and] at he
        obtain ⟨e1, e2⟩ := ih g hg _ _ _ _ _ hl2 hl2' hf2 hf2' (D32 _) (D32 _) he
        simp only [List.cons.injEq, true_and] at e1
        obtain ⟨e3, e4⟩ := ih g hg _ _ _ _ _ hm hm' hf3 hf3' (D41 _) (D41 _) e1
        simp only [List.nil_append, List.cons.injEq, true_and] at e3
        refine ⟨e3, fun haa => ?_⟩
        subst haa
        have hl0 : a + 1 < (p.map PN.kids).length := by simpa using hl
        have hl0' : a + 1 < (q.map PN.kids).length := by simpa using hl'
        obtain ⟨_, _, b1, _⟩ := end_1 hv.pre hal (x := ((a + 1 : Nat) : Int)) (by rw [hgk, hx ha])
        obtain ⟨_, _, b2, _⟩ := end_1 hw.pre hal' (x := ((a + 1 : Nat) : Int)) (by rw [hgk', hx' ha'])
        obtain ⟨n1, _, c2, _, _, c3, c4, _⟩ := end_2 hv.pre hl0 (x := ((a + 2 : Nat) : Int)) (y := (m : Int)) (by simp [hy])
        obtain ⟨n2, _, d2, _, _, d3, d4, _⟩ := end_2 hw.pre hl0' (x := ((a + 2 : Nat) : Int)) (y := (m' : Int)) (by simp [hy'])
        have A1 := e2 rfl
        have hn1 : n1 = m := by omega
        have hn2 : n2 = m' := by omega
        subst hn1 hn2
        have hmm : n1 = n2 := by have A1e : endN (p.map PN.kids) (a + 1 + 1) = endN (q.map PN.kids) (a + 1 + 1) := A1.e; omega
        subst hmm
        have hxy : p[a] = q[a] := by rw [hx ha, hx' ha']
        have hyy : p[a + 1] = q[a + 1] := by rw [hy, hy']
        exact .one (get_some ha ha' hxy) b1 b2 (.two (get_some hl hl' hyy) A1 c3 c4 d4 (e4 rfl))
      | pair m' g' hx' hg' hl' hm' hf2' hf3' ht' =>
        rw [ht'] at he
        simp only [List.cons_append, List.append_assoc, List.cons.injEq, true_and] at he
        obtain ⟨e1, e2⟩ := ih g hg _ _ _ _ _ hl2 hl' hf2 hf2' (D32 _) (D44 _) he
        simp at e1
    | pair m g hx hg hl hm hf2 hf3 ht =>
      rw [ht] at he
      cases sh' with
      | leaf w hx' hk' ht' =>
        obtain ⟨w1, c, t, w2, w3, w4, w5⟩ := leafP_wd (hx' ha')
        rw [ht', w2] at he
        simp only [List.cons_append, List.cons.injEq] at he
        exact absurd he.1.symm w3
      | unit hx' ht' =>
        rw [ht'] at he
        simp only [List.cons_append, List.nil_append, List.append_assoc, List.cons.injEq, true_and] at he
        exact absurd he (pt_ne hv hl hf2 (.inl rfl) _ _)
      | con s' g' hs' hx' hg' hl' hfg' ht' =>
        rw [ht'] at he
        simp only [List.cons_append, List.append_assoc, List.cons.injEq, true_and] at he
        have e2 := wd_pt hv hl hf2 hs' (D32 _) (D44 _) he.symm
        simp at e2
      | cons m' g' hx' hl' hy' hg' hl2' hm' hf2' hf3' ht' =>
        rw [ht'] at he
        simp only [List.cons_append, List.append_assoc, List.cons.injEq, true_and] at he
        obtain ⟨e1, e2⟩ := ih g hg _ _ _ _ _ hl hl2' hf2 hf2' (D44 _) (D32 _) he
        simp at e1
      | pair m' g' hx' hg' hl' hm' hf2' hf3' ht' =>
        rw [ht'] at he
        simp only [List.cons_append, List.append_assoc, List.cons.injEq, true_and] at he
        obtain ⟨e1, e2⟩ := ih g hg _ _ _ _ _ hl hl' hf2 hf2' (D44 _) (D44 _) he
        simp only [List.cons.injEq, true_and] at e1
        obtain ⟨e3, e4⟩ := ih g hg _ _ _ _ _ hm hm' hf3 hf3' (D41 _) (D41 _) e1
        simp only [List.nil_append, List.cons.injEq, true_and] at e3
        refine ⟨e3, fun haa => ?_⟩
        subst haa
        obtain ⟨n1, _, c2, _, _, c3, c4, _⟩ := end_2 hv.pre hal (x := ((a + 1 : Nat) : Int)) (y := (m : Int)) (by rw [hgk, hx ha])
        obtain ⟨n2, _, d2, _, _, d3, d4, _⟩ := end_2 hw.pre hal' (x := ((a + 1 : Nat) : Int)) (y := (m' : Int)) (by rw [hgk', hx' ha'])
        have A1 := e2 rfl
        have hn1 : n1 = m := by omega
        have hn2 : n2 = m' := by omega
        subst hn1 hn2
        have hmm : n1 = n2 := by have := A1.e; omega
        subst hmm
        have hxy : p[a] = q[a] := by rw [hx ha, hx' ha']
        exact .two (get_some ha ha' hxy) A1 c3 c4 d4 (e4 rfl)
theorem end_all {l : List (List Int)} (hp : preB l = true) : endN l 0 = l.length := by
  have h := span_pre hp
  cases h with
  | cons _ m _ _ hl h1 h2 =>
    cases h2
    exact endN_of hl h1
theorem agr_all {β : Type} {P Q : List β} {l l' : List (List Int)} (hp : preB l = true) (hq : preB l' = true) (hP : P.length = l.length) (hQ : Q.length = l'.length) (h : Agr P Q l l' 0) : P = Q := by
  have e1 := end_all hp
  have e2 := end_all hq
  have e3 := h.e
  apply List.ext_getElem?
  intro i
  by_cases hi : i < l.length
  · exact h.at_ i (by omega) (by omega)
  · rw [List.getElem?_eq_none (by omega), List.getElem?_eq_none (by omega)]
/-- A right pattern is known by its text. -/
theorem pTxt_inj {p q : List PN} (hp : patOkB p = true) (hq : patOkB q = true) {r s : List UInt8} (hr : Dlm r) (hs : Dlm s) (h : pTxt p ++ r = pTxt q ++ s) : p = q ∧ r = s := by
  have hv := patV_of hp
  have hw := patV_of hq
  obtain ⟨p0, _⟩ := patOk_len hp
  obtain ⟨q0, _⟩ := patOk_len hq
  obtain ⟨e1, e2⟩ := pat_inj hv hw (p.length + 1) 0 (q.length + 1) 0 r s p0 q0 (by omega) (by omega) hr hs h
  exact ⟨agr_all hv.pre hw.pre (by simp) (by simp) (e2 rfl), e1⟩
end Go.Proofs.YtaibgnfjjbncpaaGreat
namespace Go.Proofs.YtaibgnfjjbncpaaGreat
set_option linter.unusedVariables false
set_option maxRecDepth 100000
open Go.RowKit

theorem hexB_inj {a b : Nat} (ha : a < 16) (hb : b < 16) (h : hexB a = hexB b) : a = b := by
  have h1 := hexB_toNat a ha
  have h2 := hexB_toNat b hb
  rw [h, h2] at h1
  unfold hexI at h1
  split at h1 <;> split at h1 <;> omega
/-- The pieces of a byte. -/
theorem qb_kinds (c : UInt8) : (c.toNat = 10 ∧ qb c = [92, 110]) ∨ ((c = 34 ∨ c = 92) ∧ qb c = [92, c]) ∨ (c ≠ 34 ∧ c ≠ 92 ∧ c.toNat ≠ 10 ∧ qb c = [c]) ∨ (c ≠ 34 ∧ c ≠ 92 ∧ c.toNat ≠ 10 ∧ qb c = [92, 120, hexB (c.toNat / 16), hexB (c.toNat % 16)]) := by
  by_cases h1 : (c.toNat : Int) = 10
  · exact .inl ⟨by omega, qb_ten c h1⟩
  · by_cases h2 : (c.toNat : Int) = 34 ∨ (c.toNat : Int) = 92
    · refine .inr (.inl ⟨?_, qb_esc c h1 h2⟩)
      rcases h2 with h2 | h2
      · exact .inl (UInt8.toNat_inj.1 (by simpa using (show c.toNat = 34 by omega)))
      · exact .inr (UInt8.toNat_inj.1 (by simpa using (show c.toNat = 92 by omega)))
    · have n1 : c ≠ 34 := by rintro rfl; exact h2 (.inl rfl)
      have n2 : c ≠ 92 := by rintro rfl; exact h2 (.inr rfl)
      by_cases h3 : 32 ≤ (c.toNat : Int) ∧ (c.toNat : Int) ≤ 126
      · exact .inr (.inr (.inl ⟨n1, n2, by omega, qb_self c h1 h2 h3⟩))
      · exact .inr (.inr (.inr ⟨n1, n2, by omega, qb_hex c h1 h2 h3⟩))
theorem qb_inj {c d : UInt8} {r s : List UInt8} (h : qb c ++ r = qb d ++ s) : c = d ∧ r = s := by
  rcases qb_kinds c with ⟨c1, c2⟩ | ⟨c1, c2⟩ | ⟨c1, c3, c4, c2⟩ | ⟨c1, c3, c4, c2⟩ <;>
  rcases qb_kinds d with ⟨d1, d2⟩ | ⟨d1, d2⟩ | ⟨d1, d3, d4, d2⟩ | ⟨d1, d3, d4, d2⟩ <;>
  rw [c2, d2] at h <;>
  simp only [List.cons_append, List.nil_append, List.cons.injEq, true_and] at h
  · exact ⟨UInt8.toNat_inj.1 (by omega), h⟩
  · rcases d1 with rfl | rfl <;> (exact absurd h.1 (by decide))
  · exact absurd h.1.symm d3
  · exact absurd h.1 (by decide)
  · rcases c1 with rfl | rfl <;> (exact absurd h.1 (by decide))
  · exact h
  · exact absurd h.1.symm d3
  · rcases c1 with rfl | rfl <;> (exact absurd h.1 (by decide))
  · exact absurd h.1 c3
  · exact absurd h.1 c3
  · exact h
  · exact absurd h.1 c3
  · exact absurd h.1 (by decide)
  · rcases d1 with rfl | rfl <;> (exact absurd h.1 (by decide))
  · exact absurd h.1.symm d3
  · obtain ⟨h1, h2, h3⟩ := h
    have lc := c.toNat_lt
    have ld := d.toNat_lt
    have e1 := hexB_inj (by omega) (by omega) h1
    have e2 := hexB_inj (by omega) (by omega) h2
    exact ⟨UInt8.toNat_inj.1 (by omega), h3⟩
theorem qb_hd (c : UInt8) : ∃ d t, qb c = d :: t ∧ d ≠ 34 := by
  rcases qb_kinds c with ⟨c1, c2⟩ | ⟨c1, c2⟩ | ⟨c1, c3, c4, c2⟩ | ⟨c1, c3, c4, c2⟩
  · exact ⟨_, _, c2, by decide⟩
  · exact ⟨_, _, c2, by decide⟩
  · exact ⟨_, _, c2, c1⟩
  · exact ⟨_, _, c2, by decide⟩
theorem quote_inj : ∀ (l l' : List UInt8) {r s : List UInt8}, l.flatMap qb ++ 34 :: r = l'.flatMap qb ++ 34 :: s → l = l' ∧ r = s := by
  intro l
  induction l with
  | nil =>
    intro l' r s h
    cases l' with
    | nil => simpa using h
    | cons d l' =>
      obtain ⟨e, t, h1, h2⟩ := qb_hd d
      rw [List.flatMap_cons, h1] at h
      simp only [List.flatMap_nil, List.nil_append, List.cons_append, List.cons.injEq] at h
      exact absurd h.1.symm h2
  | cons c l ih =>
    intro l' r s h
    cases l' with
    | nil =>
      obtain ⟨e, t, h1, h2⟩ := qb_hd c
      rw [List.flatMap_cons, h1] at h
      simp only [List.flatMap_nil, List.nil_append, List.cons_append, List.cons.injEq] at h
      exact absurd h.1 h2
    | cons d l' =>
      rw [List.flatMap_cons, List.flatMap_cons, List.append_assoc, List.append_assoc] at h
      obtain ⟨rfl, h2⟩ := qb_inj h
      obtain ⟨rfl, h3⟩ := ih l' h2
      exact ⟨rfl, h3⟩
theorem quoteL_inj {l l' r s : List UInt8} (h : quoteL l ++ r = quoteL l' ++ s) : l = l' ∧ r = s := by
  unfold quoteL at h
  simp only [List.cons_append, List.append_assoc, List.nil_append, List.cons.injEq, true_and] at h
  exact quote_inj l l' h
end Go.Proofs.YtaibgnfjjbncpaaGreat
namespace Go.Proofs.YtaibgnfjjbncpaaGreat
set_option linter.unusedVariables false
set_option maxRecDepth 100000
open Go.ChangeShapes Go.WideShapes Go.ChangeAt Go.RowKit

theorem sNEnd : ∀ (f : Nat) (q : List Nd) (t v : Value) (a : Int) (w : World) (ht : ∃ pt nt ct, t = .slice pt nt ct) (hR : RowRd 6 NdEl w v q) (ha : 0 ≤ a) (ha2 : a ≤ 9223372036854775807) (hf : (q.length : Int) < a + f),
    Calls Tryz.prog 27 #[.agg #[t, v], .int .i64 a] w fun e w' => e = .returned (.int .i64 (pendF f (q.map Nd.kids) a)) ∧ Below w.heap.size w w' := by
  intro f
  induction f with
  | zero =>
    intro l t v a w ht hR ha ha2 hf
    obtain ⟨pt, nt, ct, rfl⟩ := ht
    obtain ⟨p, cap, rfl, hm, _⟩ := hR.form
    have HB := Lib.hid (pendF_out 0 (l.map Nd.kids) a (by rw [List.length_map]; omega))
    unfold maxLen at hm
    have h1 : (l.length : Int) ≤ a := by omega
    go_enter Tryz.func27, Tryz.ntmps27
    go_wp2
    go_ret
    exact ⟨ret_int' HB.out.symm, Joins.below_alloc1 w _⟩
  | succ f ih =>
    intro l t v a w ht hR ha ha2 hf
    obtain ⟨pt, nt, ct, rfl⟩ := ht
    have hR0 := hR
    obtain ⟨p, cap, rfl, hm, hRf⟩ := hR.form
    clear hR
    unfold maxLen at hm
    by_cases h1 : (l.length : Int) ≤ a
    · have HB := Lib.hid (pendF_out (f + 1) (l.map Nd.kids) a (by rw [List.length_map]; omega))
      go_enter Tryz.func27, Tryz.ntmps27
      go_wp2
      go_ret
      exact ⟨ret_int' HB.out.symm, Joins.below_alloc1 w _⟩
    obtain ⟨n, rfl⟩ : ∃ n : Nat, a = n := ⟨a.toNat, by omega⟩
    have hn : n < l.length := by omega
    have hB := pendF_in f (l.map Nd.kids) n (by rw [List.length_map]; exact hn)
    rw [List.getElem_map] at hB
    have hfl : (l.length : Int) < (n : Int) + 1 + f := by omega
    clear h1 hf ha
    obtain ⟨b, o, rfl, hbw, hc⟩ := hRf (by omega)
    have ex := hc n hn
    clear hc hRf
    generalize l[n] = x at *
    have HB := Lib.hid hB
    clear hB
    obtain ⟨⟨e0, i0⟩, ⟨e1, i1⟩, ⟨e2, i2⟩, ⟨e2b, i2b⟩, ⟨u, e3, r3⟩, ⟨u5, e5, r5⟩⟩ := ex
    clear e2b e5 r5
    have r3' := r3
    obtain ⟨bk, ck, rfl, hmk, hk⟩ := r3.form
    clear r3
    unfold maxLen at hmk
    have hnc : decide (l.length ≤ n) = false := by simp; omega
    go_enter Tryz.func27, Tryz.ntmps27
    go_wp2
    go_loopw [5, 22] (fun nx i wr => ∃ (k : Nat) (N : Int), i = .int .i64 k ∧ nx = .int .i64 N ∧ k ≤ x.kids.length ∧ pendF (f + 1) (l.map Nd.kids) (n : Int) = kidsE (pendF f (l.map Nd.kids)) (x.kids.drop k) N ∧ (n : Int) + 1 ≤ N ∧ N ≤ l.length ∧ Below (w.alloc (.cells #[.slice pt nt ct, .slice (some ⟨b, o, none⟩) l.length cap] 31)).heap.size (w.alloc (.cells #[.slice pt nt ct, .slice (some ⟨b, o, none⟩) l.length cap] 31)) wr) (fun _ i _ => x.kids.length - (intOf i).toNat)
    case atStart => exact ⟨0, (n : Int) + 1, rfl, rfl, Nat.zero_le _, by rw [HB.out]; rfl, Int.le_refl _, by omega, Below.refl _ _⟩
    case round =>
      obtain ⟨k, N, rfl, rfl, hkl, hE, hN1, hN2, hbel⟩ := hrel
      have HE := Lib.hid hE
      clear hE
      obtain ⟨hcl, hfr⟩ := bcell hbel
      have hsz := hbel.size
      simp at hsz
      have c0 : wr.cell? ⟨w.heap.size, 1, none⟩ = some (.slice (some ⟨b, o, none⟩) l.length cap) := by rw [hcl _ _ (by simp)]; simp
      have c00 : wr.cell? ⟨w.heap.size, 0, none⟩ = some (.slice pt nt ct) := by rw [hcl _ _ (by simp)]; simp
      have hK : Kept w wr := (Kept.alloc _ _).trans (Kept.of_below hbel)
      clear hcl hfr e0 e1 e2 e3
      by_cases hlt : k < x.kids.length
      · obtain ⟨b2, o2, rfl, hb2, hc2⟩ := hk (by omega)
        obtain ⟨g0, j0, j1⟩ := IntEl.st w wr b2 _ _ hK hb2 (hc2 k hlt)
        rw [Nat.mul_one] at g0
        have HNo := Lib.hid (kidsE_no (pendF f (l.map Nd.kids)) x.kids k hlt)
        have HNeg := Lib.hid (kidsE_neg (pendF f (l.map Nd.kids)) x.kids k hlt)
        have HSt := Lib.hid (kidsE_step (pendF f (l.map Nd.kids)) x.kids k hlt)
        clear hc2 hk
        generalize x.kids[k] = y at *
        by_cases hy : y = N
        · subst hy
          have hyy : (y != y) = false := by simp
          go_wp2_with fail
          refine (ih l _ _ y _ ⟨_, _, _, rfl⟩ (hR0.kept NdEl.st hK) (by omega) (by omega) (by omega)).mono ?_
          rintro e w1 ⟨rfl, hb1⟩
          have hgt := pendF_gt f (l.map Nd.kids) y
          have hle := pendF_le f (l.map Nd.kids) y
          rw [List.length_map] at hle
          obtain ⟨G, hG⟩ : ∃ G, G = pendF f (l.map Nd.kids) y := ⟨_, rfl⟩
          rw [← hG] at hgt hle ⊢
          have HG := Lib.hid hG
          clear hG
          by_cases hneg : G < 0
          · go_wp2
            go_ret
            refine ⟨ret_int' ?_, (Joins.below_alloc1 w _).trans ((hbel.trans (hb1.mono (by simp; omega))).mono (by simp))⟩
            rw [HE.out, HNeg.out y rfl (by rw [← HG.out]; exact hneg)]
          · have hG0 : 0 ≤ G := by omega
            go_wp2
            go_roundw
            case rel => exact ⟨k + 1, G, by go_num, rfl, by omega, by rw [HE.out, HSt.out y rfl (by rw [← HG.out]; omega), HG.out], by omega, by omega, hbel.trans (hb1.mono (by simp; omega))⟩
            case measure => simp [intOf]; omega
        · have hyy : (y != N) = true := by simpa using hy
          have HY := Lib.hid hy
          clear hy
          go_wp2
          go_ret
          refine ⟨ret_int' ?_, (Joins.below_alloc1 w _).trans (hbel.mono (by simp))⟩
          rw [HE.out, HNo.out N HY.out]
      · obtain rfl : k = x.kids.length := by omega
        go_wp2
        go_ret
        refine ⟨ret_int' ?_, (Joins.below_alloc1 w _).trans (hbel.mono (by simp))⟩
        rw [HE.out, List.drop_length]; rfl

theorem sPrim (s : ByteArray) (w : World) :
    Calls Tryz.prog 54 #[.string s] w fun e w' => e = .returned (.bool (primB s)) ∧ Below w.heap.size w w' := by
  go_enter Tryz.func54, Tryz.ntmps54
  go_wp2
  go_loop [7] (fun i => ∃ k : Nat, k ≤ 10 ∧ i = .int .i64 k ∧ (prims.take k).any (fun x => s.toList == x) = false) (fun i => 10 - (intOf i).toNat)
  case atStart => exact ⟨0, Nat.zero_le _, rfl, rfl⟩
  case round =>
    obtain ⟨k, hk, rfl, hno⟩ := hrel
    have HN := Lib.hid hno
    clear hno
    by_cases hlt : k < 10
    · have hc : k = 0 ∨ k = 1 ∨ k = 2 ∨ k = 3 ∨ k = 4 ∨ k = 5 ∨ k = 6 ∨ k = 7 ∨ k = 8 ∨ k = 9 := by omega
      clear hlt hk
      rcases hc with rfl | rfl | rfl | rfl | rfl | rfl | rfl | rfl | rfl | rfl
      all_goals
        go_wp2
        · have hx := ‹(s.toList == _) = true›
          go_ret
          exact ⟨ret_bool (prim_yes s _ (by decide) hx), (Below.refl _ _).alloc (Nat.le_refl _) _⟩
        · go_round
          case rel => exact ⟨_ + 1, by omega, by go_num, prim_step s _ _ rfl HN.out ‹_›⟩
          case measure => simp [intOf]
    · obtain rfl : k = 10 := by omega
      go_wp2
      go_ret
      exact ⟨ret_bool (by rw [primB]; exact HN.out.symm), (Below.refl _ _).alloc (Nat.le_refl _) _⟩
theorem sKids (k : Int) (w : World) : Calls Tryz.prog 57 #[.int .i64 k] w fun e w' => e = .returned (.int .i64 (kidsN k)) ∧ w = w' := by
  go_enter Tryz.func57, Tryz.ntmps57
  go_wp2
  all_goals
    go_ret
    refine ⟨ret_int' ?_, rfl⟩
    simp_all [kidsN]
end Go.Proofs.YtaibgnfjjbncpaaGreat
namespace Go.Proofs.YtaibgnfjjbncpaaGreat
set_option linter.unusedVariables false
set_option maxRecDepth 100000
open Go.ChangeShapes Go.WideShapes Go.ChangeAt Go.RowKit

/-- A node by value, its rows as slices. -/
def ndV (kd at_ n : Int) (s : ByteArray) (uk up : Value) : Value := .agg #[.int .i64 kd, .int .i64 at_, .int .i64 n, .string s, uk, up]
set_option maxHeartbeats 4000000 in
theorem sNode_head (vt vn : Value) (kd at_ n : Int) (s : ByteArray) (kids : List Int) (pats : List (List PN)) (nodes : List Nd) (uk up : Value) (w : World)
    (ht : ∃ pt nt ct, vt = .slice pt nt ct) (hn : ∃ pt nt ct, vn = .slice pt nt ct) (hk : ∃ pt nt ct, uk = .slice pt nt ct) (hp : ∃ pt nt ct, up = .slice pt nt ct) (h : ¬ NdHead ⟨kd, at_, n, s, kids, pats⟩) :
    Calls Tryz.prog 26 #[.agg #[vt, vn], .agg #[.int .i64 kd, .int .i64 at_, .int .i64 n, .string s, uk, up]] w fun e w' => e = .returned (.bool false) ∧ Below w.heap.size w w' := by
  obtain ⟨p1, n1, c1, rfl⟩ := ht
  obtain ⟨p2, n2, c2, rfl⟩ := hn
  obtain ⟨p3, n3, c3, rfl⟩ := hk
  obtain ⟨p4, n4, c4, rfl⟩ := hp
  simp only [NdHead] at h
  have hc : kd < 1 ∨ (1 ≤ kd ∧ 19 < kd) ∨ (1 ≤ kd ∧ kd ≤ 19 ∧ at_ < 0) ∨ (1 ≤ kd ∧ kd ≤ 19 ∧ 0 ≤ at_ ∧ kd ≠ 1 ∧ n ≠ 0) ∨ (kd = 1 ∧ 0 ≤ at_ ∧ n < 0) ∨ (kd = 1 ∧ 0 ≤ at_ ∧ 0 ≤ n ∧ 4611686018427387903 < n) := by omega
  clear h
  rcases hc with h1 | ⟨h1, h2⟩ | ⟨h1, h2, h3⟩ | ⟨h1, h2, h3, h4, h5⟩ | ⟨rfl, h3, h4⟩ | ⟨rfl, h3, h4, h5⟩
  · go_enter Tryz.func26, Tryz.ntmps26
    go_wp2
    go_ret
    exact ⟨rfl, Joins.below_alloc2 w _ _⟩
  · go_enter Tryz.func26, Tryz.ntmps26
    go_wp2
    go_ret
    exact ⟨rfl, Joins.below_alloc2 w _ _⟩
  · go_enter Tryz.func26, Tryz.ntmps26
    go_wp2
    go_ret
    exact ⟨rfl, Joins.below_alloc2 w _ _⟩
  · have b1 : (kd != 1) = true := by simpa using h4
    have b2 : (n != 0) = true := by simpa using h5
    clear h4 h5
    go_enter Tryz.func26, Tryz.ntmps26
    go_wp2
    go_ret
    exact ⟨rfl, Joins.below_alloc2 w _ _⟩
  · go_enter Tryz.func26, Tryz.ntmps26
    go_wp2
    go_ret
    exact ⟨rfl, Joins.below_alloc2 w _ _⟩
  · go_enter Tryz.func26, Tryz.ntmps26
    go_wp2
    go_ret
    exact ⟨rfl, Joins.below_alloc2 w _ _⟩
end Go.Proofs.YtaibgnfjjbncpaaGreat
namespace Go.Proofs.YtaibgnfjjbncpaaGreat
set_option linter.unusedVariables false
set_option maxRecDepth 100000
open Go.ChangeShapes Go.WideShapes Go.ChangeAt Go.RowKit

theorem still_more {P : Program} {f : FuncId} {args : Array Value} {w : World} {a n : Nat} {v : Value} (h : Calls P f args (w.drewN (a + n)) fun e w' => e = .returned v ∧ w.drewN (a + n) = w') :
    Calls P f args (w.drewN (a + n)) fun e w'' => e = .returned v ∧ ∃ m, w'' = w.drewN (a + m) := h.mono fun e w' hh => ⟨hh.1, n, hh.2.symm⟩
theorem still_one {P : Program} {f : FuncId} {args : Array Value} {w : World} {n : Nat} {v : Value} (h : Calls P f args (w.drewN n) fun e w' => e = .returned v ∧ w.drewN n = w') :
    Calls P f args (w.drewN n) fun e w'' => e = .returned v ∧ ∃ m, w'' = w.drewN m := h.mono fun e w' hh => ⟨hh.1, n, hh.2.symm⟩
theorem beq_prop {a b : Int} {P : Prop} (h : P ↔ a = b) : (a == b) = propB P := by
  by_cases e : a = b
  · rw [propB_t (h.2 e)]; simpa using e
  · rw [propB_f (fun p => e (h.1 p))]; simpa using e
theorem kidsN_of (k m : Int) (h : kidsN k = m) : kidsN k = m := h
theorem nd_plain {nodes : List Nd} {kd at_ n : Int} {s : ByteArray} {kids : List Int} {pats : List (List PN)} (h : NdHead ⟨kd, at_, n, s, kids, pats⟩) (hall : ∀ k ∈ kids, 0 ≤ k ∧ k < nodes.length)
    (h1 : ¬ namedK kd) (h2 : kd ≠ 10) (h3 : kd ≠ 2) (h4 : kd ≠ 4) (h5 : kd ≠ 13) : NdOkP nodes ⟨kd, at_, n, s, kids, pats⟩ ↔ (s.toList = [] ∧ pats = [] ∧ (kids.length : Int) = kidsN kd) := by
  have h8 : kd ≠ 8 := fun e => h1 (by unfold namedK; omega)
  constructor
  · intro ⟨_, _, hT, hR⟩
    exact ⟨hT.2.2 h1 h2 h3 h4, hR.2.2.2 h4 h5⟩
  · intro ⟨e1, e2, e3⟩
    exact ⟨h, hall, ⟨fun e => absurd e h1, fun e => absurd e h2, fun _ _ _ _ => e1⟩, fun e => absurd e h4, fun e => absurd e h5, fun e => absurd e h8, fun _ _ => ⟨e2, e3⟩⟩
theorem nd_str {nodes : List Nd} {at_ n : Int} {s : ByteArray} {kids : List Int} {pats : List (List PN)} (h : NdHead ⟨2, at_, n, s, kids, pats⟩) (hall : ∀ k ∈ kids, 0 ≤ k ∧ k < nodes.length) :
    NdOkP nodes ⟨2, at_, n, s, kids, pats⟩ ↔ (pats = [] ∧ (kids.length : Int) = kidsN 2) := by
  constructor
  · intro ⟨_, _, hT, hR⟩
    exact hR.2.2.2 (by simp) (by simp)
  · intro e
    exact ⟨h, hall, ⟨fun e => absurd e (by simp [namedK]), fun e => absurd e (by simp), fun _ _ e _ => absurd rfl e⟩, fun e => absurd e (by simp), fun e => absurd e (by simp), fun e => absurd e (by simp), fun _ _ => e⟩
theorem nd_prim {nodes : List Nd} {at_ n : Int} {s : ByteArray} {kids : List Int} {pats : List (List PN)} (h : NdHead ⟨10, at_, n, s, kids, pats⟩) (hall : ∀ k ∈ kids, 0 ≤ k ∧ k < nodes.length) :
    NdOkP nodes ⟨10, at_, n, s, kids, pats⟩ ↔ (primB s = true ∧ pats = [] ∧ (kids.length : Int) = kidsN 10) := by
  constructor
  · intro ⟨_, _, hT, hR⟩
    exact ⟨hT.2.1 rfl, hR.2.2.2 (by simp) (by simp)⟩
  · intro ⟨e0, e⟩
    exact ⟨h, hall, ⟨fun e => absurd e (by simp [namedK]), fun _ => e0, fun _ e _ _ => absurd rfl e⟩, fun e => absurd e (by simp), fun e => absurd e (by simp), fun e => absurd e (by simp), fun _ _ => e⟩
theorem nd_named {nodes : List Nd} {kd at_ n : Int} {s : ByteArray} {kids : List Int} {pats : List (List PN)} (h : NdHead ⟨kd, at_, n, s, kids, pats⟩) (hall : ∀ k ∈ kids, 0 ≤ k ∧ k < nodes.length) (hn : namedK kd) (h8 : kd ≠ 8) :
    NdOkP nodes ⟨kd, at_, n, s, kids, pats⟩ ↔ (nameB s = true ∧ pats = [] ∧ (kids.length : Int) = kidsN kd) := by
  have h4 : kd ≠ 4 := by unfold namedK at hn; omega
  have h5 : kd ≠ 13 := by unfold namedK at hn; omega
  have h10 : kd ≠ 10 := by unfold namedK at hn; omega
  constructor
  · intro ⟨_, _, hT, hR⟩
    exact ⟨hT.1 hn, hR.2.2.2 h4 h5⟩
  · intro ⟨e0, e⟩
    exact ⟨h, hall, ⟨fun _ => e0, fun e => absurd e h10, fun e _ _ _ => absurd hn e⟩, fun e => absurd e h4, fun e => absurd e h5, fun e => absurd e h8, fun _ _ => e⟩
theorem nd_rec {nodes : List Nd} {at_ n : Int} {s : ByteArray} {kids : List Int} {pats : List (List PN)} (h : NdHead ⟨8, at_, n, s, kids, pats⟩) (hall : ∀ k ∈ kids, 0 ≤ k ∧ k < nodes.length) :
    NdOkP nodes ⟨8, at_, n, s, kids, pats⟩ ↔ (nameB s = true ∧ kids.length = 2 ∧ firstKind nodes kids = some 5 ∧ pats = []) := by
  constructor
  · intro ⟨_, _, hT, hR⟩
    exact ⟨hT.1 (by simp [namedK]), (hR.2.2.1 rfl).1, (hR.2.2.1 rfl).2, (hR.2.2.2 (by simp) (by simp)).1⟩
  · intro ⟨e0, e1, e2, e3⟩
    exact ⟨h, hall, ⟨fun _ => e0, fun e => absurd e (by simp), fun e _ _ _ => absurd (by simp [namedK]) e⟩, fun e => absurd e (by simp), fun e => absurd e (by simp), fun _ => ⟨e1, e2⟩, fun _ _ => ⟨e3, by show (kids.length : Int) = kidsN 8; rw [e1]; decide⟩⟩
theorem nd_con {nodes : List Nd} {at_ n : Int} {s : ByteArray} {kids : List Int} {pats : List (List PN)} (h : NdHead ⟨4, at_, n, s, kids, pats⟩) (hall : ∀ k ∈ kids, 0 ≤ k ∧ k < nodes.length) :
    NdOkP nodes ⟨4, at_, n, s, kids, pats⟩ ↔ (pats = [] ∧ conOkB s kids.length (decide (kids.length = 1) && decide (firstKind nodes kids = some 11)) = true) := by
  constructor
  · intro ⟨_, _, hT, hR⟩
    exact hR.1 rfl
  · intro e
    exact ⟨h, hall, ⟨fun e => absurd e (by simp [namedK]), fun e => absurd e (by simp), fun _ _ _ e => absurd rfl e⟩, fun _ => e, fun e => absurd e (by simp), fun e => absurd e (by simp), fun e => absurd rfl e⟩
theorem nd_match {nodes : List Nd} {at_ n : Int} {s : ByteArray} {kids : List Int} {pats : List (List PN)} (h : NdHead ⟨13, at_, n, s, kids, pats⟩) (hall : ∀ k ∈ kids, 0 ≤ k ∧ k < nodes.length) :
    NdOkP nodes ⟨13, at_, n, s, kids, pats⟩ ↔ (s.toList = [] ∧ (∀ q ∈ pats, PatOkP q) ∧ 2 ≤ kids.length ∧ pats.length + 1 = kids.length) := by
  constructor
  · intro ⟨_, _, hT, hR⟩
    exact ⟨hT.2.2 (by simp [namedK]) (by simp) (by simp) (by simp), hR.2.1 rfl⟩
  · intro ⟨e0, e⟩
    exact ⟨h, hall, ⟨fun e => absurd e (by simp [namedK]), fun e => absurd e (by simp), fun _ _ _ _ => e0⟩, fun e => absurd e (by simp), fun _ => e, fun e => absurd e (by simp), fun _ e => absurd rfl e⟩
theorem nil_of_len {α : Type} {l : List α} (h : l.length = 0) : l = [] := List.eq_nil_of_length_eq_zero h
theorem ne_nil_of_len {α : Type} {l : List α} (h : ¬ l.length = 0) : l ≠ [] := fun e => h (by rw [e]; rfl)
theorem first_at {nodes : List Nd} {kids : List Int} {m : Nat} (h : 0 < kids.length) (hm : m < nodes.length) (hy : (m : Int) = kids[0]) : firstKind nodes kids = some nodes[m].kind := by
  cases kids with
  | nil => simp at h
  | cons y ks =>
    simp only [List.getElem_cons_zero] at hy
    subst hy
    simp [firstKind, List.getElem?_eq_getElem hm]
end Go.Proofs.YtaibgnfjjbncpaaGreat
