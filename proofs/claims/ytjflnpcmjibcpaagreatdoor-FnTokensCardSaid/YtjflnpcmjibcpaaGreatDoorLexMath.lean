/- Plain mathematics of the lexer: comments, words, quoted strings, symbols, the first token, and all tokens of a text. -/
import Derived.Test.YtjflnpcmjibcpaaGreatDoorTextMath
import Derived.Test.YtjflnpcmjibcpaaGreatDoorDecMath
import Derived.Test.YtjflnpcmjibcpaaGreatDoorUnqMath
namespace Go.Proofs.YtjflnpcmjibcpaaGreatDoor
set_option linter.unusedVariables false
open Go.RowKit

/-- A list of bytes as a string. -/
def bs (l : List UInt8) : ByteArray := ⟨l.toArray⟩
theorem bs_list (l : List UInt8) : (bs l).data.toList = l := rfl
theorem bs_size (l : List UInt8) : (bs l).size = l.length := rfl
theorem bs_eta (s : ByteArray) : bs s.data.toList = s := by cases s; simp [bs]

def blankI (c : Int) : Bool := c == 9 || c == 10 || c == 13 || c == 32

theorem drop_cons (l : List UInt8) (p : Nat) (h : p < l.length) : l.drop p = l[p] :: l.drop (p + 1) := (List.getElem_cons_drop h).symm
def openB : List UInt8 → Bool
  | a :: b :: _ => a.toNat == 40 && b.toNat == 42
  | _ => false
/-! ### Comments -/
/-- How many bytes a comment takes, d being open. -/
def remL : Nat → List UInt8 → Option Nat
  | _, [] => none
  | _, [_] => none
  | d, a :: b :: t => if a.toNat = 40 ∧ b.toNat = 42 then (remL (d + 1) t).map (· + 2) else if a.toNat = 42 ∧ b.toNat = 41 then (if d = 1 then some 2 else (remL (d - 1) t).map (· + 2)) else (remL d (b :: t)).map (· + 1)
theorem remL_open (d : Nat) (a b : UInt8) (t : List UInt8) (ha : a.toNat = 40) (hb : b.toNat = 42) : remL d (a :: b :: t) = (remL (d + 1) t).map (· + 2) := by rw [remL, if_pos ⟨ha, hb⟩]
theorem remL_close (d : Nat) (a b : UInt8) (t : List UInt8) (ha : a.toNat = 42) (hb : b.toNat = 41) (hd : d ≠ 1) : remL d (a :: b :: t) = (remL (d - 1) t).map (· + 2) := by
  rw [remL, if_neg (by omega), if_pos ⟨ha, hb⟩, if_neg hd]
theorem remL_last (a b : UInt8) (t : List UInt8) (ha : a.toNat = 42) (hb : b.toNat = 41) : remL 1 (a :: b :: t) = some 2 := by
  rw [remL, if_neg (by omega), if_pos ⟨ha, hb⟩, if_pos rfl]
theorem remL_other (d : Nat) (a b : UInt8) (t : List UInt8) (h1 : ¬ (a.toNat = 40 ∧ b.toNat = 42)) (h2 : ¬ (a.toNat = 42 ∧ b.toNat = 41)) : remL d (a :: b :: t) = (remL d (b :: t)).map (· + 1) := by
  rw [remL, if_neg h1, if_neg h2]
theorem remL_le : ∀ (l : List UInt8) (d z : Nat), remL d l = some z → 2 ≤ z ∧ z ≤ l.length := by
  intro l
  induction hn : l.length using Nat.strongRecOn generalizing l with
  | ind n ih =>
    intro d z h
    match l, hn, h with
    | [], _, h => simp [remL] at h
    | [a], _, h => simp [remL] at h
    | a :: b :: t, hn, h =>
      simp only [List.length_cons] at hn
      rw [remL] at h
      split at h
      · obtain ⟨y, hy, rfl⟩ := Option.map_eq_some_iff.1 h
        have := ih t.length (by omega) t rfl _ _ hy
        omega
      · split at h
        · split at h
          · cases h; omega
          · obtain ⟨y, hy, rfl⟩ := Option.map_eq_some_iff.1 h
            have := ih t.length (by omega) t rfl _ _ hy
            omega
        · obtain ⟨y, hy, rfl⟩ := Option.map_eq_some_iff.1 h
          have := ih (b :: t).length (by simp; omega) (b :: t) rfl _ _ hy
          simp at this
          omega

/-- What stands at place k of a text. -/
def two (s : ByteArray) (k : Nat) : ByteArray := s.extract k (k + 2)
theorem two_list (s : ByteArray) (k : Nat) (h : k + 1 < s.size) : (two s k).toList = [s[k], s[k + 1]] := by
  obtain ⟨⟨l⟩⟩ := s
  simp only [ByteArray.size, Array.size] at h
  rw [ByteArray.toList_eq, two, ByteArray.data_extract]
  simp only [Array.toList_extract, List.extract_eq_take_drop]
  rw [show k + 2 - k = 2 from by omega, drop_cons l k (by omega), drop_cons l (k + 1) h]
  rfl
theorem two_is (s : ByteArray) (k : Nat) (h : k + 1 < s.size) (a b : UInt8) : ((two s k).toList == [a, b]) = true ↔ s[k] = a ∧ s[k + 1] = b := by
  rw [two_list s k h]; simp
theorem two_not (s : ByteArray) (k : Nat) (h : k + 1 < s.size) (a b : UInt8) : ((two s k).toList == [a, b]) = false ↔ ¬ (s[k] = a ∧ s[k + 1] = b) := by
  rw [← two_is s k h]; simp
theorem drop_two (s : ByteArray) (k : Nat) (h : k + 1 < s.size) : s.data.toList.drop k = s[k] :: s[k + 1] :: s.data.toList.drop (k + 2) := by
  obtain ⟨⟨l⟩⟩ := s
  simp only [ByteArray.size, Array.size] at h
  show l.drop k = _
  rw [drop_cons l k (by omega), drop_cons l (k + 1) h]
  rfl
/-- Whether p stands at place k of s. -/
def hasAt (s : ByteArray) (k : Nat) (p : List UInt8) : Bool := p.isPrefixOf (s.data.toList.drop k)
theorem hasAt_short (s : ByteArray) (k : Nat) (p : List UInt8) (hk : k ≤ s.size) (h : ¬ k + p.length ≤ s.size) : hasAt s k p = false := by
  have hl : s.data.toList.length = s.size := rfl
  unfold hasAt
  cases hb : p.isPrefixOf (s.data.toList.drop k)
  · rfl
  · have := (List.isPrefixOf_iff_prefix.1 hb).length_le
    simp at this; omega
theorem hasAt_long (s p : ByteArray) (k : Nat) (h : k + p.size ≤ s.size) : ((s.extract k (k + p.size)).toList == p.toList) = hasAt s k p.data.toList := by
  have hl : s.data.toList.length = s.size := rfl
  have hp : p.data.toList.length = p.size := rfl
  have he : (s.extract k (k + p.size)).toList = (s.data.toList.drop k).take p.size := by
    rw [ByteArray.toList_eq, ByteArray.data_extract]
    simp only [Array.toList_extract, List.extract_eq_take_drop]
    rw [Nat.add_sub_cancel_left]
  rw [he, ByteArray.toList_eq, hasAt, Bool.eq_iff_iff, beq_iff_eq, List.isPrefixOf_iff_prefix, List.prefix_iff_eq_take, hp]
  exact eq_comm
theorem hasAt_two (s : ByteArray) (k : Nat) (h : k + 1 < s.size) (a b : UInt8) : hasAt s k [a, b] = ((two s k).toList == [a, b]) := by
  rw [two_list s k h, hasAt, drop_two s k h, Bool.eq_iff_iff]
  simp only [List.isPrefixOf, Bool.and_true, Bool.and_eq_true, beq_iff_eq, List.cons.injEq, and_true]
  exact ⟨fun h => ⟨h.1.symm, h.2.symm⟩, fun h => ⟨h.1.symm, h.2.symm⟩⟩
theorem hasAt_open (s : ByteArray) (k : Nat) : hasAt s k [40, 42] = openB (s.data.toList.drop k) := by
  unfold hasAt
  match s.data.toList.drop k with
  | [] => rfl
  | [_] => simp [openB, List.isPrefixOf]
  | a :: b :: t =>
    simp only [openB, List.isPrefixOf]
    rw [Bool.eq_iff_iff]
    simp only [Bool.and_eq_true, beq_iff_eq, and_true]
    exact ⟨fun h => ⟨by rw [← h.1]; rfl, by rw [← h.2]; rfl⟩, fun h => ⟨(u8_eq h.1).symm, (u8_eq h.2).symm⟩⟩
/-- A comment that begins at place i, read up to place k, b being open. -/
def ComAt (s : ByteArray) (i k b : Nat) : Prop :=
  i ≤ k ∧ k ≤ s.size ∧ b ≤ k - i ∧ (1 ≤ b ∨ k = i) ∧ remL 0 (s.data.toList.drop i) = (remL b (s.data.toList.drop k)).map (· + (k - i))
theorem com_start (s : ByteArray) (i : Nat) (h : i ≤ s.size) : ComAt s i i 0 := ⟨Nat.le_refl _, h, by omega, .inr rfl, by simp⟩
theorem com_open {s : ByteArray} {i k b : Nat} (h : ComAt s i k b) (hk : k + 1 < s.size) (h1 : ((two s k).toList == [40, 42]) = true) : ComAt s i (k + 2) (b + 1) := by
  obtain ⟨hi, _, h2, _, h3⟩ := h
  obtain ⟨ha, hb⟩ := (two_is s k hk _ _).1 h1
  refine ⟨by omega, by omega, by omega, .inl (by omega), ?_⟩
  rw [h3, drop_two s k hk, remL_open _ _ _ _ (by rw [ha]; rfl) (by rw [hb]; rfl), Option.map_map]
  congr 1; funext x; simp; omega
theorem com_pos {s : ByteArray} {i k b : Nat} (h : ComAt s i k b) (ho : openB (s.data.toList.drop i) = true) (hn : k + 1 < s.size → ((two s k).toList == [40, 42]) = false) : 1 ≤ b := by
  rcases h.2.2.2.1 with h | rfl
  · exact h
  · by_cases hk : k + 1 < s.size
    · have hn := (two_not s k hk _ _).1 (hn hk)
      rw [drop_two s k hk, openB] at ho
      simp only [Bool.and_eq_true, beq_iff_eq] at ho
      exact absurd ⟨u8_eq ho.1, u8_eq ho.2⟩ hn
    · have hl : s.data.toList.length = s.size := rfl
      have : (s.data.toList.drop k).length ≤ 1 := by simp; omega
      match hd : s.data.toList.drop k, this with
      | [], _ => rw [hd] at ho; cases ho
      | [_], _ => rw [hd] at ho; cases ho
theorem com_close {s : ByteArray} {i k b : Nat} (h : ComAt s i k b) (hk : k + 1 < s.size) (h1 : ((two s k).toList == [42, 41]) = true) (hb1 : 1 ≤ b) (hb : ¬ (b : Int) - 1 = 0) : ComAt s i (k + 2) (b - 1) := by
  obtain ⟨hi, _, h2, _, h3⟩ := h
  obtain ⟨ha, hb'⟩ := (two_is s k hk _ _).1 h1
  refine ⟨by omega, by omega, by omega, .inl (by omega), ?_⟩
  rw [h3, drop_two s k hk, remL_close _ _ _ _ (by rw [ha]; rfl) (by rw [hb']; rfl) (by omega), Option.map_map]
  congr 1; funext x; simp; omega
theorem com_last {s : ByteArray} {i k b : Nat} (h : ComAt s i k b) (hk : k + 1 < s.size) (h1 : ((two s k).toList == [42, 41]) = true) (hb : (b : Int) - 1 = 0) : remL 0 (s.data.toList.drop i) = some (k - i + 2) := by
  obtain ⟨hi, _, h2, _, h3⟩ := h
  obtain ⟨ha, hb'⟩ := (two_is s k hk _ _).1 h1
  obtain rfl : b = 1 := by omega
  rw [h3, drop_two s k hk, remL_last _ _ _ (by rw [ha]; rfl) (by rw [hb']; rfl)]
  simp; omega
theorem com_other {s : ByteArray} {i k b : Nat} (h : ComAt s i k b) (hk : k + 1 < s.size) (h1 : ((two s k).toList == [40, 42]) = false) (h2 : ((two s k).toList == [42, 41]) = false) (hb : 1 ≤ b) : ComAt s i (k + 1) b := by
  obtain ⟨hi, _, h4, _, h3⟩ := h
  have n1 := (two_not s k hk _ _).1 h1
  have n2 := (two_not s k hk _ _).1 h2
  refine ⟨by omega, by omega, by omega, .inl hb, ?_⟩
  have hd : s.data.toList.drop (k + 1) = s[k + 1] :: s.data.toList.drop (k + 2) := drop_cons s.data.toList (k + 1) hk
  rw [h3, drop_two s k hk, remL_other _ _ _ _ (fun h => n1 ⟨u8_eq h.1, u8_eq h.2⟩) (fun h => n2 ⟨u8_eq h.1, u8_eq h.2⟩), hd, Option.map_map]
  congr 1; funext x; simp; omega
theorem com_end {s : ByteArray} {i k b : Nat} (h : ComAt s i k b) (hk : ¬ k + 1 < s.size) : remL 0 (s.data.toList.drop i) = none := by
  obtain ⟨hi, h0, h2, _, h3⟩ := h
  rw [h3]
  have hl : s.data.toList.length = s.size := rfl
  have : (s.data.toList.drop k).length ≤ 1 := by simp; omega
  match s.data.toList.drop k, this with
  | [], _ => rfl
  | [_], _ => rfl
theorem com_end1 {s : ByteArray} {i k b : Nat} (h : ComAt s i k b) (hk : k + 1 = s.size) (hb : 1 ≤ b) : ComAt s i (k + 1) b := by
  have hn := com_end h (by omega)
  obtain ⟨hi, h0, h4, _, h3⟩ := h
  have hl : s.data.toList.length = s.size := rfl
  refine ⟨by omega, by omega, by omega, .inl hb, ?_⟩
  have e2 : s.data.toList.drop (k + 1) = [] := List.drop_of_length_le (by omega)
  rw [hn, e2]; rfl

/-! ### Words -/
def wordN (l : List UInt8) : Nat := (l.takeWhile fun c => wbB (c.toNat : Int)).length
theorem wordN_le (l : List UInt8) : wordN l ≤ l.length := (List.takeWhile_prefix (p := fun c : UInt8 => wbB (c.toNat : Int)) (l := l)).length_le
theorem wordN_at (l : List UInt8) : ∀ k : Nat, (∀ j, j < k → ∀ c, l[j]? = some c → wbB (c.toNat : Int) = true) → (∀ c, l[k]? = some c → wbB (c.toNat : Int) = false) → k ≤ l.length → wordN l = k := by
  induction l with
  | nil => intro k _ _ h; simp at h; subst h; rfl
  | cons c t ih =>
    intro k h1 h2 h3
    cases k with
    | zero => have := h2 c rfl; simp [wordN, this]
    | succ k =>
      have hc := h1 0 (by omega) c rfl
      have := ih k (fun j hj d hd => h1 (j + 1) (by omega) d (by simpa using hd)) (fun d hd => h2 d (by simpa using hd)) (by simp at h3; omega)
      unfold wordN at this ⊢
      simp [hc, this]
theorem wordN_pos (c : UInt8) (t : List UInt8) (h : wbB (c.toNat : Int) = true) : 0 < wordN (c :: t) := by simp [wordN, h]

theorem wordN_stop (s : ByteArray) (k : Nat) (hk : k < s.size) (h1 : ∀ j, j < k → ∀ c, s.data.toList[j]? = some c → wbB (c.toNat : Int) = true) (h2 : wbB (s[k].toNat : Int) = false) : wordN s.data.toList = k := by
  refine wordN_at _ k h1 (fun c hc => ?_) (Nat.le_of_lt hk)
  have hl : s.data.toList[k]? = some s[k] := by simp [ByteArray.getElem_eq_getElem_data]
  rw [hl] at hc; cases hc; exact h2
theorem wordN_go (s : ByteArray) (k : Nat) (hk : k < s.size) (h1 : ∀ j, j < k → ∀ c, s.data.toList[j]? = some c → wbB (c.toNat : Int) = true) (h2 : wbB (s[k].toNat : Int) = true) : ∀ j, j < k + 1 → ∀ c, s.data.toList[j]? = some c → wbB (c.toNat : Int) = true := by
  intro j hj c hc
  by_cases h : j < k
  · exact h1 j h c hc
  · obtain rfl : j = k := by omega
    have hl : s.data.toList[j]? = some s[j] := by simp [ByteArray.getElem_eq_getElem_data]
    rw [hl] at hc; cases hc; exact h2
theorem wordN_all (s : ByteArray) (h1 : ∀ j, j < s.size → ∀ c, s.data.toList[j]? = some c → wbB (c.toNat : Int) = true) : wordN s.data.toList = s.size := by
  refine wordN_at _ _ h1 (fun c hc => ?_) (Nat.le_refl _)
  have hn : s.data.toList[s.size]? = none := List.getElem?_eq_none (Nat.le_refl _)
  rw [hn] at hc; cases hc
theorem wb_high (c : Int) (h : 128 ≤ c) : wbB c = false := by
  simp [wbB, lowB, upB, digB]; omega

def rest (s : ByteArray) (k : Nat) : ByteArray := s.extract k s.size
theorem rest_list (s : ByteArray) (k : Nat) : (rest s k).data.toList = s.data.toList.drop k := by
  obtain ⟨⟨l⟩⟩ := s
  simp only [rest, ByteArray.data_extract, Array.toList_extract, List.extract_eq_take_drop, ByteArray.size]
  exact List.take_of_length_le (by simp)
theorem rest_size (s : ByteArray) (k : Nat) : (rest s k).size = s.size - k := by rw [rest, ByteArray.size_extract]; omega
theorem rest_get (s : ByteArray) (k : Nat) (h : k < s.size) (h' : 0 < (rest s k).size) : (rest s k)[0] = s[k] := by
  simp only [rest, ByteArray.getElem_extract, Nat.add_zero]

/-- The bytes from place p up to place q. -/
def mid (s : ByteArray) (p q : Nat) : ByteArray := s.extract p q
theorem mid_list (s : ByteArray) (p q : Nat) : (mid s p q).data.toList = (s.data.toList.drop p).take (q - p) := by
  rw [mid, ByteArray.data_extract]; simp only [Array.toList_extract, List.extract_eq_take_drop]
theorem mid_size (s : ByteArray) (p q : Nat) (h : q ≤ s.size) : (mid s p q).size = q - p := by rw [mid, ByteArray.size_extract]; omega
/-- All bytes from p up to q belong to a word. -/
def WordTo (s : ByteArray) (p q : Nat) : Prop := p ≤ q ∧ q ≤ s.size ∧ ∀ j, p ≤ j → j < q → ∀ c, s.data.toList[j]? = some c → wbB (c.toNat : Int) = true
theorem word_start (s : ByteArray) (p : Nat) (h : p ≤ s.size) : WordTo s p p := ⟨Nat.le_refl _, h, fun j h1 h2 => absurd h1 (by omega)⟩
theorem get?_at (s : ByteArray) (k : Nat) (h : k < s.size) : s.data.toList[k]? = some s[k] := by simp [ByteArray.getElem_eq_getElem_data]
theorem word_step {s : ByteArray} {p q : Nat} (h : WordTo s p q) (hq : q < s.size) (hw : wbB (s[q].toNat : Int) = true) : WordTo s p (q + 1) := by
  refine ⟨by have := h.1; omega, by omega, fun j h1 h2 c hc => ?_⟩
  by_cases hj : j < q
  · exact h.2.2 j h1 hj c hc
  · obtain rfl : j = q := by omega
    rw [get?_at s j hq] at hc; cases hc; exact hw
theorem word_stop {s : ByteArray} {p q : Nat} (h : WordTo s p q) (hw : ∀ hq : q < s.size, wbB (s[q].toNat : Int) = false) : q = p + wordN (s.data.toList.drop p) := by
  obtain ⟨h1, h2, h3⟩ := h
  have hl : s.data.toList.length = s.size := rfl
  have : wordN (s.data.toList.drop p) = q - p := by
    refine wordN_at _ _ (fun j hj c hc => ?_) (fun c hc => ?_) (by simp; omega)
    · rw [List.getElem?_drop] at hc; exact h3 (p + j) (by omega) (by omega) c hc
    · rw [List.getElem?_drop, show p + (q - p) = q from by omega] at hc
      by_cases hq : q < s.size
      · rw [get?_at s q hq] at hc; cases hc; exact hw hq
      · rw [List.getElem?_eq_none (by omega)] at hc; cases hc
  omega

/-! ### Quoted strings -/
/-- Behind the opening quote: how many bytes up to the closing one, with it. -/
def strN : List UInt8 → Option Nat
  | [] => none
  | [a] => if a.toNat = 34 then some 1 else none
  | a :: b :: t => if a.toNat = 34 then some 1 else if a.toNat = 92 then (strN t).map (· + 2) else (strN (b :: t)).map (· + 1)
theorem strN_end (a : UInt8) (t : List UInt8) (h : a.toNat = 34) : strN (a :: t) = some 1 := by
  cases t <;> rw [strN, if_pos h]
theorem strN_esc (a : UInt8) (t : List UInt8) (h : a.toNat = 92) : strN (a :: t) = (strN (t.drop 1)).map (· + 2) := by
  cases t with
  | nil => simp [strN, h]
  | cons b t => rw [strN, if_neg (by omega), if_pos h]; rfl
theorem strN_other (a : UInt8) (t : List UInt8) (h1 : a.toNat ≠ 34) (h2 : a.toNat ≠ 92) : strN (a :: t) = (strN t).map (· + 1) := by
  cases t with
  | nil => simp [strN, h1]
  | cons b t => rw [strN, if_neg h1, if_neg h2]
theorem strN_le : ∀ (l : List UInt8) (z : Nat), strN l = some z → 1 ≤ z ∧ z ≤ l.length := by
  intro l
  induction hn : l.length using Nat.strongRecOn generalizing l with
  | ind n ih =>
    intro z h
    match l, hn, h with
    | [], _, h => simp [strN] at h
    | [a], hn, h =>
      simp only [strN] at h
      split at h
      · cases h; simp at hn; omega
      · cases h
    | a :: b :: t, hn, h =>
      simp only [List.length_cons] at hn
      rw [strN] at h
      split at h
      · cases h; omega
      · split at h
        · obtain ⟨y, hy, rfl⟩ := Option.map_eq_some_iff.1 h
          have := ih t.length (by omega) t rfl _ hy
          omega
        · obtain ⟨y, hy, rfl⟩ := Option.map_eq_some_iff.1 h
          have := ih (b :: t).length (by simp; omega) (b :: t) rfl _ hy
          simp at this
          omega

/-- The place behind a quoted text that begins at place i; 0 where it does not end. -/
def strE (s : ByteArray) (i : Nat) : Nat := ((strN (s.data.toList.drop (i + 1))).map (· + (i + 1))).getD 0
/-- A quoted text that begins at place i, read up to place k. -/
def StrAt (s : ByteArray) (i k : Nat) : Prop :=
  i + 1 ≤ k ∧ (strN (s.data.toList.drop (i + 1))).map (· + (i + 1)) = (strN (s.data.toList.drop k)).map (· + k)
theorem str_start (s : ByteArray) (i : Nat) : StrAt s i (i + 1) := ⟨Nat.le_refl _, rfl⟩
theorem drop_at (s : ByteArray) (k : Nat) (h : k < s.size) : s.data.toList.drop k = s[k] :: s.data.toList.drop (k + 1) := drop_cons s.data.toList k h
theorem str_end {s : ByteArray} {i k : Nat} (h : StrAt s i k) (hk : k < s.size) (hc : (s[k].toNat : Int) = 34) : strE s i = k + 1 := by
  rw [strE, h.2, drop_at s k hk, strN_end _ _ (by omega)]; simp; omega
theorem str_esc {s : ByteArray} {i k : Nat} (h : StrAt s i k) (hk : k < s.size) (hc : (s[k].toNat : Int) = 92) : StrAt s i (k + 2) := by
  refine ⟨by have := h.1; omega, ?_⟩
  rw [h.2, drop_at s k hk, strN_esc _ _ (by omega), Option.map_map, List.drop_drop]
  congr 1; funext x; simp; omega
theorem str_other {s : ByteArray} {i k : Nat} (h : StrAt s i k) (hk : k < s.size) (h1 : ¬ (s[k].toNat : Int) = 34) (h2 : ¬ (s[k].toNat : Int) = 92) : StrAt s i (k + 1) := by
  refine ⟨by have := h.1; omega, ?_⟩
  rw [h.2, drop_at s k hk, strN_other _ _ (by omega) (by omega), Option.map_map]
  congr 1; funext x; simp; omega
theorem str_none {s : ByteArray} {i k : Nat} (h : StrAt s i k) (hk : ¬ k < s.size) : strE s i = 0 := by
  have hl : s.data.toList.length = s.size := rfl
  rw [strE, h.2, List.drop_of_length_le (by omega)]; rfl

/-! ### Symbols -/
def sym2 : List (List UInt8) := [[45, 62], [60, 62], [60, 61], [58, 61], [58, 58]]
def sym1 : List (List UInt8) := [[40], [41], [91], [93], [44], [59], [124], [61], [60], [43], [45], [42], [47], [37], [94], [33], [95]]
def syms : List (List UInt8) := sym2 ++ sym1
def symB (l : List UInt8) : Bool := syms.any fun s => l == s
def signN (l : List UInt8) : Nat := if symB (l.take 2) then (l.take 2).length else if symB (l.take 1) then 1 else 0
theorem sym_len (s : List UInt8) (h : s ∈ syms) : s.length = 1 ∨ s.length = 2 := by
  have : ∀ s ∈ syms, s.length = 1 ∨ s.length = 2 := by decide
  exact this s h
theorem symB_pos (l : List UInt8) (h : symB l = true) : 0 < l.length := by
  simp only [symB, List.any_eq_true, beq_iff_eq] at h
  obtain ⟨s, hs, rfl⟩ := h
  have := sym_len _ hs
  omega
theorem signN_le (l : List UInt8) : signN l ≤ l.length ∧ signN l ≤ 2 := by
  unfold signN
  split
  · simp; omega
  · split
    · have := symB_pos _ ‹_›; simp at this ⊢; omega
    · omega

theorem take_pre {p l : List UInt8} (h : p.isPrefixOf l = true) : l.take p.length = p := (List.prefix_iff_eq_take.1 (List.isPrefixOf_iff_prefix.1 h)).symm
theorem symB_iff (l : List UInt8) : symB l = true ↔ l ∈ syms := by
  simp only [symB, List.any_eq_true, beq_iff_eq]
  exact ⟨fun ⟨x, hx, e⟩ => e ▸ hx, fun h => ⟨l, h, rfl⟩⟩
theorem sym2_len (s : List UInt8) (h : s ∈ sym2) : s.length = 2 := by
  have : ∀ s ∈ sym2, s.length = 2 := by decide
  exact this s h
theorem sym1_len (s : List UInt8) (h : s ∈ sym1) : s.length = 1 := by
  have : ∀ s ∈ sym1, s.length = 1 := by decide
  exact this s h
theorem pre_of_take {p l : List UInt8} (h : l.take p.length = p) : p.isPrefixOf l = true := List.isPrefixOf_iff_prefix.2 (List.prefix_iff_eq_take.2 h.symm)
theorem sign_two (l p : List UInt8) (hp : p ∈ sym2) (h : p.isPrefixOf l = true) : l.take (signN l) = p := by
  have ht := take_pre h
  have hl := sym2_len p hp
  rw [hl] at ht
  have : symB (l.take 2) = true := by rw [ht, symB_iff]; exact List.mem_append_left _ hp
  rw [signN, if_pos this, ht, hl, ht]
theorem sign_one (l p : List UInt8) (hp : p ∈ sym1) (hno : ∀ q ∈ sym2, q.isPrefixOf l = false) (h : p.isPrefixOf l = true) : l.take (signN l) = p := by
  have ht := take_pre h
  have hl := sym1_len p hp
  rw [hl] at ht
  have h1 : symB (l.take 1) = true := by rw [ht, symB_iff]; exact List.mem_append_right _ hp
  unfold signN
  split
  · rename_i h2
    rw [symB_iff, syms, List.mem_append] at h2
    rcases h2 with h2 | h2
    · have := hno _ h2
      rw [pre_of_take (by rw [sym2_len _ h2])] at this
      cases this
    · rw [sym1_len _ h2, ht]
  · first | exact ht | rw [if_pos h1, ht]
theorem sign_no (l : List UInt8) (hno : ∀ q ∈ syms, q.isPrefixOf l = false) : signN l = 0 := by
  have hn : ∀ n, n = 1 ∨ n = 2 → symB (l.take n) = false := by
    intro n hn
    cases hb : symB (l.take n)
    · rfl
    · rw [symB_iff] at hb
      have hx := hno _ hb
      have hl := sym_len _ hb
      rw [List.isPrefixOf_iff_prefix.2 (List.take_prefix n l)] at hx
      cases hx
  rw [signN, hn 2 (.inr rfl), hn 1 (.inl rfl)]; rfl
theorem sym_next (l : List UInt8) (k : Nat) (x : List UInt8) (hx : syms[k]? = some x) (h0 : ∀ q ∈ syms.take k, q.isPrefixOf l = false) (h : x.isPrefixOf l = false) : ∀ q ∈ syms.take (k + 1), q.isPrefixOf l = false := by
  intro q hq
  rw [List.take_add_one, hx, List.mem_append] at hq
  rcases hq with hq | hq
  · exact h0 q hq
  · simp at hq; rw [hq]; exact h
theorem sym_five (l : List UInt8) (k : Nat) (hk : 5 ≤ k) (h0 : ∀ q ∈ syms.take k, q.isPrefixOf l = false) : ∀ q ∈ sym2, q.isPrefixOf l = false := by
  intro q hq
  refine h0 q ?_
  have h5 : sym2 = syms.take 5 := rfl
  rw [h5] at hq
  exact (List.take_subset_take_left _ hk) hq
def cut (s : ByteArray) (k : Nat) : ByteArray := s.extract 0 k
theorem cut_list (s : ByteArray) (k : Nat) : (cut s k).data.toList = s.data.toList.take k := by
  obtain ⟨⟨l⟩⟩ := s
  simp [cut, ByteArray.data_extract, List.extract_eq_take_drop]
theorem cut_toList (s : ByteArray) (k : Nat) : (cut s k).toList = s.data.toList.take k := by rw [ByteArray.toList_eq, cut_list]
theorem cut_bs (s : ByteArray) (k : Nat) : cut s k = bs (s.data.toList.take k) := by rw [← cut_list, bs_eta]
theorem cut_size (s : ByteArray) (k : Nat) (h : k ≤ s.size) : (cut s k).size = k := by rw [cut, ByteArray.size_extract]; omega
/-- No symbol of more than k bytes stands at the head. -/
def SymAt (s : ByteArray) (k : Nat) : Prop := k ≤ 2 ∧ k ≤ s.size ∧ ∀ j, k < j → j ≤ 2 → j ≤ s.size → symB (s.data.toList.take j) = false
theorem sym_start1 (s : ByteArray) (h : (s.size : Int) < 2) : SymAt s s.size := ⟨by omega, by omega, fun j h1 h2 h3 => by omega⟩
theorem sym_start2 (s : ByteArray) (h : ¬ (s.size : Int) < 2) : SymAt s 2 := ⟨by omega, by omega, fun j h1 h2 h3 => by omega⟩
theorem sym_step {s : ByteArray} {k : Nat} (h : SymAt s k) (hk : 0 < k) (hn : symB (s.data.toList.take k) = false) : SymAt s (k - 1) := by
  obtain ⟨h1, h2, h3⟩ := h
  refine ⟨by omega, by omega, fun j hj h4 h5 => ?_⟩
  by_cases hjk : j = k
  · rw [hjk]; exact hn
  · exact h3 j (by omega) h4 h5
theorem sym_hit {s : ByteArray} {k : Nat} (h : SymAt s k) (hk : 0 < k) (hy : symB (s.data.toList.take k) = true) : signN s.data.toList = k := by
  obtain ⟨h1, h2, h3⟩ := h
  have hl : s.data.toList.length = s.size := rfl
  unfold signN
  by_cases h22 : k = 2
  · subst h22; rw [if_pos hy]; simp; omega
  · obtain rfl : k = 1 := by omega
    by_cases hs : 2 ≤ s.size
    · rw [if_neg (by rw [h3 2 (by omega) (by omega) hs]; exact Bool.false_ne_true), if_pos hy]
    · have ht : s.data.toList.take 2 = s.data.toList.take 1 := by rw [List.take_of_length_le (by omega), List.take_of_length_le (by omega)]
      rw [ht, if_pos hy]; simp; omega
theorem sym_none {s : ByteArray} (h : SymAt s 0) : signN s.data.toList = 0 := by
  obtain ⟨h1, h2, h3⟩ := h
  have hl : s.data.toList.length = s.size := rfl
  have hn : symB [] = false := by decide
  have h1' : symB (s.data.toList.take 1) = false := by
    by_cases hs : 1 ≤ s.size
    · exact h3 1 (by omega) (by omega) hs
    · have he : s.data.toList = [] := List.eq_nil_of_length_eq_zero (by omega)
      rw [he]; exact hn
  have h2' : symB (s.data.toList.take 2) = false := by
    by_cases hs : 2 ≤ s.size
    · exact h3 2 (by omega) (by omega) hs
    · have ht : s.data.toList.take 2 = s.data.toList.take 1 := by rw [List.take_of_length_le (by omega), List.take_of_length_le (by omega)]
      rw [ht]; exact h1'
  unfold signN
  rw [h1', h2']; rfl

/-! ### Numbers and texts -/
def numO (l : List UInt8) : Option Int := match Lib.atoiAll l with
  | .ok v => if W v = v ∧ Lib.itoa v = l then some v else none
  | _ => none
theorem numO_iff (l : List UInt8) (v : Int) : numO l = some v ↔ W v = v ∧ Lib.itoa v = l := by
  constructor
  · intro h
    unfold numO at h
    split at h
    · split at h
      · cases h; assumption
      · cases h
    · cases h
  · rintro ⟨h1, h2⟩
    have hr := W_range v
    rw [h1] at hr
    unfold numO
    rw [← h2, atoi_itoa v hr]
    simp [h1]
def hexV (c : UInt8) : Nat := if 97 ≤ c.toNat then c.toNat - 87 else c.toNat - 48
theorem hexV_hexB (d : Nat) (h : d < 16) : hexV (hexB d) = d := by
  have hc : d = 0 ∨ d = 1 ∨ d = 2 ∨ d = 3 ∨ d = 4 ∨ d = 5 ∨ d = 6 ∨ d = 7 ∨ d = 8 ∨ d = 9 ∨ d = 10 ∨ d = 11 ∨ d = 12 ∨ d = 13 ∨ d = 14 ∨ d = 15 := by omega
  rcases hc with rfl | rfl | rfl | rfl | rfl | rfl | rfl | rfl | rfl | rfl | rfl | rfl | rfl | rfl | rfl | rfl <;> rfl
def unL : List UInt8 → List UInt8
  | [] => []
  | [c] => [c]
  | [c, d] => if c.toNat = 92 then (if d.toNat = 110 then [10] else [d]) else c :: unL [d]
  | [c, d, e] => if c.toNat = 92 then (if d.toNat = 110 then 10 :: unL [e] else d :: unL [e]) else c :: unL [d, e]
  | c :: d :: e :: g :: t => if c.toNat = 92 then (if d.toNat = 110 then 10 :: unL (e :: g :: t) else if d.toNat = 120 then UInt8.ofNat (16 * hexV e + hexV g) :: unL t else d :: unL (e :: g :: t)) else c :: unL (d :: e :: g :: t)
theorem unL_plain (c : UInt8) (r : List UInt8) (h : c.toNat ≠ 92) : unL (c :: r) = c :: unL r := by
  match r with
  | [] => rfl
  | [d] => simp only [unL, if_neg h]
  | [d, e] => simp only [unL, if_neg h]
  | d :: e :: g :: t => rw [unL, if_neg h]
theorem unL_two (c d : UInt8) (r : List UInt8) (h : c.toNat = 92) (h2 : d.toNat ≠ 120) : unL (c :: d :: r) = (if d.toNat = 110 then 10 else d) :: unL r := by
  match r with
  | [] => simp only [unL, if_pos h]; split <;> rfl
  | [e] => simp only [unL, if_pos h]; split <;> rfl
  | e :: g :: t =>
    rw [unL, if_pos h, if_neg h2]
    split <;> rfl
theorem unL_hex (c d e g : UInt8) (r : List UInt8) (h : c.toNat = 92) (h2 : d.toNat = 120) : unL (c :: d :: e :: g :: r) = UInt8.ofNat (16 * hexV e + hexV g) :: unL r := by
  rw [unL, if_pos h, if_neg (by omega), if_pos h2]
theorem unL_flat (l : List UInt8) : unL (l.flatMap qb) = l := by
  induction l with
  | nil => rfl
  | cons c t ih =>
    rw [List.flatMap_cons]
    rcases chunk c with ⟨h, q⟩ | ⟨h, q⟩ | ⟨h, _, q⟩ | q
    · rw [q]
      show unL (92 :: 110 :: t.flatMap qb) = _
      rw [unL_two _ _ _ (by decide) (by decide), ih]
      simp; exact (u8_eq (by simpa using h)).symm
    · rw [q]
      show unL (92 :: c :: t.flatMap qb) = _
      rw [unL_two _ _ _ (by decide) (by omega), ih, if_neg (by omega)]
    · rw [q]
      show unL (c :: t.flatMap qb) = _
      rw [unL_plain _ _ h, ih]
    · rw [q]
      show unL (92 :: 120 :: hexB (c.toNat / 16) :: hexB (c.toNat % 16) :: t.flatMap qb) = _
      have hc := c.toNat_lt
      rw [unL_hex _ _ _ _ _ (by decide) (by decide), ih, hexV_hexB _ (by omega), hexV_hexB _ (by omega)]
      congr 1
      exact u8_eq (by rw [UInt8.toNat_ofNat']; omega)
def unqO (l : List UInt8) : Option (List UInt8) :=
  let t := unL ((l.drop 1).take (l.length - 2))
  if quoteL t = l then some t else none
theorem unqO_iff (l t : List UInt8) : unqO l = some t ↔ quoteL t = l := by
  constructor
  · intro h
    unfold unqO at h
    simp only at h
    split at h
    · cases h; assumption
    · cases h
  · intro h
    have hi : (l.drop 1).take (l.length - 2) = t.flatMap qb := by
      rw [← h]; unfold quoteL
      simp
    unfold unqO
    simp only
    rw [hi, unL_flat, if_pos h]

/-! ### The first token -/
structure FT where
  code : Nat
  k : Int
  n : Int
  s : List UInt8
  z : Nat
def FT.bad (c : Nat) : FT := ⟨c, 0, 0, [], 0⟩
def numF (w : List UInt8) : FT := match numO w with
  | some v => ⟨0, 1, v, [], w.length⟩
  | none => .bad 3
def wordF (w : List UInt8) : FT := if nameB (bs w) then ⟨0, 3, 0, w, w.length⟩ else if conB (bs w) then ⟨0, 4, 0, w, w.length⟩ else if kwB (bs w) then ⟨0, 6, 0, w, w.length⟩ else .bad 5
def varF : List UInt8 → FT
  | _ :: d :: _ => if lowB (d.toNat : Int) then ⟨0, 5, (d.toNat : Int) - 97, [], 2⟩ else .bad 2
  | _ => .bad 2
def strF (l : List UInt8) : FT := match strN (l.drop 1) with
  | some z => match unqO (l.take (z + 1)) with
    | some t => ⟨0, 2, 0, t, z + 1⟩
    | none => .bad 4
  | none => .bad 4
def symF (l : List UInt8) : FT := if signN l = 0 then .bad 2 else ⟨0, 6, 0, l.take (signN l), signN l⟩
def firstF (l : List UInt8) : FT := match l with
  | [] => .bad 2
  | c :: _ => if digB (c.toNat : Int) then numF (l.take (wordN l)) else if lowB (c.toNat : Int) || upB (c.toNat : Int) then wordF (l.take (wordN l))
    else if c.toNat = 39 then varF l else if c.toNat = 34 then strF l else symF l
theorem unqO_nil : unqO [] = none := by
  cases h : unqO [] with
  | none => rfl
  | some t => have := (unqO_iff _ _).1 h; simp [quoteL] at this
/-- How many bytes a quoted text at the head takes; 0 where it does not end. -/
def strSz (l : List UInt8) : Nat := ((strN (l.drop 1)).map (· + 1)).getD 0
theorem strF_some (l : List UInt8) (t : List UInt8) (h : unqO (l.take (strSz l)) = some t) : strF l = ⟨0, 2, 0, t, strSz l⟩ := by
  unfold strSz at h ⊢
  unfold strF
  cases hz : strN (l.drop 1) with
  | none => rw [hz] at h; simp [unqO_nil] at h
  | some z => rw [hz] at h; simp only [Option.map_some, Option.getD_some] at h ⊢; rw [h]
theorem strF_none (l : List UInt8) (h : unqO (l.take (strSz l)) = none) : strF l = .bad 4 := by
  unfold strSz at h
  unfold strF
  cases hz : strN (l.drop 1) with
  | none => rfl
  | some z => rw [hz] at h; simp only [Option.map_some, Option.getD_some] at h ⊢; rw [h]
theorem strSz_le (l : List UInt8) (h : 0 < l.length) : strSz l ≤ l.length := by
  unfold strSz
  cases hz : strN (l.drop 1) with
  | none => simp
  | some z => have := strN_le _ _ hz; simp at this ⊢; omega
/-- The two measures of a quoted text agree. -/
theorem strE_sz (s : ByteArray) (i : Nat) : strE s i = if strSz (s.data.toList.drop i) = 0 then 0 else i + strSz (s.data.toList.drop i) := by
  unfold strE strSz
  rw [List.drop_drop]
  cases strN (s.data.toList.drop (i + 1)) with
  | none => rfl
  | some z => simp; omega
theorem numF_z (w : List UInt8) : (numF w).z ≤ w.length := by unfold numF; split <;> simp [FT.bad]
theorem wordF_z (w : List UInt8) : (wordF w).z ≤ w.length := by
  unfold wordF
  repeat' split
  all_goals simp [FT.bad]
theorem firstF_z (l : List UInt8) : (firstF l).z ≤ l.length := by
  unfold firstF
  split
  · simp [FT.bad]
  · rename_i c t
    split
    · exact Nat.le_trans (numF_z _) (List.length_take_le' _ _)
    · split
      · exact Nat.le_trans (wordF_z _) (List.length_take_le' _ _)
      · split
        · cases t with
          | nil => simp [varF, FT.bad]
          | cons d t => rw [varF]; split <;> simp [FT.bad]
        · split
          · unfold strF
            split
            · have := strN_le _ _ ‹_›
              simp at this
              split <;> simp [FT.bad]; omega
            · simp [FT.bad]
          · unfold symF
            split
            · simp [FT.bad]
            · exact (signN_le _).1
theorem firstF_pos (l : List UInt8) (h : (firstF l).code = 0) : 0 < (firstF l).z := by
  unfold firstF at h ⊢
  split
  · simp [FT.bad] at h
  · rename_i c t
    simp only at h
    split
    · rename_i hd
      rw [if_pos hd] at h
      have hw := wordN_pos c t (by simp [wbB, hd])
      have := wordN_le (c :: t)
      unfold numF at h ⊢
      split
      · simp; omega
      · rename_i hn; rw [hn] at h; simp [FT.bad] at h
    · rename_i hd
      rw [if_neg hd] at h
      split
      · rename_i hl
        rw [if_pos hl] at h
        have hw := wordN_pos c t (by simp only [Bool.or_eq_true] at hl; rcases hl with hl | hl <;> simp [wbB, hl])
        have := wordN_le (c :: t)
        unfold wordF at h ⊢
        repeat' split
        · simp; omega
        · simp; omega
        · simp; omega
        · simp_all [FT.bad]
      · rename_i hl
        rw [if_neg hl] at h
        split
        · rename_i h39
          rw [if_pos h39] at h
          cases t with
          | nil => simp [varF, FT.bad] at h
          | cons d t =>
            rw [varF] at h ⊢
            split
            · simp
            · rename_i hd2; rw [if_neg hd2] at h; simp [FT.bad] at h
        · rename_i h39
          rw [if_neg h39] at h
          split
          · rename_i h34
            rw [if_pos h34] at h
            unfold strF at h ⊢
            split
            · rename_i z hz
              rw [hz] at h
              simp only at h
              split
              · simp
              · rename_i hu; rw [hu] at h; simp [FT.bad] at h
            · rename_i hz; rw [hz] at h; simp [FT.bad] at h
          · rename_i h34
            rw [if_neg h34] at h
            unfold symF at h ⊢
            split
            · rename_i hz; rw [if_pos hz] at h; simp [FT.bad] at h
            · simp; omega

/-! ### All tokens -/
structure Tk where
  k : Int
  n : Int
  s : List UInt8
  at_ : Nat
def FT.tk (r : FT) (p : Nat) : Tk := ⟨r.k, r.n, r.s, p⟩
abbrev LR := List Tk × Nat × Nat
def lexA : Nat → Nat → List Tk → List UInt8 → LR
  | 0, _, acc, _ => (acc, 0, 0)
  | _ + 1, _, acc, [] => (acc, 0, 0)
  | f + 1, p, acc, c :: t =>
    if blankI (c.toNat : Int) then lexA f (p + 1) acc t
    else if openB (c :: t) then (match remL 0 (c :: t) with
      | none => ([], 6, p)
      | some z => lexA f (p + z) acc ((c :: t).drop z))
    else if (firstF (c :: t)).code = 0 then lexA f (p + (firstF (c :: t)).z) (acc ++ [(firstF (c :: t)).tk p]) ((c :: t).drop (firstF (c :: t)).z)
    else ([], (firstF (c :: t)).code, p)
def lexL (l : List UInt8) : LR := if 4000 < l.length then ([], 1, 0) else lexA l.length 0 [] l
/-- The state of a lexer at place p: it will end with R. -/
def LexAt (l : List UInt8) (R : LR) (p : Nat) (acc : List Tk) : Prop := p ≤ l.length ∧ acc.length ≤ p ∧ ∃ f, l.length ≤ p + f ∧ lexA f p acc (l.drop p) = R
theorem lexAt_start (l : List UInt8) (h : ¬ 4000 < l.length) : LexAt l (lexL l) 0 [] := ⟨Nat.zero_le _, Nat.zero_le _, l.length, by omega, by rw [lexL, if_neg h]; rfl⟩
theorem lexAt_end {l : List UInt8} {R : LR} {acc : List Tk} (h : LexAt l R l.length acc) : R = (acc, 0, 0) := by
  obtain ⟨_, _, f, _, rfl⟩ := h
  rw [List.drop_of_length_le (Nat.le_refl _)]
  cases f <;> rfl
theorem lexAt_blank {l : List UInt8} {R : LR} {p : Nat} {acc : List Tk} (h : LexAt l R p acc) (hp : p < l.length) (hb : blankI (l[p].toNat : Int) = true) : LexAt l R (p + 1) acc := by
  obtain ⟨_, ha, f, hf, rfl⟩ := h
  cases f with
  | zero => omega
  | succ f => exact ⟨by omega, by omega, f, by omega, by rw [drop_cons l p hp, lexA, if_pos hb]⟩
theorem lexAt_remark {l : List UInt8} {R : LR} {p z : Nat} {acc : List Tk} (h : LexAt l R p acc) (hp : p < l.length) (hb : blankI (l[p].toNat : Int) = false) (ho : openB (l.drop p) = true) (hr : remL 0 (l.drop p) = some z) : LexAt l R (p + z) acc := by
  obtain ⟨_, ha, f, hf, rfl⟩ := h
  have hz := remL_le _ _ _ hr
  simp at hz
  cases f with
  | zero => omega
  | succ f => exact ⟨by omega, by omega, f, by omega, by rw [drop_cons l p hp] at ho hr ⊢; rw [lexA, if_neg (by simp [hb]), if_pos ho, hr]; simp only; rw [← drop_cons l p hp, List.drop_drop]⟩
theorem lexAt_open {l : List UInt8} {R : LR} {p : Nat} {acc : List Tk} (h : LexAt l R p acc) (hp : p < l.length) (hb : blankI (l[p].toNat : Int) = false) (ho : openB (l.drop p) = true) (hr : remL 0 (l.drop p) = none) : R = ([], 6, p) := by
  obtain ⟨_, ha, f, hf, rfl⟩ := h
  cases f with
  | zero => omega
  | succ f => rw [drop_cons l p hp] at ho hr ⊢; rw [lexA, if_neg (by simp [hb]), if_pos ho, hr]
theorem lexAt_tok {l : List UInt8} {R : LR} {p : Nat} {acc : List Tk} (h : LexAt l R p acc) (hp : p < l.length) (hb : blankI (l[p].toNat : Int) = false) (ho : openB (l.drop p) = false) (hc : (firstF (l.drop p)).code = 0) :
    LexAt l R (p + (firstF (l.drop p)).z) (acc ++ [(firstF (l.drop p)).tk p]) := by
  obtain ⟨_, ha, f, hf, rfl⟩ := h
  have hz := firstF_z (l.drop p)
  have hz0 := firstF_pos (l.drop p) hc
  simp at hz
  cases f with
  | zero => omega
  | succ f =>
    refine ⟨by omega, by simp; omega, f, by omega, ?_⟩
    rw [← List.drop_drop]
    rw [drop_cons l p hp] at ho hc ⊢
    rw [lexA, if_neg (by simp [hb]), if_neg (by rw [ho]; exact Bool.false_ne_true), if_pos hc]
theorem lexAt_bad {l : List UInt8} {R : LR} {p : Nat} {acc : List Tk} (h : LexAt l R p acc) (hp : p < l.length) (hb : blankI (l[p].toNat : Int) = false) (ho : openB (l.drop p) = false) (hc : (firstF (l.drop p)).code ≠ 0) :
    R = ([], (firstF (l.drop p)).code, p) := by
  obtain ⟨_, ha, f, hf, rfl⟩ := h
  cases f with
  | zero => omega
  | succ f => rw [drop_cons l p hp] at ho hc ⊢; rw [lexA, if_neg (by simp [hb]), if_neg (by rw [ho]; exact Bool.false_ne_true), if_neg hc]
end Go.Proofs.YtjflnpcmjibcpaaGreatDoor
