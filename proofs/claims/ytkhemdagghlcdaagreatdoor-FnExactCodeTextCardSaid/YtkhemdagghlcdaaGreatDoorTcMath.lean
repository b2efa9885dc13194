/- Plain mathematics of the printed form of code. -/
import Derived.Test.YtkhemdagghlcdaaGreatDoorCdMath
import Derived.Test.YtkhemdagghlcdaaGreatDoorPrMath
import Derived.Test.YtkhemdagghlcdaaGreatDoorDigits
import Derived.Test.YtkhemdagghlcdaaGreatDoorQuoteMath
namespace Go.Proofs.YtkhemdagghlcdaaGreatDoor
set_option linter.unusedVariables false
open Go.RowKit

/-- The operations' names, by their numbers. -/
def opL : List (List UInt8) := [[], [105, 110, 116], [115, 116, 114], [117, 110, 105, 116], [99, 111, 110], [112, 97, 105, 114], [118, 97, 114], [103, 105, 118, 101, 110], [102, 117, 110], [114, 101, 99], [99, 97, 108, 108], [114, 101, 116], [106, 117, 109, 112], [105, 102, 110, 111, 116], [98, 105, 110, 100], [100, 114, 111, 112], [112, 114, 105, 109], [114, 97, 105, 115, 101], [116, 114, 121], [111, 107], [97, 114, 109], [110, 111, 97, 114, 109], [114, 101, 102], [103, 101, 116], [115, 101, 116], [112, 111, 112]]
def opT (k : Nat) : List UInt8 := opL[k]?.getD []
/-- The texts of the fields that an instruction uses. -/
def fT (x : Ins_) : List (List UInt8) :=
  if x.op = 1 ∨ (x.op = 6 ∨ (x.op = 8 ∨ (x.op = 9 ∨ (x.op = 12 ∨ (x.op = 13 ∨ (x.op = 15 ∨ x.op = 18)))))) then [numL x.a]
  else if x.op = 20 then [numL x.a, numL x.b]
  else if x.op = 4 then [numL x.a, x.s.toList]
  else if x.op = 7 ∨ x.op = 16 then [x.s.toList]
  else if x.op = 2 then [quoteL x.s.toList]
  else []
/-- A line's words, joined. -/
def lineT (i : Nat) (x : Ins_) : List UInt8 := Lib.join (numL i :: opT x.op.toNat :: fT x) [32]
/-- The pieces of the first k lines. -/
def codeP (l : List Ins_) : Nat → List (List UInt8)
  | 0 => []
  | k + 1 => codeP l k ++ (match l[k]? with | some x => [lineT k x, [10]] | none => [])
theorem codeP_succ (l : List Ins_) (k : Nat) (h : k < l.length) : codeP l (k + 1) = codeP l k ++ [lineT k l[k], [10]] := by
  rw [codeP, List.getElem?_eq_getElem h]
theorem codeP_len (l : List Ins_) : ∀ k, k ≤ l.length → (codeP l k).length = 2 * k
  | 0, _ => rfl
  | k + 1, h => by rw [codeP_succ l k h, List.length_append, codeP_len l k (by omega)]; simp; omega
/-- The printed form. -/
noncomputable def codeTx (c : Cd) : List UInt8 := if codeOkB c = true then (codeP c.ins c.ins.length).flatten else []
noncomputable def codeTxRes (c : Cd) : ByteArray := ⟨(codeTx c).toArray⟩

/-- The model's tail of a line: what stands behind the operation's name. -/
def tailT (x : Ins_) : List UInt8 := (fT x).flatMap fun t => 32 :: t
theorem join_cons2 (a : List UInt8) (l : List (List UInt8)) : Lib.join (a :: l) [32] = a ++ l.flatMap fun t => 32 :: t := by
  induction l generalizing a with
  | nil => simp [Lib.join]
  | cons b l ih =>
    have : Lib.join (a :: b :: l) [32] = a ++ [32] ++ Lib.join (b :: l) [32] := by simp [Lib.join, List.intercalate]
    rw [this, ih]; simp
theorem lineT_eq (i : Nat) (x : Ins_) : lineT i x = numL i ++ ([32] ++ (opT x.op.toNat ++ tailT x)) := by
  rw [lineT, join_cons2]; simp [tailT]
theorem opT_len (k : Nat) : (opT k).length ≤ 5 := by
  by_cases h : k < 26
  · unfold opT
    have : k = 0 ∨ k = 1 ∨ k = 2 ∨ k = 3 ∨ k = 4 ∨ k = 5 ∨ k = 6 ∨ k = 7 ∨ k = 8 ∨ k = 9 ∨ k = 10 ∨ k = 11 ∨ k = 12 ∨ k = 13 ∨ k = 14 ∨ k = 15 ∨ k = 16 ∨ k = 17 ∨ k = 18 ∨ k = 19 ∨ k = 20 ∨ k = 21 ∨ k = 22 ∨ k = 23 ∨ k = 24 ∨ k = 25 := by omega
    rcases this with rfl | rfl | rfl | rfl | rfl | rfl | rfl | rfl | rfl | rfl | rfl | rfl | rfl | rfl | rfl | rfl | rfl | rfl | rfl | rfl | rfl | rfl | rfl | rfl | rfl | rfl <;> decide
  · unfold opT; rw [List.getElem?_eq_none (by simp [opL]; omega)]; simp
theorem numL_le (n : Int) : (numL n).length ≤ 24 := by
  unfold numL Lib.itoa
  by_cases hW : W n = n
  · have := W_range n
    rw [hW] at this
    rw [if_pos hW]
    split
    · have := digits_len n.natAbs (by omega)
      rw [List.length_cons]; omega
    · have := digits_len n.toNat (by omega); omega
  · rw [if_neg hW]; simp
theorem str_len (s : ByteArray) : s.toList.length = s.size := by rw [pr_toList]; rfl
theorem quote_le (s : ByteArray) : (quoteL s.toList).length ≤ 4 * s.size + 2 := by
  have := flat_length s.toList
  have h2 := str_len s
  unfold quoteL
  simp only [List.length_cons, List.length_append, List.length_nil]
  omega
theorem fT_sz (x : Ins_) : (fT x).length ≤ 2 ∧ ∀ t ∈ fT x, t.length ≤ 26 + 4 * x.s.size := by
  have h1 := numL_le x.a
  have h2 := numL_le x.b
  have h3 := str_len x.s
  have h4 := quote_le x.s
  unfold fT
  repeat' split
  all_goals
    refine ⟨by simp, fun t ht => ?_⟩
    simp only [List.mem_cons, List.not_mem_nil, or_false] at ht
  all_goals first | (rcases ht with rfl | rfl <;> omega) | (subst ht; omega) | exact ht.elim
theorem tail_len (x : Ins_) : (tailT x).length ≤ 2 * (27 + 4 * x.s.size) := by
  obtain ⟨h1, h2⟩ := fT_sz x
  unfold tailT
  match hf : fT x, h1, h2 with
  | [], _, _ => simp
  | [a], _, h2 => have := h2 a (by simp); simp; omega
  | [a, b], _, h2 => have := h2 a (by simp); have := h2 b (by simp); simp; omega
theorem line_len (i : Nat) (x : Ins_) : (lineT i x).length ≤ 90 + 8 * x.s.size := by
  have h1 := numL_le i
  have h2 := opT_len x.op.toNat
  have h3 := tail_len x
  rw [lineT_eq]; simp only [List.length_append, List.length_cons, List.length_nil]; omega
theorem codeP_sz (l : List Ins_) (k : Nat) (hk : k ≤ l.length) : (codeP l k).flatten.length ≤ 100 * k + 8 * bulkL bIns (l.take k) := by
  induction k with
  | zero => simp [codeP]
  | succ k ih =>
    have hlt : k < l.length := hk
    have h1 := ih (by omega)
    have h2 := line_len k l[k]
    rw [codeP_succ l k hlt, bulkL_take bIns l k hlt]
    simp only [List.flatten_append, List.length_append, List.flatten_cons, List.flatten_nil, List.length_cons, List.length_nil]
    have h3 : bIns l[k] = l[k].s.size := rfl
    omega
theorem code_sz {c : Cd} (h : codeOkB c = true) (hz : bCd c ≤ 1048576) (k : Nat) (hk : k ≤ c.ins.length) : (codeP c.ins k).flatten.length ≤ 9000000 := by
  have h1 := codeP_sz c.ins k hk
  have h2 := bulkL_take_le bIns c.ins k
  have h3 : c.ins.length ≤ 3000 := by
    simp only [codeOkB, Bool.and_eq_true, decide_eq_true_eq] at h
    exact h.2.1
  unfold bCd at hz
  omega
theorem ins_sz {c : Cd} (hz : bCd c ≤ 1048576) (k : Nat) (hk : k < c.ins.length) : c.ins[k].s.size ≤ 1048576 := by
  have := bulkL_mem bIns c.ins k hk
  have h3 : bIns c.ins[k] = c.ins[k].s.size := rfl
  unfold bCd at hz
  omega
theorem code_line (l : List Ins_) (k : Nat) (h : k < l.length) : (codeP l (k + 1)).flatten = (codeP l k).flatten ++ numL k ++ [32] ++ opT l[k].op.toNat ++ tailT l[k] ++ [10] := by
  rw [codeP_succ l k h, List.flatten_append, lineT_eq]; simp
/-- An instruction of valid code: its operation is known; its text is there where it is printed. -/
theorem ins_right {n m : Int} {x : Ins_} (h : insB n m x = true) : 1 ≤ x.op ∧ x.op ≤ 25 ∧ (x.op = 4 ∨ x.op = 7 ∨ x.op = 16 → x.s.toList ≠ []) ∧ (x.op ≠ 2 → x.op ≠ 4 → x.op ≠ 7 → x.op ≠ 16 → x.s.toList = []) := by
  simp only [insB, Bool.and_eq_true, decide_eq_true_eq] at h
  obtain ⟨h1, h2, _, _, h5⟩ := h
  refine ⟨h1, h2, fun hk hs => ?_, fun k2 k4 k7 k16 => ?_⟩
  · rcases hk with hk | hk | hk
    · rw [hk] at h5
      simp [insS, conOkB, conB, wordB, hs] at h5
      have := str_len x.s
      rw [hs] at this
      simp at this
      simp [lenB, ← this] at h5
    · rw [hk] at h5; simp [insS, givenB, hs] at h5
    · rw [hk] at h5; simp [insS, primB, prims, hs] at h5
  · unfold insS at h5
    rw [if_neg k2, if_neg k4, if_neg k7, if_neg k16] at h5
    simpa using h5
theorem insGroups (k : Int) (h1 : 1 ≤ k) (h2 : k ≤ 25) : (k = 1 ∨ k = 6 ∨ k = 8 ∨ k = 9 ∨ k = 12 ∨ k = 13 ∨ k = 15 ∨ k = 18) ∨ k = 20 ∨ k = 4 ∨ (k = 7 ∨ k = 16) ∨ k = 2 ∨ (k = 3 ∨ k = 5 ∨ k = 10 ∨ k = 11 ∨ k = 14 ∨ k = 17 ∨ k = 19 ∨ k = 21 ∨ k = 22 ∨ k = 23 ∨ k = 24 ∨ k = 25) := by omega
end Go.Proofs.YtkhemdagghlcdaaGreatDoor
