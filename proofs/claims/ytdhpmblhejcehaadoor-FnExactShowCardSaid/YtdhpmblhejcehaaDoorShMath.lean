/- Plain mathematics of what a value is shown as. -/
import Derived.Test.YtdhpmblhejcehaaDoorHpMath
import Derived.Test.YtdhpmblhejcehaaDoorDigits
import Derived.Test.YtdhpmblhejcehaaDoorQuoteMath
import Derived.Test.YtdhpmblhejcehaaDoorPrMath
namespace Go.Proofs.YtdhpmblhejcehaaDoor
set_option linter.unusedVariables false
open Go.RowKit

/-- A cell, its two values shown. -/
def ceT (c : Ce) (a b : List UInt8) : List UInt8 :=
  if c.kind = 1 then [40] ++ c.s.toList ++ [32] ++ a ++ [41]
  else if c.kind = 2 then [40] ++ a ++ [44, 32] ++ b ++ [41]
  else if c.kind = 3 then [60, 102, 117, 110, 32] ++ numL c.n ++ [32] ++ a ++ [62]
  else if c.kind = 4 then [60, 114, 101, 99, 32] ++ numL c.n ++ [32] ++ a ++ [62]
  else if c.kind = 5 then [123] ++ a ++ [125]
  else [91] ++ a ++ [32] ++ b ++ [93]
/-- A value that is no cell. -/
def plT (v : Vl) : List UInt8 :=
  if v.kind = 1 then numL v.n else if v.kind = 2 then quoteL v.s.toList else if v.kind = 3 then [40, 41]
  else if v.kind = 4 then v.s.toList else if v.kind = 5 then [60] ++ v.s.toList ++ [62] else [45]
/-- A value, so many cells deep. -/
def shT (h : List Ce) : Nat → Vl → List UInt8
  | 0, v => if v.kind = 6 then [63] else plT v
  | d + 1, v => if v.kind = 6 then (match h[v.n.toNat]? with | some c => ceT c (shT h d c.a) (shT h d c.b) | none => []) else plT v
theorem shT_pl (h : List Ce) (d : Nat) (v : Vl) (hk : v.kind ≠ 6) : shT h d v = plT v := by
  cases d <;> rw [shT, if_neg hk]
theorem shT_at (h : List Ce) (d : Nat) (v : Vl) (p : Nat) (hk : v.kind = 6) (hv : v.n.toNat = p) (hp : p < h.length) : shT h (d + 1) v = ceT h[p] (shT h d h[p].a) (shT h d h[p].b) := by
  subst hv
  rw [shT, if_pos hk, List.getElem?_eq_getElem hp]
theorem sh_quote (s : ByteArray) : (quoteL s.toList).length ≤ 4 * s.size + 2 := by
  have := flat_length s.toList
  have h2 : s.toList.length = s.size := by rw [pr_toList]; rfl
  unfold quoteL
  simp only [List.length_cons, List.length_append, List.length_nil]
  omega
theorem sh_num (n : Int) : (numL n).length ≤ 24 := by
  unfold numL Lib.itoa
  by_cases hW : W n = n
  · have := W_range n
    rw [hW] at this
    rw [if_pos hW]
    split
    · have := digits_len n.natAbs (by omega)
      rw [List.length_cons]; omega
    · have := digits_len n.toNat (by omega); omega
  · rw [if_neg hW]; simp
theorem sh_str (s : ByteArray) : s.toList.length = s.size := by rw [pr_toList]; rfl
theorem plT_len (v : Vl) : (plT v).length ≤ 4 * v.s.size + 30 := by
  have h1 := sh_num v.n
  have h2 := sh_quote v.s
  have h3 := sh_str v.s
  unfold plT
  repeat' split
  all_goals
    try simp only [List.length_append, List.length_cons, List.length_nil]
    omega
theorem ceT_len (c : Ce) (a b : List UInt8) : (ceT c a b).length ≤ a.length + b.length + c.s.size + 40 := by
  have h1 := sh_num c.n
  have h3 := sh_str c.s
  unfold ceT
  repeat' split
  all_goals
    try simp only [List.length_append, List.length_cons, List.length_nil]
    omega
/-- How long it gets: it doubles with each cell. -/
theorem shT_len (h : List Ce) (M : Nat) (hM : ∀ c ∈ h, c.s.size ≤ M ∧ c.a.s.size ≤ M ∧ c.b.s.size ≤ M) : ∀ (d : Nat) (v : Vl), v.s.size ≤ M → (shT h d v).length + (4 * M + 100) ≤ (4 * M + 100) * 2 ^ (d + 1) := by
  intro d
  induction d with
  | zero =>
    intro v hv
    by_cases hk : v.kind = 6
    · rw [shT, if_pos hk]; simp; omega
    · have := plT_len v
      rw [shT, if_neg hk]; omega
  | succ d ih =>
    intro v hv
    have hp : (4 * M + 100) * 2 ^ (d + 1 + 1) = (4 * M + 100) * 2 ^ (d + 1) * 2 := by rw [Nat.pow_succ (n := 2) (m := d + 1)]; rw [Nat.mul_assoc]
    have h1 : 1 * 2 ≤ 2 ^ (d + 1) := by rw [Nat.pow_succ]; exact Nat.mul_le_mul_right 2 (Nat.one_le_two_pow)
    have h2 : (4 * M + 100) * 2 ≤ (4 * M + 100) * 2 ^ (d + 1) := Nat.mul_le_mul_left _ (by omega)
    by_cases hk : v.kind = 6
    · rw [shT, if_pos hk]
      cases hc : h[v.n.toNat]? with
      | none => simp; omega
      | some c =>
        have hm := hM c (List.mem_of_getElem? hc)
        have ha := ih c.a hm.2.1
        have hb := ih c.b hm.2.2
        have := ceT_len c (shT h d c.a) (shT h d c.b)
        simp only
        omega
    · have := plT_len v
      rw [shT, if_neg hk]; omega
/-- Show. -/
noncomputable def shRes (h : List Ce) (v : Vl) (deep : Int) : ByteArray := if heapB h [v] = true ∧ deep ≤ 12 then ⟨(shT h deep.toNat v).toArray⟩ else ⟨#[]⟩
theorem sh_bulk {h : List Ce} (hz : bulkL bCe h ≤ 1048576) : ∀ c ∈ h, c.s.size ≤ 1048576 ∧ c.a.s.size ≤ 1048576 ∧ c.b.s.size ≤ 1048576 := by
  intro c hc
  obtain ⟨i, hi, rfl⟩ := List.getElem_of_mem hc
  have := bulkL_mem bCe h i hi
  have e : bCe h[i] = h[i].s.size + h[i].a.s.size + h[i].b.s.size := rfl
  omega
theorem sh_size {h : List Ce} {v : Vl} (hz : bulkL bCe h ≤ 1048576) (hv : v.s.size ≤ 1048576) (d : Nat) (hd : d ≤ 12) : (shT h d v).length ≤ 40000000000 := by
  have := shT_len h 1048576 (sh_bulk hz) d v hv
  have h2 : 2 ^ (d + 1) ≤ 2 ^ 13 := Nat.pow_le_pow_right (by omega) (by omega)
  have h3 : (4 * 1048576 + 100) * 2 ^ (d + 1) ≤ (4 * 1048576 + 100) * 2 ^ 13 := Nat.mul_le_mul_left _ h2
  omega
end Go.Proofs.YtdhpmblhejcehaaDoor
