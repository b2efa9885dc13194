/- Plain mathematics of decimal numerals: their digits, their value from the left, and how the library reads them. -/
import Derived.Test.YtjflnpcmjibcpaaGreatDoorNumMath
import Derived.Lib.AtoiAll
import Derived.Lib.ItoaNum
import Derived.Lib.ItoaLen
namespace Go.Proofs.YtjflnpcmjibcpaaGreatDoor
set_option linter.unusedVariables false
open Go.Lib

def isDig (c : UInt8) : Prop := 48 ≤ c.toNat ∧ c.toNat ≤ 57
/-- The value of a row of digits, read from the left, behind a. -/
def decV (a : Nat) (l : List UInt8) : Nat := l.foldl (fun a c => a * 10 + (c.toNat - 48)) a
theorem decV_snoc (a : Nat) (l : List UInt8) (c : UInt8) : decV a (l ++ [c]) = decV a l * 10 + (c.toNat - 48) := by simp [decV]
theorem dig_toNat (d : Nat) (h : d < 10) : (UInt8.ofNat (48 + d)).toNat = 48 + d := by
  rw [UInt8.toNat_ofNat']; omega
theorem digits_rec {p : Nat → List UInt8 → Prop} (h0 : ∀ u, u < 10 → p u [UInt8.ofNat (48 + u)]) (h1 : ∀ u, ¬ u < 10 → p (u / 10) (decDigits (u / 10)) → p u (decDigits (u / 10) ++ [UInt8.ofNat (48 + u % 10)])) :
    ∀ (N u : Nat), u < N → p u (decDigits u)
  | 0, u, h => absurd h (by omega)
  | N + 1, u, h => by
    rw [decDigits]
    split
    · rename_i h10; exact h0 u h10
    · rename_i h10; exact h1 u h10 (digits_rec h0 h1 N (u / 10) (by omega))
theorem decV_digits (u : Nat) : decV 0 (decDigits u) = u := by
  refine digits_rec (p := fun u l => decV 0 l = u) ?_ ?_ (u + 1) u (by omega)
  · intro u h; simp [decV]; omega
  · intro u _ ih; rw [decV_snoc, ih, dig_toNat _ (by omega)]; omega
theorem digits_dig (u : Nat) : ∀ c ∈ decDigits u, isDig c := by
  refine digits_rec (p := fun u l => ∀ c ∈ l, isDig c) ?_ ?_ (u + 1) u (by omega)
  · intro u h c hc; obtain rfl := List.mem_singleton.1 hc; unfold isDig; rw [dig_toNat u h]; omega
  · intro u _ ih c hc
    rcases List.mem_append.1 hc with h | h
    · exact ih c h
    · obtain rfl := List.mem_singleton.1 h; unfold isDig; rw [dig_toNat _ (by omega)]; omega
theorem digits_ne (u : Nat) : decDigits u ≠ [] := by
  rw [decDigits]; split <;> simp
theorem decV_mono (l : List UInt8) : ∀ a, a ≤ decV a l := by
  induction l with
  | nil => intro a; exact Nat.le_refl _
  | cons c l ih => intro a; have := ih (a * 10 + (c.toNat - 48)); simp only [decV, List.foldl_cons] at *; omega
theorem decV_ten (l : List UInt8) (hl : l ≠ []) : ∀ a, a * 10 ≤ decV a l := by
  intro a
  cases l with
  | nil => exact absurd rfl hl
  | cons c l => have := decV_mono l (a * 10 + (c.toNat - 48)); simp only [decV, List.foldl_cons] at *; omega
theorem decV_take (l : List UInt8) (k : Nat) (hk : k < l.length) : decV 0 (l.take k) * 10 ≤ decV 0 l := by
  have h : decV 0 l = decV (decV 0 (l.take k)) (l.drop k) := by
    unfold decV; rw [← List.foldl_append, List.take_append_drop]
  rw [h]; exact decV_ten _ (by intro e; have := congrArg List.length e; simp at this; omega) _

theorem parse_digits (l : List UInt8) (hd : ∀ c ∈ l, isDig c) : ∀ a, decV a l < 18446744073709551616 → parseUint10 a l = .ok (decV a l) := by
  induction l with
  | nil => intro a _; rfl
  | cons c l ih =>
    intro a h
    have hc := hd c (by simp)
    unfold isDig at hc
    have h2 : decV a (c :: l) = decV (a * 10 + (c.toNat - 48)) l := rfl
    have h3 := decV_mono l (a * 10 + (c.toNat - 48))
    rw [h2] at h ⊢
    rw [parseUint10, if_pos hc, if_neg (by omega), if_neg (by omega)]
    exact ih (fun x hx => hd x (by simp [hx])) _ h
theorem parseMag_digits (u : Nat) (h : u < 18446744073709551616) : parseMag (decDigits u) = .ok u := by
  unfold parseMag; rw [if_neg (digits_ne u), parse_digits _ (digits_dig u) 0 (by rw [decV_digits]; exact h), decV_digits]
theorem head_dig (u : Nat) : ∃ c r, decDigits u = c :: r ∧ isDig c := by
  cases h : decDigits u with
  | nil => exact absurd h (digits_ne u)
  | cons c r => exact ⟨c, r, rfl, digits_dig u c (by rw [h]; simp)⟩
theorem atoi_range (l : List UInt8) (v : Int) (h : atoiAll l = .ok v) : -9223372036854775808 ≤ v ∧ v ≤ 9223372036854775807 := by
  cases l with
  | nil => cases h
  | cons c r =>
    simp only [atoiAll] at h
    cases hm : parseMag (if c.toNat = 43 ∨ c.toNat = 45 then r else c :: r) with
    | ok u =>
      rw [hm] at h
      simp only at h
      split at h
      · cases h
      · split at h
        · cases h
        · injection h with h
          split at h <;> omega
    | _ => rw [hm] at h; cases h
/-- A numeral is read as its number. -/
theorem atoi_cons (c : UInt8) (r : List UInt8) (u : Nat) (h : parseMag (if c.toNat = 43 ∨ c.toNat = 45 then r else c :: r) = .ok u) (hu : u < 9223372036854775808) :
    atoiAll (c :: r) = .ok (if c.toNat = 45 then -(u : Int) else u) := by
  simp only [atoiAll]
  rw [h]
  simp only
  rw [if_neg (by omega), if_neg (by omega)]
/-- A numeral is read as its number. -/
theorem atoi_itoa (v : Int) (h : -4611686018427387904 ≤ v ∧ v ≤ 4611686018427387903) : atoiAll (itoa v) = .ok v := by
  unfold itoa
  split
  · rename_i hn
    have hm := parseMag_digits v.natAbs (by omega)
    rw [atoi_cons 45 _ v.natAbs (by rw [if_pos (by decide)]; exact hm) (by omega), if_pos (by decide)]
    congr 1; omega
  · rename_i hn
    have hm := parseMag_digits v.toNat (by omega)
    obtain ⟨c, r, hcr, hc⟩ := head_dig v.toNat
    unfold isDig at hc
    rw [hcr] at hm ⊢
    rw [atoi_cons c r v.toNat (by rw [if_neg (by omega)]; exact hm) (by omega), if_neg (by omega)]
    congr 1; omega
end Go.Proofs.YtjflnpcmjibcpaaGreatDoor
