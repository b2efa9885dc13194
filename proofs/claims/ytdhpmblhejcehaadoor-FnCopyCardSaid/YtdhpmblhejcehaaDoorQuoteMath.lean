/- Plain mathematics of quoted strings. -/
import Derived.Test.YtdhpmblhejcehaaDoorOwn
namespace Go.Proofs.YtdhpmblhejcehaaDoor
set_option linter.unusedVariables false
open Go.RowKit

def hexI (d : Int) : Int := if d < 10 then 48 + d else 87 + d
def hexB (d : Nat) : UInt8 := UInt8.ofNat (if d < 10 then 48 + d else 87 + d)
theorem hexB_toNat (d : Nat) (h : d < 16) : ((hexB d).toNat : Int) = hexI d := by
  unfold hexB hexI
  have : d = 0 ∨ d = 1 ∨ d = 2 ∨ d = 3 ∨ d = 4 ∨ d = 5 ∨ d = 6 ∨ d = 7 ∨ d = 8 ∨ d = 9 ∨ d = 10 ∨ d = 11 ∨ d = 12 ∨ d = 13 ∨ d = 14 ∨ d = 15 := by omega
  rcases this with rfl | rfl | rfl | rfl | rfl | rfl | rfl | rfl | rfl | rfl | rfl | rfl | rfl | rfl | rfl | rfl <;> rfl
/-- How one byte is written in quotes. -/
def qb (c : UInt8) : List UInt8 :=
  if c.toNat = 10 then [92, 110] else if c.toNat = 34 ∨ c.toNat = 92 then [92, c] else if 32 ≤ c.toNat ∧ c.toNat ≤ 126 then [c] else [92, 120, hexB (c.toNat / 16), hexB (c.toNat % 16)]
def qpre (s : ByteArray) (k : Nat) : List UInt8 := 34 :: ((s.data.toList.take k).flatMap qb)
def quoteL (l : List UInt8) : List UInt8 := 34 :: (l.flatMap qb ++ [34])
theorem qb_ten (c : UInt8) (h : (c.toNat : Int) = 10) : qb c = [92, 110] := by unfold qb; rw [if_pos (by omega)]
theorem qb_esc (c : UInt8) (h : ¬ (c.toNat : Int) = 10) (h2 : (c.toNat : Int) = 34 ∨ (c.toNat : Int) = 92) : qb c = [92, c] := by unfold qb; rw [if_neg (by omega), if_pos (by omega)]
theorem qb_self (c : UInt8) (h : ¬ (c.toNat : Int) = 10) (h2 : ¬ ((c.toNat : Int) = 34 ∨ (c.toNat : Int) = 92)) (h3 : 32 ≤ (c.toNat : Int) ∧ (c.toNat : Int) ≤ 126) : qb c = [c] := by unfold qb; rw [if_neg (by omega), if_neg (by omega), if_pos (by omega)]
theorem qb_hex (c : UInt8) (h : ¬ (c.toNat : Int) = 10) (h2 : ¬ ((c.toNat : Int) = 34 ∨ (c.toNat : Int) = 92)) (h3 : ¬ (32 ≤ (c.toNat : Int) ∧ (c.toNat : Int) ≤ 126)) : qb c = [92, 120, hexB (c.toNat / 16), hexB (c.toNat % 16)] := by unfold qb; rw [if_neg (by omega), if_neg (by omega), if_neg (by omega)]
theorem bc_hex (c : UInt8) : [Value.int .u8 92, .int .u8 120, .int .u8 (hexI ((c.toNat : Int) / 16)), .int .u8 (hexI ((c.toNat : Int) % 16))] = bc [92, 120, hexB (c.toNat / 16), hexB (c.toNat % 16)] := by
  have hc := c.toNat_lt
  have h1 := hexB_toNat (c.toNat / 16) (by omega)
  have h2 := hexB_toNat (c.toNat % 16) (by omega)
  simp only [bc, List.map_cons, List.map_nil, h1, h2]
  simp
theorem qb_length (c : UInt8) : (qb c).length ≤ 4 := by unfold qb; split; · simp
                                                        split; · simp
                                                        split <;> simp
theorem flat_length (l : List UInt8) : (l.flatMap qb).length ≤ 4 * l.length := by
  induction l with
  | nil => simp
  | cons c l ih => have := qb_length c; simp only [List.flatMap_cons, List.length_append, List.length_cons]; omega
theorem qpre_length (s : ByteArray) (k : Nat) (hk : k ≤ s.size) : (qpre s k).length ≤ 1 + 4 * k := by
  have h := flat_length (s.data.toList.take k)
  have : (s.data.toList.take k).length = k := by simp; omega
  simp only [qpre, List.length_cons]; omega
theorem qpre_succ (s : ByteArray) (k : Nat) (h : k < s.size) : qpre s (k + 1) = qpre s k ++ qb s[k] := by
  unfold qpre
  have ht : s.data.toList.take (k + 1) = s.data.toList.take k ++ [s[k]] := by
    rw [List.take_succ_eq_append_getElem (by simpa using h)]; rfl
  rw [ht, List.flatMap_append]; simp
theorem qpre_end (s : ByteArray) : qpre s s.size ++ [34] = quoteL s.data.toList := by
  unfold qpre quoteL; rw [List.take_of_length_le (by simp)]; simp
end Go.Proofs.YtdhpmblhejcehaaDoor
