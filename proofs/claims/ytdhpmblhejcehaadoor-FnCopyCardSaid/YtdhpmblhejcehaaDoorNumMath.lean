/- Plain mathematics of 63-bit numbers: W n is the number that is congruent to n modulo 2^63, as the shifts of 64-bit integers give it. -/
import Derived.WalkKit
namespace Go.Proofs.YtdhpmblhejcehaaDoor
set_option linter.unusedVariables false
open Go.RowKit

def W (n : Int) : Int := wrap64 (n * 2) / 2

theorem W_eq (n : Int) : W n = (n + 4611686018427387904) % 9223372036854775808 - 4611686018427387904 := by
  unfold W wrap64; omega
theorem W_range (n : Int) : -4611686018427387904 ≤ W n ∧ W n ≤ 4611686018427387903 := by rw [W_eq]; omega
theorem W_of (n : Int) (h : -4611686018427387904 ≤ n ∧ n ≤ 4611686018427387903) : W n = n := by rw [W_eq]; omega
theorem W_wrap (n : Int) : W (wrap64 n) = W n := by rw [W_eq, W_eq]; unfold wrap64; omega
theorem W_zero : W 0 = 0 := W_of _ (by omega)
theorem W_W (n : Int) : W (W n) = W n := W_of _ (W_range n)
theorem W_cong {a b : Int} (h : a % 9223372036854775808 = b % 9223372036854775808) : W a = W b := by rw [W_eq, W_eq]; omega
theorem W_mod (n : Int) : W n % 9223372036854775808 = n % 9223372036854775808 := by rw [W_eq]; omega
theorem W_add (a b : Int) : W (W a + W b) = W (a + b) := by
  apply W_cong; have := W_mod a; have := W_mod b; omega
theorem W_sub (a b : Int) : W (W a - W b) = W (a - b) := by
  apply W_cong; have := W_mod a; have := W_mod b; omega
theorem W_mul (a b : Int) : W (W a * W b) = W (a * b) := by
  apply W_cong; rw [Int.mul_emod, W_mod a, W_mod b, ← Int.mul_emod]
theorem W_mul_l (a b : Int) : W (W a * b) = W (a * b) := by
  apply W_cong; rw [Int.mul_emod, W_mod a, ← Int.mul_emod]
theorem W_add_l (a b : Int) : W (W a + b) = W (a + b) := by
  apply W_cong; have := W_mod a; omega
theorem W_add_r (a b : Int) : W (a + W b) = W (a + b) := by
  apply W_cong; have := W_mod b; omega
theorem wrap64_small (n : Int) (h : -9223372036854775808 ≤ n ∧ n ≤ 9223372036854775807) : wrap64 n = n := by unfold wrap64; omega
theorem wrap64_range (n : Int) : -9223372036854775808 ≤ wrap64 n ∧ wrap64 n ≤ 9223372036854775807 := by unfold wrap64; omega
theorem W_fits (n : Int) : (Lit.int .i64 (W n)).wf = true := by
  have := W_range n
  simp only [Lit.wf, IntKind.min, IntKind.max, IntKind.signed, IntKind.bits, Bool.and_eq_true, decide_eq_true_eq, if_true]
  omega
def Dv (a b : Int) : Int := W ((W a).tdiv (W b))
def Rm (a b : Int) : Int := (W a).tmod (W b)
theorem tdiv_bd (x y : Int) : (x.tdiv y).natAbs ≤ x.natAbs := by
  rw [Int.natAbs_tdiv]; exact Nat.div_le_self _ _
theorem rem_eq (a b : Int) : wrap64 (W a - wrap64 (wrap64 ((W a).tdiv (W b)) * W b)) = Rm a b := by
  have h1 := W_range a
  have h2 := tdiv_bd (W a) (W b)
  have h3 := Int.mul_tdiv_add_tmod (W a) (W b)
  have h5 : ((W a).tmod (W b)).natAbs ≤ (W a).natAbs := by rw [Int.natAbs_tmod]; exact Nat.mod_le _ _
  have h4 : (W a).tdiv (W b) * W b = W a - (W a).tmod (W b) := by rw [Int.mul_comm]; omega
  rw [wrap64_small ((W a).tdiv (W b)) (by omega), h4]
  unfold Rm
  rw [wrap64_small (W a - (W a).tmod (W b)) (by omega), wrap64_small _ (by omega)]
  omega
theorem emod_two (b p : Int) (hp : 0 < p) : b % (p * 2) = b % p + p * (b / p % 2) := by
  have hd : b / p / 2 = b / (p * 2) := by rw [Int.ediv_ediv, if_neg (by omega)]; omega
  rw [Int.emod_def b (p * 2), Int.emod_def b p, Int.emod_def (b / p) 2, ← hd, Int.mul_sub, Int.mul_assoc]
  omega
theorem bit_step (b : Int) (k : Nat) (h : b / 2 ^ k % 2 = 1) : b % 2 ^ (k + 1) = b % 2 ^ k + 2 ^ k := by
  have hp : (0 : Int) < 2 ^ k := Int.pow_pos (by omega)
  rw [Int.pow_succ, emod_two _ _ hp, h]; omega
theorem bit_stay (b : Int) (k : Nat) (h : ¬ b / 2 ^ k % 2 = 1) : b % 2 ^ (k + 1) = b % 2 ^ k := by
  have h0 : b / 2 ^ k % 2 = 0 := by omega
  have hp : (0 : Int) < 2 ^ k := Int.pow_pos (by omega)
  rw [Int.pow_succ, emod_two _ _ hp, h0]; omega
theorem mul_end (a b : Int) : W (a * (b % 2 ^ 63)) = W (a * b) := by
  apply W_cong
  have : (2 : Int) ^ 63 = 9223372036854775808 := by decide
  rw [this, Int.mul_emod, Int.emod_emod_of_dvd _ (Int.dvd_refl _), ← Int.mul_emod]
theorem and_pow (n : Int) (i : Nat) (m : Int) (h : (BitVec.ofInt 64 m).toNat = 2 ^ i - 1) (hi : i < 63) : bits .and .i64 n m = n % 2 ^ i := by
  have key : (BitVec.ofInt 64 n &&& BitVec.ofInt 64 m).toNat = (n % ((2 ^ 64 : Nat) : Int)).toNat % 2 ^ i := by
    rw [BitVec.toNat_and, BitVec.toNat_ofInt, h, Nat.and_two_pow_sub_one_eq_mod]
  show IntKind.i64.wrap ((BitVec.ofInt 64 n &&& BitVec.ofInt 64 m).toNat : Nat) = n % 2 ^ i
  have hp : (2 : Nat) ^ i ∣ 2 ^ 64 := Nat.pow_dvd_pow 2 (by omega)
  have hlt : (2 : Nat) ^ i ≤ 2 ^ 62 := Nat.pow_le_pow_right (by decide) (by omega)
  have h0 : 0 < (2 : Nat) ^ i := Nat.two_pow_pos i
  have h1 : (((n % ((2 ^ 64 : Nat) : Int)).toNat % 2 ^ i : Nat) : Int) = n % 2 ^ i := by
    rw [Int.natCast_emod, Int.toNat_of_nonneg (Int.emod_nonneg _ (by decide))]
    have hq : ((2 : Int) ^ i) = ((2 ^ i : Nat) : Int) := by simp
    rw [hq, Int.emod_emod_of_dvd _ (Int.natCast_dvd_natCast.mpr hp)]
  rw [key, h1, IntKind.wrap_i64]
  have hq : ((2 : Int) ^ i) = ((2 ^ i : Nat) : Int) := by simp
  have h2 := Int.emod_nonneg n (b := (2 : Int) ^ i) (by rw [hq]; omega)
  have h3 := Int.emod_lt_of_pos n (b := (2 : Int) ^ i) (by rw [hq]; omega)
  have h62 : (2 : Nat) ^ 62 = 4611686018427387904 := by decide
  have h4 : (2 : Int) ^ i ≤ 4611686018427387904 := by
    rw [hq]; rw [h62] at hlt; omega
  omega
theorem and1 (n : Int) : bits .and .i64 n 1 = n % 2 := by
  exact and_pow n 1 1 (by decide) (by decide)
end Go.Proofs.YtdhpmblhejcehaaDoor
