
/- The model's text of a type. -/
import Derived.Test.YtcllifmaokldbaaDoorOkS
import Derived.Test.YtcllifmaokldbaaDoorPrMath
import Derived.Test.YtcllifmaokldbaaDoorDigits
namespace Go.Proofs.YtcllifmaokldbaaDoor
set_option linter.unusedVariables false
set_option maxRecDepth 100000
open Go.ChangeShapes Go.WideShapes Go.ChangeAt Go.RowKit

/-- The text of a variable. -/
def varL (v : Int) : List UInt8 := if 25 < v then [39, 122] ++ numL v else [39, UInt8.ofNat (97 + v.toNat)]
theorem numL_len (v : Int) (h0 : 0 ≤ v) (h1 : v ≤ 9999) : (numL v).length ≤ 20 := by
  unfold numL Lib.itoa
  split
  · rw [if_neg (by omega)]; exact digits_len _ (by omega)
  · simp
theorem varL_len (v : Int) (h0 : 0 ≤ v) (h1 : v ≤ 9999) : (varL v).length ≤ 22 := by
  unfold varL
  split
  · have := numL_len v h0 h1; simp; omega
  · simp
theorem prTy_len (l : List TyI) (hall : ∀ x ∈ l, itemB x = true) (f : Nat) (a : Int) (h0 : 0 ≤ a) (h : 0 ≤ endF f l a) : ((prTy varL f l a).length : Int) ≤ 40 * (endF f l a - a) := by
  obtain ⟨P, _, h1, h2, _⟩ := pr_walk varL varL_len l hall f a [] h0 h
  rw [← h1]; exact h2
/-- What PrintTy answers. -/
def prTyRes (l : List TyI) : ByteArray := if tyOkB l = true then ⟨(prTy varL (l.length + 1) l 0).toArray⟩ else ⟨#[]⟩
theorem tyOk_parts {l : List TyI} (h : tyOkB l = true) : (∀ x ∈ l, itemB x = true) ∧ l.length ≤ 200 ∧ endF (l.length + 1) l 0 = l.length := by
  unfold tyOkB at h
  simp only [Bool.and_eq_true, decide_eq_true_eq] at h
  obtain ⟨h0, h1, h2⟩ := h
  exact ⟨fun x hx => List.all_eq_true.1 h1 x hx, by omega, h2⟩
end Go.Proofs.YtcllifmaokldbaaDoor
