
/- Contracts of the word functions of the program and of its model. -/
import Derived.Test.YtdhpmblhejcehaaDoorRows
import Derived.Test.YtdhpmblhejcehaaDoorTextMath
import Derived.WalkKit
import Derived.ProofKit
import Derived.OpenShut
import Derived.Lib.Hide
namespace Go.Proofs.YtdhpmblhejcehaaDoor
set_option linter.unusedVariables false
open Go.ChangeShapes Go.WideShapes Go.ChangeAt Go.RowKit

theorem ret_int' {k : IntKind} {a b : Int} (h : a = b) : Ending.returned (.int k a) = .returned (.int k b) := by rw [h]
theorem ret_bool {a b : Bool} (h : a = b) : Ending.returned (.bool a) = .returned (.bool b) := by rw [h]

theorem byte_bd (c : UInt8) : 0 ≤ (c.toNat : Int) ∧ (c.toNat : Int) ≤ 255 := by have := c.toNat_lt; omega

theorem word_pos (s : ByteArray) (h : wordB s = true) : 0 < s.size := by
  simp [wordB, lenB] at h; omega
end Go.Proofs.YtdhpmblhejcehaaDoor
