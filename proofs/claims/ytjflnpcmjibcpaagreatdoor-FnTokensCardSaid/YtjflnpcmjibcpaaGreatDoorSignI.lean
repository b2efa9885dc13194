/- The program's SignOf. -/
import Derived.Test.YtjflnpcmjibcpaaGreatDoorRows
import Derived.WalkKit
import Derived.ProofKit
import Derived.OpenShut
import Derived.Lib.Hide
namespace Go.Proofs.YtjflnpcmjibcpaaGreatDoor
set_option linter.unusedVariables false
open Go.ChangeShapes Go.WideShapes Go.ChangeAt Go.RowKit

def signS (k : Int) (s : ByteArray) : ByteArray := if k = 6 then s else ⟨#[]⟩
theorem iSignOf (k n a : Int) (s : ByteArray) (w : World) :
    Calls Tryz.prog 9 #[.agg #[.int .i64 k, .int .i64 n, .string s, .int .i64 a]] w fun e w' => e = .returned (.string (signS k s)) ∧ Below w.heap.size w w' := by
  by_cases h : k = 6
  · subst h
    go_enter Tryz.func9, Tryz.ntmps9
    go_wp2
    go_ret
    exact ⟨rfl, (Below.refl _ _).alloc (Nat.le_refl _) _⟩
  · have h1 : (k == 6) = false := by simpa using h
    have h2 : (k != 6) = true := by simpa using h
    have H := Lib.hid h
    clear h
    go_enter Tryz.func9, Tryz.ntmps9
    go_wp2
    go_ret
    exact ⟨by rw [signS, if_neg H.out]; rfl, (Below.refl _ _).alloc (Nat.le_refl _) _⟩
end Go.Proofs.YtjflnpcmjibcpaaGreatDoor
