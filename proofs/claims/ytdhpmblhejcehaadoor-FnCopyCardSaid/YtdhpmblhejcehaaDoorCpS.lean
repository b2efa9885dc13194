
/- The model's moving of a value into the new heap. -/
import Derived.Test.YtdhpmblhejcehaaDoorCpMath
import Derived.Test.YtdhpmblhejcehaaDoorHpW
import Derived.Test.YtdhpmblhejcehaaDoorHpLaw
namespace Go.Proofs.YtdhpmblhejcehaaDoor
set_option linter.unusedVariables false
set_option maxRecDepth 100000
open Go.ChangeShapes Go.WideShapes Go.ChangeAt Go.RowKit

/-- Cells of places. -/
def oc (o : List Nat) : List Value := o.map fun (x : Nat) => Value.int .i64 (x : Int)
/-- Only what the copying owns has changed. -/
def KeptTo (t g : Nat) (ov : Value) (w w' : World) : Prop := ∀ b, b < w.heap.size → b ≠ t → b ≠ g → ov.ownBlock ≠ some b → w'.heap[b]? = w.heap[b]?
theorem KeptTo.of_below {t g : Nat} {ov : Value} {w w' : World} (hb : Below w.heap.size w w') : KeptTo t g ov w w' := fun b hb' _ _ _ => hb.block b hb'
theorem oc_length (o : List Nat) : (oc o).length = o.length := by simp [oc]
theorem oc_snoc (o : List Nat) (x : Nat) : oc (o ++ [x]) = oc o ++ [Value.int .i64 (x : Int)] := by simp [oc]
end Go.Proofs.YtdhpmblhejcehaaDoor
