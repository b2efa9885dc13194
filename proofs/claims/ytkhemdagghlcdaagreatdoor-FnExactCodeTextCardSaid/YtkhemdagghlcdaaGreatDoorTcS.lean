/- The model's printed form of code. -/
import Derived.Test.YtkhemdagghlcdaaGreatDoorCdT
import Derived.Test.YtkhemdagghlcdaaGreatDoorTcMath
import Derived.Test.YtkhemdagghlcdaaGreatDoorQuote
import Derived.Test.YtkhemdagghlcdaaGreatDoorTake
namespace Go.Proofs.YtkhemdagghlcdaaGreatDoor
set_option linter.unusedVariables false
set_option maxRecDepth 100000
open Go.ChangeShapes Go.WideShapes Go.ChangeAt Go.RowKit

set_option maxHeartbeats 4000000 in
theorem sOpName (k : Int) (w : World) (h0 : 0 ≤ k) (h1 : k ≤ 25) :
    Calls Tryz.prog 13 #[.int .i64 k] w fun e w' => e = .returned (.string ⟨(opT k.toNat).toArray⟩) ∧ Below w.heap.size w w' := by
  have hk : k = 0 ∨ k = 1 ∨ k = 2 ∨ k = 3 ∨ k = 4 ∨ k = 5 ∨ k = 6 ∨ k = 7 ∨ k = 8 ∨ k = 9 ∨ k = 10 ∨ k = 11 ∨ k = 12 ∨ k = 13 ∨ k = 14 ∨ k = 15 ∨ k = 16 ∨ k = 17 ∨ k = 18 ∨ k = 19 ∨ k = 20 ∨ k = 21 ∨ k = 22 ∨ k = 23 ∨ k = 24 ∨ k = 25 := by omega
  clear h0 h1
  rcases hk with rfl | rfl | rfl | rfl | rfl | rfl | rfl | rfl | rfl | rfl | rfl | rfl | rfl | rfl | rfl | rfl | rfl | rfl | rfl | rfl | rfl | rfl | rfl | rfl | rfl | rfl
  all_goals
    go_enter Tryz.func13, Tryz.ntmps13
    go_wp2
    go_ret
    exact ⟨rfl, Joins.below_alloc1 w _⟩
end Go.Proofs.YtkhemdagghlcdaaGreatDoor
