
/- The program's check of types: the visitor, the walk, the whole. -/
import Derived.Test.YtkhemdagghlcdaaGreatDoorOkW2
namespace Go.Proofs.YtkhemdagghlcdaaGreatDoor
set_option linter.unusedVariables false
set_option maxRecDepth 100000
open Go.ChangeShapes Go.WideShapes Go.ChangeAt Go.RowKit

end Go.Proofs.YtkhemdagghlcdaaGreatDoor
