
/- The program's check of types: the visitor, the walk, the whole. -/
import Derived.Test.YtkhemdagghlcdaaOkW2
namespace Go.Proofs.Ytkhemdagghlcdaa
set_option linter.unusedVariables false
set_option maxRecDepth 100000
open Go.ChangeShapes Go.WideShapes Go.ChangeAt Go.RowKit

end Go.Proofs.Ytkhemdagghlcdaa
