/- What a call that prints numbers asks of the library's table. -/
import Derived.Test.YtdhpmblhejcehaaDoorDigits
namespace Go.Proofs.YtdhpmblhejcehaaDoor
set_option linter.unusedVariables false
open Go.RowKit

structure TabS (w : World) : Prop where
  tab : Lib.TabIs Tryd.prog w "internal/strconv.uint64pow10" .u64 Lib.pow10Tab
theorem TabS.below {w w' : World} (h : TabS w) (hb : Below w.heap.size w w') : TabS w' := ⟨tab_below h.tab hb⟩
end Go.Proofs.YtdhpmblhejcehaaDoor
