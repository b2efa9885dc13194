/- From a row's condition on the library's variables to what the walks ask of them. -/
import Derived.Test.YtjflnpcmjibcpaaGreatDoorTextNum
import Derived.LaidLaws
import Derived.Stop.LaidErr
namespace Go.Proofs.YtjflnpcmjibcpaaGreatDoor
set_option linter.unusedVariables false
open Go.ChangeShapes Go.WideShapes Go.ChangeAt Go.RowKit

theorem star : "*errors.errorString" = "*" ++ "errors.errorString" := by decide
theorem rowErr (u : TypeId) (h : Tryz.prog.typeName? 3 u = some "*errors.errorString") : u = 93 :=
  typeName_ptr_named (nm := "errors.errorString") (by rw [← star]; kernel_rfl) (by kernel_rfl) (by decide) u (by rw [← star]; exact h)
theorem vars_of {a b : DataW Unit} {t1 t2 : List UInt8} {w : World}
    (h : laidMet Tryz.prog [("math/bits.deBruijn32tab", a), ("math/bits.deBruijn64tab", b), ("internal/strconv.uint64pow10", Lib.tabData .u64 Lib.pow10Tab), ("strconv.ErrRange", .iface "*errors.errorString" (.ptr (.agg [.lit (.string t1)]))), ("strconv.ErrSyntax", .iface "*errors.errorString" (.ptr (.agg [.lit (.string t2)])))] w) : Vars w := by
  have h3 := h.tail.tail.tail
  obtain ⟨a1, s1, hv1, _⟩ := laid_sentinel h3 (g := 1) (ti := 63) (by kernel_rfl) (by kernel_rfl) Tryz.underlying63 rowErr Tryz.underlying93 Tryz.underlying95 rfl rfl Tryz.underlying9 (by kernel_rfl) (by kernel_rfl)
  obtain ⟨a2, s2, hv2, _⟩ := laid_sentinel h3.tail (g := 0) (ti := 63) (by kernel_rfl) (by kernel_rfl) Tryz.underlying63 rowErr Tryz.underlying93 Tryz.underlying95 rfl rfl Tryz.underlying9 (by kernel_rfl) (by kernel_rfl)
  exact ⟨tab_of h, ⟨_, _, hv2⟩, ⟨_, _, hv1⟩⟩
end Go.Proofs.YtjflnpcmjibcpaaGreatDoor
