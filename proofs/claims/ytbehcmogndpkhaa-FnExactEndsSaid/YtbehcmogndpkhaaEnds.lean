/- Ends, both. -/
import Derived.Test.YtbehcmogndpkhaaData
import Derived.Test.YtbehcmogndpkhaaRows
namespace Go.Proofs.Ytbehcmogndpkhaa
set_option linter.unusedVariables false
set_option maxRecDepth 100000
open Go.ChangeShapes Go.WideShapes Go.ChangeAt Go.RowKit

def endsB (x : Oc) : Bool := decide (x.kind = 1) || decide (x.kind = 2)
theorem ret_b {a b : Bool} (h : a = b) : Ending.returned (.bool a) = .returned (.bool b) := by rw [h]
theorem sEndsC (x : Oc) (v2 : Value) (w : World) (h2 : RowRd 1 StrEl w v2 x.trace) (hz : bOc x ≤ 1048576) :
    Calls Try.prog 5 #[.agg #[.int .i64 x.kind, .int .i64 x.n, v2, .int .i64 x.steps]] w fun e w' => e = .returned (.bool (endsB x)) ∧ Below w.heap.size w w' := by
  obtain ⟨p, cap, rfl, -, -⟩ := h2.form
  by_cases h1 : x.kind = 1
  · have HB := Lib.hid (show endsB x = true from by simp [endsB, h1])
    rw [h1]
    go_enter Try.func5, Try.ntmps5
    go_wp2
    go_ret
    exact ⟨ret_b HB.out.symm, Joins.below_alloc1 w _⟩
  · by_cases h3 : x.kind = 2
    · have HB := Lib.hid (show endsB x = true from by simp [endsB, h3])
      rw [h3]
      go_enter Try.func5, Try.ntmps5
      go_wp2
      go_ret
      exact ⟨ret_b HB.out.symm, Joins.below_alloc1 w _⟩
    · have HB := Lib.hid (show endsB x = false from by simp [endsB, h1, h3])
      have t1 : (x.kind == 1) = false := by simpa using h1
      have t2 : (x.kind == 2) = false := by simpa using h3
      clear h1 h3
      go_enter Try.func5, Try.ntmps5
      go_wp2
      go_ret
      exact ⟨ret_b HB.out.symm, Joins.below_alloc1 w _⟩
theorem iEndsC (x : Oc) (v2 : Value) (w : World) (h2 : RowRd 1 StrEl w v2 x.trace) (hz : bOc x ≤ 1048576) :
    Calls Try.prog 7 #[.agg #[.int .i64 x.kind, .int .i64 x.n, v2, .int .i64 x.steps]] w fun e w' => e = .returned (.bool (endsB x)) ∧ Below w.heap.size w w' := by
  obtain ⟨p, cap, rfl, -, -⟩ := h2.form
  by_cases h1 : x.kind = 1
  · have HB := Lib.hid (show endsB x = true from by simp [endsB, h1])
    rw [h1]
    go_enter Try.func7, Try.ntmps7
    go_wp2
    go_ret
    exact ⟨ret_b HB.out.symm, Joins.below_alloc1 w _⟩
  · by_cases h3 : x.kind = 2
    · have HB := Lib.hid (show endsB x = true from by simp [endsB, h3])
      rw [h3]
      go_enter Try.func7, Try.ntmps7
      go_wp2
      go_ret
      exact ⟨ret_b HB.out.symm, Joins.below_alloc1 w _⟩
    · have HB := Lib.hid (show endsB x = false from by simp [endsB, h1, h3])
      have t1 : (x.kind == 1) = false := by simpa using h1
      have t2 : (x.kind == 2) = false := by simpa using h3
      clear h1 h3
      go_enter Try.func7, Try.ntmps7
      go_wp2
      go_ret
      exact ⟨ret_b HB.out.symm, Joins.below_alloc1 w _⟩
end Go.Proofs.Ytbehcmogndpkhaa
