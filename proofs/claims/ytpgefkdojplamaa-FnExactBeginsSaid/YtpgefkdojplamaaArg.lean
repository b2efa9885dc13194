/- What a walk is told of an argument: its form fits its type, and it reads as data. -/
import Derived.WalkKit
import Derived.ProofKit
import Derived.OpenShut
import Derived.ShutString
import Derived.Lib.SmallJoins
namespace Go.Proofs.Ytpgefkdojplamaa
set_option linter.unusedVariables false
open Go.ChangeShapes Go.WideShapes Go.ChangeAt Go.RowKit

def ArgIn (P : Program) (t : TypeId) (w : World) (v : Value) : Prop :=
  ∃ (H : Type) (enc : TypeId × Value → H) (base : Nat) (d : DataW H) (ps : List MemPlace), Value.okWide P w .any base t v ∧ DataW.Trod enc P w 0 (fun _ => true) true t v d ps
/-- A string that came in. -/
theorem ArgIn.str {P : Program} {t : TypeId} {w : World} {v : Value} (ht : P.underlying t = some .string) (h : ArgIn P t w v) : ∃ s : ByteArray, v = .string s ∧ s.size ≤ maxLen := by
  obtain ⟨H, enc, base, d, ps, ho, hr⟩ := h
  obtain ⟨a0, rfl, rfl, rfl, w0⟩ := Go.ChangeMaps.open_string ht ho hr
  exact ⟨a0, rfl, w0⟩
theorem ArgIn.int {P : Program} {t : TypeId} {k : IntKind} {w : World} {v : Value} (ht : P.underlying t = some (.int k)) (h : ArgIn P t w v) : ∃ n : Int, v = .int k n ∧ (Lit.int k n).wf = true := by
  obtain ⟨H, enc, base, d, ps, ho, hr⟩ := h
  obtain ⟨a0, rfl, rfl, rfl, w0⟩ := open_int ht ho hr
  exact ⟨a0, rfl, w0⟩
end Go.Proofs.Ytpgefkdojplamaa
