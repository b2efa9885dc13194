/- What comes in reads as the document's data, by program (tools/gendeep.py). -/
import Derived.Test.YtpgefkdojplamaaData
import Derived.Test.YtpgefkdojplamaaArg
import Derived.Test.YtpgefkdojplamaaRows
import Derived.WalkKit
import Derived.WalkSmall
import Derived.ProofKit
import Derived.OpenShut
import Derived.Lib.Hide
import Derived.Lib.SmallJoins
import Derived.StillTailTactics
import Derived.Deep.QuietTactic
import Derived.BigQuiet
import Derived.Outline
namespace Go.Proofs.Ytpgefkdojplamaa
set_option linter.unusedVariables false
set_option maxRecDepth 100000
open Go.ChangeShapes Go.WideShapes Go.ChangeAt Go.RowKit
section
variable {H : Type} {enc : TypeId × Value → H} {w : World} {base : Nat} {spare : Nat → Bool} {held : Bool}
theorem reads_Outcome : Reads enc Try.prog w base spare held 24 4 OcEl := by
  intro fuel cs x b o h hl hb hc
  obtain ⟨m, hf⟩ := struct_cells Try.underlying24 h
  obtain ⟨x0, g0, i0⟩ := field_int hc (by rw [hl]; decide) (by kernel_rfl) Try.underlying3 (hf 0 _ rfl)
  obtain ⟨x1, g1, i1⟩ := field_int hc (by rw [hl]; decide) (by kernel_rfl) Try.underlying3 (hf 1 _ rfl)
  obtain ⟨v2, x2, g2, r2⟩ := field_row hc (by rw [hl]; decide) (by kernel_rfl) Try.underlying22 (by kernel_rfl) (by decide) (reads_str Try.underlying9) (hf 2 _ rfl)
  obtain ⟨x3, g3, i3⟩ := field_int hc (by rw [hl]; decide) (by kernel_rfl) Try.underlying3 (hf 3 _ rfl)
  exact ⟨⟨x0, x1, x2, x3⟩, ⟨g0, i0⟩, ⟨g1, i1⟩, ⟨v2, g2, r2⟩, ⟨g3, i3⟩⟩
end
theorem open_Outcome {w : World} {v : Value} (h : ArgIn Try.prog 24 w v) : ∃ (x : Oc) (v2 : Value), v = .agg #[.int .i64 x.kind, .int .i64 x.n, v2, .int .i64 x.steps] ∧ I64 x.kind ∧ I64 x.n ∧ RowRd 1 StrEl w v2 x.trace ∧ I64 x.steps := by
  obtain ⟨H, enc, base, d, ps, ho, hr⟩ := h
  obtain ⟨cs, rfl, hl, m, hf⟩ := arg_fields Try.underlying24 ho hr
  have hl : cs.length = 4 := hl.trans (by kernel_rfl)
  obtain ⟨x0, g0, i0⟩ := arg_int (by rw [hl]; decide) (by kernel_rfl) Try.underlying3 (hf 0 _ rfl)
  obtain ⟨x1, g1, i1⟩ := arg_int (by rw [hl]; decide) (by kernel_rfl) Try.underlying3 (hf 1 _ rfl)
  obtain ⟨x2, r2⟩ := arg_row (by rw [hl]; decide) (by kernel_rfl) Try.underlying22 (by kernel_rfl) (by decide) (reads_str Try.underlying9) (hf 2 _ rfl)
  obtain ⟨x3, g3, i3⟩ := arg_int (by rw [hl]; decide) (by kernel_rfl) Try.underlying3 (hf 3 _ rfl)
  match cs, hl with
  | [c0, c1, c2, c3], _ =>
    obtain rfl : c0 = _ := g0
    obtain rfl : c1 = _ := g1
    obtain rfl : c3 = _ := g3
    exact ⟨⟨x0, x1, x2, x3⟩, c2, rfl, i0, i1, r2, i3⟩
theorem open_StringS {w : World} {v : Value} (h : ArgIn Try.prog 22 w v) : ∃ x : List ByteArray, RowRd 1 StrEl w v x := by
  obtain ⟨H, enc, base, d, ps, ho, hr⟩ := h
  obtain ⟨a, len, cap, rfl⟩ := okWide_slice Try.underlying22 ho
  exact arg_slice Try.underlying22 (by kernel_rfl) (by decide) (reads_str Try.underlying9) rfl hr
end Go.Proofs.Ytpgefkdojplamaa
