/- What comes in reads as the document's data, by program (tools/gendeep.py). -/
import Derived.Test.YtcllifmaokldbaaDoorData
import Derived.Test.YtcllifmaokldbaaDoorArg
import Derived.Test.YtcllifmaokldbaaDoorRows
import Derived.WalkKit
import Derived.WalkSmall
import Derived.ProofKit
import Derived.OpenShut
import Derived.Lib.Hide
import Derived.Lib.SmallJoins
import Derived.StillTailTactics
import Derived.Deep.QuietTactic
import Derived.BigQuiet
import Derived.Outline
namespace Go.Proofs.YtcllifmaokldbaaDoor
set_option linter.unusedVariables false
set_option maxRecDepth 100000
open Go.ChangeShapes Go.WideShapes Go.ChangeAt Go.RowKit
section
variable {H : Type} {enc : TypeId × Value → H} {w : World} {base : Nat} {spare : Nat → Bool} {held : Bool}
theorem reads_PNode : Reads enc Tryd.prog w base spare held 50 4 PNEl := by
  intro fuel cs x b o h hl hb hc
  obtain ⟨m, hf⟩ := struct_cells Tryd.underlying50 h
  obtain ⟨x0, g0, i0⟩ := field_int hc (by rw [hl]; decide) (by kernel_rfl) Tryd.underlying3 (hf 0 _ rfl)
  obtain ⟨x1, g1, i1⟩ := field_int hc (by rw [hl]; decide) (by kernel_rfl) Tryd.underlying3 (hf 1 _ rfl)
  obtain ⟨x2, g2, i2⟩ := field_str hc (by rw [hl]; decide) (by kernel_rfl) Tryd.underlying9 (hf 2 _ rfl)
  obtain ⟨v3, x3, g3, r3⟩ := field_row hc (by rw [hl]; decide) (by kernel_rfl) Tryd.underlying39 (by kernel_rfl) (by decide) (reads_int Tryd.underlying3) (hf 3 _ rfl)
  exact ⟨⟨x0, x1, x2, x3⟩, ⟨g0, i0⟩, ⟨g1, i1⟩, ⟨g2, i2⟩, ⟨v3, g3, r3⟩⟩
theorem reads_Pat : Reads enc Tryd.prog w base spare held 24 1 PatEl := by
  intro fuel cs x b o h hl hb hc
  obtain ⟨m, hf⟩ := struct_cells Tryd.underlying24 h
  obtain ⟨v0, x0, g0, r0⟩ := field_row hc (by rw [hl]; decide) (by kernel_rfl) Tryd.underlying22 (by kernel_rfl) (by decide) reads_PNode (hf 0 _ rfl)
  exact ⟨x0, v0, g0, r0⟩
end
theorem open_PNode {w : World} {v : Value} (h : ArgIn Tryd.prog 50 w v) : ∃ (x : PN) (v3 : Value), v = .agg #[.int .i64 x.kind, .int .i64 x.n, .string x.s, v3] ∧ I64 x.kind ∧ I64 x.n ∧ x.s.size ≤ maxLen ∧ RowRd 1 IntEl w v3 x.kids := by
  obtain ⟨H, enc, base, d, ps, ho, hr⟩ := h
  obtain ⟨cs, rfl, hl, m, hf⟩ := arg_fields Tryd.underlying50 ho hr
  have hl : cs.length = 4 := hl.trans (by kernel_rfl)
  obtain ⟨x0, g0, i0⟩ := arg_int (by rw [hl]; decide) (by kernel_rfl) Tryd.underlying3 (hf 0 _ rfl)
  obtain ⟨x1, g1, i1⟩ := arg_int (by rw [hl]; decide) (by kernel_rfl) Tryd.underlying3 (hf 1 _ rfl)
  obtain ⟨x2, g2, i2⟩ := arg_str (by rw [hl]; decide) (by kernel_rfl) Tryd.underlying9 (hf 2 _ rfl)
  obtain ⟨x3, r3⟩ := arg_row (by rw [hl]; decide) (by kernel_rfl) Tryd.underlying39 (by kernel_rfl) (by decide) (reads_int Tryd.underlying3) (hf 3 _ rfl)
  match cs, hl with
  | [c0, c1, c2, c3], _ =>
    obtain rfl : c0 = _ := g0
    obtain rfl : c1 = _ := g1
    obtain rfl : c2 = _ := g2
    exact ⟨⟨x0, x1, x2, x3⟩, c3, rfl, i0, i1, i2, r3⟩
theorem open_Pat {w : World} {v : Value} (h : ArgIn Tryd.prog 24 w v) : ∃ (x : List PN) (v0 : Value), v = .agg #[v0] ∧ RowRd 4 PNEl w v0 x := by
  obtain ⟨H, enc, base, d, ps, ho, hr⟩ := h
  obtain ⟨cs, rfl, hl, m, hf⟩ := arg_fields Tryd.underlying24 ho hr
  have hl : cs.length = 1 := hl.trans (by kernel_rfl)
  obtain ⟨x0, r0⟩ := arg_row (by rw [hl]; decide) (by kernel_rfl) Tryd.underlying22 (by kernel_rfl) (by decide) reads_PNode (hf 0 _ rfl)
  match cs, hl with
  | [c0], _ =>
    exact ⟨x0, c0, rfl, r0⟩
theorem open_PNodeS {w : World} {v : Value} (h : ArgIn Tryd.prog 22 w v) : ∃ x : List PN, RowRd 4 PNEl w v x := by
  obtain ⟨H, enc, base, d, ps, ho, hr⟩ := h
  obtain ⟨a, len, cap, rfl⟩ := okWide_slice Tryd.underlying22 ho
  exact arg_slice Tryd.underlying22 (by kernel_rfl) (by decide) reads_PNode rfl hr
theorem open_IntS {w : World} {v : Value} (h : ArgIn Tryd.prog 39 w v) : ∃ x : List Int, RowRd 1 IntEl w v x := by
  obtain ⟨H, enc, base, d, ps, ho, hr⟩ := h
  obtain ⟨a, len, cap, rfl⟩ := okWide_slice Tryd.underlying39 ho
  exact arg_slice Tryd.underlying39 (by kernel_rfl) (by decide) (reads_int Tryd.underlying3) rfl hr
end Go.Proofs.YtcllifmaokldbaaDoor
