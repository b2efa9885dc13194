/- What comes in reads as the document's data, by program (tools/gendeep.py). -/
import Derived.Test.YtkhemdagghlcdaaGreatDoorData
import Derived.Test.YtkhemdagghlcdaaGreatDoorArg
import Derived.Test.YtkhemdagghlcdaaGreatDoorRows
import Derived.WalkKit
import Derived.WalkSmall
import Derived.ProofKit
import Derived.OpenShut
import Derived.Lib.Hide
import Derived.Lib.SmallJoins
import Derived.StillTailTactics
import Derived.Deep.QuietTactic
import Derived.BigQuiet
import Derived.Outline
namespace Go.Proofs.YtkhemdagghlcdaaGreatDoor
set_option linter.unusedVariables false
set_option maxRecDepth 100000
open Go.ChangeShapes Go.WideShapes Go.ChangeAt Go.RowKit
section
variable {H : Type} {enc : TypeId × Value → H} {w : World} {base : Nat} {spare : Nat → Bool} {held : Bool}
theorem reads_PNode : Reads enc Tryz.prog w base spare held 104 4 PNEl := by
  intro fuel cs x b o h hl hb hc
  obtain ⟨m, hf⟩ := struct_cells Tryz.underlying104 h
  obtain ⟨x0, g0, i0⟩ := field_int hc (by rw [hl]; decide) (by kernel_rfl) Tryz.underlying3 (hf 0 _ rfl)
  obtain ⟨x1, g1, i1⟩ := field_int hc (by rw [hl]; decide) (by kernel_rfl) Tryz.underlying3 (hf 1 _ rfl)
  obtain ⟨x2, g2, i2⟩ := field_str hc (by rw [hl]; decide) (by kernel_rfl) Tryz.underlying9 (hf 2 _ rfl)
  obtain ⟨v3, x3, g3, r3⟩ := field_row hc (by rw [hl]; decide) (by kernel_rfl) Tryz.underlying83 (by kernel_rfl) (by decide) (reads_int Tryz.underlying3) (hf 3 _ rfl)
  exact ⟨⟨x0, x1, x2, x3⟩, ⟨g0, i0⟩, ⟨g1, i1⟩, ⟨g2, i2⟩, ⟨v3, g3, r3⟩⟩
theorem reads_Pat : Reads enc Tryz.prog w base spare held 56 1 PatEl := by
  intro fuel cs x b o h hl hb hc
  obtain ⟨m, hf⟩ := struct_cells Tryz.underlying56 h
  obtain ⟨v0, x0, g0, r0⟩ := field_row hc (by rw [hl]; decide) (by kernel_rfl) Tryz.underlying54 (by kernel_rfl) (by decide) reads_PNode (hf 0 _ rfl)
  exact ⟨x0, v0, g0, r0⟩
theorem reads_Ins : Reads enc Tryz.prog w base spare held 52 4 InsEl := by
  intro fuel cs x b o h hl hb hc
  obtain ⟨m, hf⟩ := struct_cells Tryz.underlying52 h
  obtain ⟨x0, g0, i0⟩ := field_int hc (by rw [hl]; decide) (by kernel_rfl) Tryz.underlying3 (hf 0 _ rfl)
  obtain ⟨x1, g1, i1⟩ := field_int hc (by rw [hl]; decide) (by kernel_rfl) Tryz.underlying3 (hf 1 _ rfl)
  obtain ⟨x2, g2, i2⟩ := field_int hc (by rw [hl]; decide) (by kernel_rfl) Tryz.underlying3 (hf 2 _ rfl)
  obtain ⟨x3, g3, i3⟩ := field_str hc (by rw [hl]; decide) (by kernel_rfl) Tryz.underlying9 (hf 3 _ rfl)
  exact ⟨⟨x0, x1, x2, x3⟩, ⟨g0, i0⟩, ⟨g1, i1⟩, ⟨g2, i2⟩, ⟨g3, i3⟩⟩
theorem reads_Code : Reads enc Tryz.prog w base spare held 25 2 CdEl := by
  intro fuel cs x b o h hl hb hc
  obtain ⟨m, hf⟩ := struct_cells Tryz.underlying25 h
  obtain ⟨v0, x0, g0, r0⟩ := field_row hc (by rw [hl]; decide) (by kernel_rfl) Tryz.underlying22 (by kernel_rfl) (by decide) reads_Ins (hf 0 _ rfl)
  obtain ⟨v1, x1, g1, r1⟩ := field_row hc (by rw [hl]; decide) (by kernel_rfl) Tryz.underlying23 (by kernel_rfl) (by decide) reads_Pat (hf 1 _ rfl)
  exact ⟨⟨x0, x1⟩, ⟨v0, g0, r0⟩, ⟨v1, g1, r1⟩⟩
end
theorem open_PNode {w : World} {v : Value} (h : ArgIn Tryz.prog 104 w v) : ∃ (x : PN) (v3 : Value), v = .agg #[.int .i64 x.kind, .int .i64 x.n, .string x.s, v3] ∧ I64 x.kind ∧ I64 x.n ∧ x.s.size ≤ maxLen ∧ RowRd 1 IntEl w v3 x.kids := by
  obtain ⟨H, enc, base, d, ps, ho, hr⟩ := h
  obtain ⟨cs, rfl, hl, m, hf⟩ := arg_fields Tryz.underlying104 ho hr
  have hl : cs.length = 4 := hl.trans (by kernel_rfl)
  obtain ⟨x0, g0, i0⟩ := arg_int (by rw [hl]; decide) (by kernel_rfl) Tryz.underlying3 (hf 0 _ rfl)
  obtain ⟨x1, g1, i1⟩ := arg_int (by rw [hl]; decide) (by kernel_rfl) Tryz.underlying3 (hf 1 _ rfl)
  obtain ⟨x2, g2, i2⟩ := arg_str (by rw [hl]; decide) (by kernel_rfl) Tryz.underlying9 (hf 2 _ rfl)
  obtain ⟨x3, r3⟩ := arg_row (by rw [hl]; decide) (by kernel_rfl) Tryz.underlying83 (by kernel_rfl) (by decide) (reads_int Tryz.underlying3) (hf 3 _ rfl)
  match cs, hl with
  | [c0, c1, c2, c3], _ =>
    obtain rfl : c0 = _ := g0
    obtain rfl : c1 = _ := g1
    obtain rfl : c2 = _ := g2
    exact ⟨⟨x0, x1, x2, x3⟩, c3, rfl, i0, i1, i2, r3⟩
theorem open_Pat {w : World} {v : Value} (h : ArgIn Tryz.prog 56 w v) : ∃ (x : List PN) (v0 : Value), v = .agg #[v0] ∧ RowRd 4 PNEl w v0 x := by
  obtain ⟨H, enc, base, d, ps, ho, hr⟩ := h
  obtain ⟨cs, rfl, hl, m, hf⟩ := arg_fields Tryz.underlying56 ho hr
  have hl : cs.length = 1 := hl.trans (by kernel_rfl)
  obtain ⟨x0, r0⟩ := arg_row (by rw [hl]; decide) (by kernel_rfl) Tryz.underlying54 (by kernel_rfl) (by decide) reads_PNode (hf 0 _ rfl)
  match cs, hl with
  | [c0], _ =>
    exact ⟨x0, c0, rfl, r0⟩
theorem open_Ins {w : World} {v : Value} (h : ArgIn Tryz.prog 52 w v) : ∃ (x : Ins_), v = .agg #[.int .i64 x.op, .int .i64 x.a, .int .i64 x.b, .string x.s] ∧ I64 x.op ∧ I64 x.a ∧ I64 x.b ∧ x.s.size ≤ maxLen := by
  obtain ⟨H, enc, base, d, ps, ho, hr⟩ := h
  obtain ⟨cs, rfl, hl, m, hf⟩ := arg_fields Tryz.underlying52 ho hr
  have hl : cs.length = 4 := hl.trans (by kernel_rfl)
  obtain ⟨x0, g0, i0⟩ := arg_int (by rw [hl]; decide) (by kernel_rfl) Tryz.underlying3 (hf 0 _ rfl)
  obtain ⟨x1, g1, i1⟩ := arg_int (by rw [hl]; decide) (by kernel_rfl) Tryz.underlying3 (hf 1 _ rfl)
  obtain ⟨x2, g2, i2⟩ := arg_int (by rw [hl]; decide) (by kernel_rfl) Tryz.underlying3 (hf 2 _ rfl)
  obtain ⟨x3, g3, i3⟩ := arg_str (by rw [hl]; decide) (by kernel_rfl) Tryz.underlying9 (hf 3 _ rfl)
  match cs, hl with
  | [c0, c1, c2, c3], _ =>
    obtain rfl : c0 = _ := g0
    obtain rfl : c1 = _ := g1
    obtain rfl : c2 = _ := g2
    obtain rfl : c3 = _ := g3
    exact ⟨⟨x0, x1, x2, x3⟩, rfl, i0, i1, i2, i3⟩
theorem open_Code {w : World} {v : Value} (h : ArgIn Tryz.prog 25 w v) : ∃ (x : Cd) (v0 : Value) (v1 : Value), v = .agg #[v0, v1] ∧ RowRd 4 InsEl w v0 x.ins ∧ RowRd 1 PatEl w v1 x.pats := by
  obtain ⟨H, enc, base, d, ps, ho, hr⟩ := h
  obtain ⟨cs, rfl, hl, m, hf⟩ := arg_fields Tryz.underlying25 ho hr
  have hl : cs.length = 2 := hl.trans (by kernel_rfl)
  obtain ⟨x0, r0⟩ := arg_row (by rw [hl]; decide) (by kernel_rfl) Tryz.underlying22 (by kernel_rfl) (by decide) reads_Ins (hf 0 _ rfl)
  obtain ⟨x1, r1⟩ := arg_row (by rw [hl]; decide) (by kernel_rfl) Tryz.underlying23 (by kernel_rfl) (by decide) reads_Pat (hf 1 _ rfl)
  match cs, hl with
  | [c0, c1], _ =>
    exact ⟨⟨x0, x1⟩, c0, c1, rfl, r0, r1⟩
theorem open_PNodeS {w : World} {v : Value} (h : ArgIn Tryz.prog 54 w v) : ∃ x : List PN, RowRd 4 PNEl w v x := by
  obtain ⟨H, enc, base, d, ps, ho, hr⟩ := h
  obtain ⟨a, len, cap, rfl⟩ := okWide_slice Tryz.underlying54 ho
  exact arg_slice Tryz.underlying54 (by kernel_rfl) (by decide) reads_PNode rfl hr
theorem open_PatS {w : World} {v : Value} (h : ArgIn Tryz.prog 23 w v) : ∃ x : List (List PN), RowRd 1 PatEl w v x := by
  obtain ⟨H, enc, base, d, ps, ho, hr⟩ := h
  obtain ⟨a, len, cap, rfl⟩ := okWide_slice Tryz.underlying23 ho
  exact arg_slice Tryz.underlying23 (by kernel_rfl) (by decide) reads_Pat rfl hr
theorem open_InsS {w : World} {v : Value} (h : ArgIn Tryz.prog 22 w v) : ∃ x : List Ins_, RowRd 4 InsEl w v x := by
  obtain ⟨H, enc, base, d, ps, ho, hr⟩ := h
  obtain ⟨a, len, cap, rfl⟩ := okWide_slice Tryz.underlying22 ho
  exact arg_slice Tryz.underlying22 (by kernel_rfl) (by decide) reads_Ins rfl hr
theorem open_IntS {w : World} {v : Value} (h : ArgIn Tryz.prog 83 w v) : ∃ x : List Int, RowRd 1 IntEl w v x := by
  obtain ⟨H, enc, base, d, ps, ho, hr⟩ := h
  obtain ⟨a, len, cap, rfl⟩ := okWide_slice Tryz.underlying83 ho
  exact arg_slice Tryz.underlying83 (by kernel_rfl) (by decide) (reads_int Tryz.underlying3) rfl hr
end Go.Proofs.YtkhemdagghlcdaaGreatDoor
