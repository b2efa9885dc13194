/- What comes in reads as the document's data, by program (tools/gendeep.py). -/
import Derived.Test.YtilincaedjhnpaaGreatData
import Derived.Test.YtilincaedjhnpaaGreatArg
import Derived.Test.YtilincaedjhnpaaGreatRows
import Derived.WalkKit
import Derived.WalkSmall
import Derived.ProofKit
import Derived.OpenShut
import Derived.Lib.Hide
import Derived.Lib.SmallJoins
import Derived.StillTailTactics
import Derived.Deep.QuietTactic
import Derived.BigQuiet
import Derived.Outline
namespace Go.Proofs.YtilincaedjhnpaaGreat
set_option linter.unusedVariables false
set_option maxRecDepth 100000
open Go.ChangeShapes Go.WideShapes Go.ChangeAt Go.RowKit
section
variable {H : Type} {enc : TypeId × Value → H} {w : World} {base : Nat} {spare : Nat → Bool} {held : Bool}
theorem reads_TyItem : Reads enc Tryz.prog w base spare held 164 3 TyIEl := by
  intro fuel cs x b o h hl hb hc
  obtain ⟨m, hf⟩ := struct_cells Tryz.underlying164 h
  obtain ⟨x0, g0, i0⟩ := field_int hc (by rw [hl]; decide) (by kernel_rfl) Tryz.underlying3 (hf 0 _ rfl)
  obtain ⟨x1, g1, i1⟩ := field_str hc (by rw [hl]; decide) (by kernel_rfl) Tryz.underlying9 (hf 1 _ rfl)
  obtain ⟨x2, g2, i2⟩ := field_int hc (by rw [hl]; decide) (by kernel_rfl) Tryz.underlying3 (hf 2 _ rfl)
  exact ⟨⟨x0, x1, x2⟩, ⟨g0, i0⟩, ⟨g1, i1⟩, ⟨g2, i2⟩⟩
theorem reads_Ty : Reads enc Tryz.prog w base spare held 112 1 TyEl := by
  intro fuel cs x b o h hl hb hc
  obtain ⟨m, hf⟩ := struct_cells Tryz.underlying112 h
  obtain ⟨v0, x0, g0, r0⟩ := field_row hc (by rw [hl]; decide) (by kernel_rfl) Tryz.underlying110 (by kernel_rfl) (by decide) reads_TyItem (hf 0 _ rfl)
  exact ⟨x0, v0, g0, r0⟩
theorem reads_PNode : Reads enc Tryz.prog w base spare held 151 4 PNEl := by
  intro fuel cs x b o h hl hb hc
  obtain ⟨m, hf⟩ := struct_cells Tryz.underlying151 h
  obtain ⟨x0, g0, i0⟩ := field_int hc (by rw [hl]; decide) (by kernel_rfl) Tryz.underlying3 (hf 0 _ rfl)
  obtain ⟨x1, g1, i1⟩ := field_int hc (by rw [hl]; decide) (by kernel_rfl) Tryz.underlying3 (hf 1 _ rfl)
  obtain ⟨x2, g2, i2⟩ := field_str hc (by rw [hl]; decide) (by kernel_rfl) Tryz.underlying9 (hf 2 _ rfl)
  obtain ⟨v3, x3, g3, r3⟩ := field_row hc (by rw [hl]; decide) (by kernel_rfl) Tryz.underlying51 (by kernel_rfl) (by decide) (reads_int Tryz.underlying3) (hf 3 _ rfl)
  exact ⟨⟨x0, x1, x2, x3⟩, ⟨g0, i0⟩, ⟨g1, i1⟩, ⟨g2, i2⟩, ⟨v3, g3, r3⟩⟩
theorem reads_Pat : Reads enc Tryz.prog w base spare held 118 1 PatEl := by
  intro fuel cs x b o h hl hb hc
  obtain ⟨m, hf⟩ := struct_cells Tryz.underlying118 h
  obtain ⟨v0, x0, g0, r0⟩ := field_row hc (by rw [hl]; decide) (by kernel_rfl) Tryz.underlying116 (by kernel_rfl) (by decide) reads_PNode (hf 0 _ rfl)
  exact ⟨x0, v0, g0, r0⟩
theorem reads_Con : Reads enc Tryz.prog w base spare held 114 3 CnEl := by
  intro fuel cs x b o h hl hb hc
  obtain ⟨m, hf⟩ := struct_cells Tryz.underlying114 h
  obtain ⟨x0, g0, i0⟩ := field_str hc (by rw [hl]; decide) (by kernel_rfl) Tryz.underlying9 (hf 0 _ rfl)
  obtain ⟨x1, g1⟩ := field_bool hc (by rw [hl]; decide) (by kernel_rfl) Tryz.underlying4 (hf 1 _ rfl)
  obtain ⟨x2, g2⟩ := field_st (n := 1) hb hc (by rw [hl]; decide) (by kernel_rfl) reads_Ty (hf 2 _ rfl)
  exact ⟨⟨x0, x1, x2⟩, ⟨g0, i0⟩, g1, g2⟩
theorem reads_Type : Reads enc Tryz.prog w base spare held 49 3 TpEl := by
  intro fuel cs x b o h hl hb hc
  obtain ⟨m, hf⟩ := struct_cells Tryz.underlying49 h
  obtain ⟨x0, g0, i0⟩ := field_str hc (by rw [hl]; decide) (by kernel_rfl) Tryz.underlying9 (hf 0 _ rfl)
  obtain ⟨x1, g1, i1⟩ := field_int hc (by rw [hl]; decide) (by kernel_rfl) Tryz.underlying3 (hf 1 _ rfl)
  obtain ⟨v2, x2, g2, r2⟩ := field_row hc (by rw [hl]; decide) (by kernel_rfl) Tryz.underlying47 (by kernel_rfl) (by decide) reads_Con (hf 2 _ rfl)
  exact ⟨⟨x0, x1, x2⟩, ⟨g0, i0⟩, ⟨g1, i1⟩, ⟨v2, g2, r2⟩⟩
theorem reads_Node : Reads enc Tryz.prog w base spare held 54 6 NdEl := by
  intro fuel cs x b o h hl hb hc
  obtain ⟨m, hf⟩ := struct_cells Tryz.underlying54 h
  obtain ⟨x0, g0, i0⟩ := field_int hc (by rw [hl]; decide) (by kernel_rfl) Tryz.underlying3 (hf 0 _ rfl)
  obtain ⟨x1, g1, i1⟩ := field_int hc (by rw [hl]; decide) (by kernel_rfl) Tryz.underlying3 (hf 1 _ rfl)
  obtain ⟨x2, g2, i2⟩ := field_int hc (by rw [hl]; decide) (by kernel_rfl) Tryz.underlying3 (hf 2 _ rfl)
  obtain ⟨x3, g3, i3⟩ := field_str hc (by rw [hl]; decide) (by kernel_rfl) Tryz.underlying9 (hf 3 _ rfl)
  obtain ⟨v4, x4, g4, r4⟩ := field_row hc (by rw [hl]; decide) (by kernel_rfl) Tryz.underlying51 (by kernel_rfl) (by decide) (reads_int Tryz.underlying3) (hf 4 _ rfl)
  obtain ⟨v5, x5, g5, r5⟩ := field_row hc (by rw [hl]; decide) (by kernel_rfl) Tryz.underlying52 (by kernel_rfl) (by decide) reads_Pat (hf 5 _ rfl)
  exact ⟨⟨x0, x1, x2, x3, x4, x5⟩, ⟨g0, i0⟩, ⟨g1, i1⟩, ⟨g2, i2⟩, ⟨g3, i3⟩, ⟨v4, g4, r4⟩, ⟨v5, g5, r5⟩⟩
theorem reads_Program : Reads enc Tryz.prog w base spare held 25 2 PgEl := by
  intro fuel cs x b o h hl hb hc
  obtain ⟨m, hf⟩ := struct_cells Tryz.underlying25 h
  obtain ⟨v0, x0, g0, r0⟩ := field_row hc (by rw [hl]; decide) (by kernel_rfl) Tryz.underlying22 (by kernel_rfl) (by decide) reads_Type (hf 0 _ rfl)
  obtain ⟨v1, x1, g1, r1⟩ := field_row hc (by rw [hl]; decide) (by kernel_rfl) Tryz.underlying23 (by kernel_rfl) (by decide) reads_Node (hf 1 _ rfl)
  exact ⟨⟨x0, x1⟩, ⟨v0, g0, r0⟩, ⟨v1, g1, r1⟩⟩
end
theorem open_TyItem {w : World} {v : Value} (h : ArgIn Tryz.prog 164 w v) : ∃ (x : TyI), v = .agg #[.int .i64 x.var, .string x.name, .int .i64 x.arity] ∧ I64 x.var ∧ x.name.size ≤ maxLen ∧ I64 x.arity := by
  obtain ⟨H, enc, base, d, ps, ho, hr⟩ := h
  obtain ⟨cs, rfl, hl, m, hf⟩ := arg_fields Tryz.underlying164 ho hr
  have hl : cs.length = 3 := hl.trans (by kernel_rfl)
  obtain ⟨x0, g0, i0⟩ := arg_int (by rw [hl]; decide) (by kernel_rfl) Tryz.underlying3 (hf 0 _ rfl)
  obtain ⟨x1, g1, i1⟩ := arg_str (by rw [hl]; decide) (by kernel_rfl) Tryz.underlying9 (hf 1 _ rfl)
  obtain ⟨x2, g2, i2⟩ := arg_int (by rw [hl]; decide) (by kernel_rfl) Tryz.underlying3 (hf 2 _ rfl)
  match cs, hl with
  | [c0, c1, c2], _ =>
    obtain rfl : c0 = _ := g0
    obtain rfl : c1 = _ := g1
    obtain rfl : c2 = _ := g2
    exact ⟨⟨x0, x1, x2⟩, rfl, i0, i1, i2⟩
theorem open_Ty {w : World} {v : Value} (h : ArgIn Tryz.prog 112 w v) : ∃ (x : List TyI) (v0 : Value), v = .agg #[v0] ∧ RowRd 3 TyIEl w v0 x := by
  obtain ⟨H, enc, base, d, ps, ho, hr⟩ := h
  obtain ⟨cs, rfl, hl, m, hf⟩ := arg_fields Tryz.underlying112 ho hr
  have hl : cs.length = 1 := hl.trans (by kernel_rfl)
  obtain ⟨x0, r0⟩ := arg_row (by rw [hl]; decide) (by kernel_rfl) Tryz.underlying110 (by kernel_rfl) (by decide) reads_TyItem (hf 0 _ rfl)
  match cs, hl with
  | [c0], _ =>
    exact ⟨x0, c0, rfl, r0⟩
theorem open_PNode {w : World} {v : Value} (h : ArgIn Tryz.prog 151 w v) : ∃ (x : PN) (v3 : Value), v = .agg #[.int .i64 x.kind, .int .i64 x.n, .string x.s, v3] ∧ I64 x.kind ∧ I64 x.n ∧ x.s.size ≤ maxLen ∧ RowRd 1 IntEl w v3 x.kids := by
  obtain ⟨H, enc, base, d, ps, ho, hr⟩ := h
  obtain ⟨cs, rfl, hl, m, hf⟩ := arg_fields Tryz.underlying151 ho hr
  have hl : cs.length = 4 := hl.trans (by kernel_rfl)
  obtain ⟨x0, g0, i0⟩ := arg_int (by rw [hl]; decide) (by kernel_rfl) Tryz.underlying3 (hf 0 _ rfl)
  obtain ⟨x1, g1, i1⟩ := arg_int (by rw [hl]; decide) (by kernel_rfl) Tryz.underlying3 (hf 1 _ rfl)
  obtain ⟨x2, g2, i2⟩ := arg_str (by rw [hl]; decide) (by kernel_rfl) Tryz.underlying9 (hf 2 _ rfl)
  obtain ⟨x3, r3⟩ := arg_row (by rw [hl]; decide) (by kernel_rfl) Tryz.underlying51 (by kernel_rfl) (by decide) (reads_int Tryz.underlying3) (hf 3 _ rfl)
  match cs, hl with
  | [c0, c1, c2, c3], _ =>
    obtain rfl : c0 = _ := g0
    obtain rfl : c1 = _ := g1
    obtain rfl : c2 = _ := g2
    exact ⟨⟨x0, x1, x2, x3⟩, c3, rfl, i0, i1, i2, r3⟩
theorem open_Pat {w : World} {v : Value} (h : ArgIn Tryz.prog 118 w v) : ∃ (x : List PN) (v0 : Value), v = .agg #[v0] ∧ RowRd 4 PNEl w v0 x := by
  obtain ⟨H, enc, base, d, ps, ho, hr⟩ := h
  obtain ⟨cs, rfl, hl, m, hf⟩ := arg_fields Tryz.underlying118 ho hr
  have hl : cs.length = 1 := hl.trans (by kernel_rfl)
  obtain ⟨x0, r0⟩ := arg_row (by rw [hl]; decide) (by kernel_rfl) Tryz.underlying116 (by kernel_rfl) (by decide) reads_PNode (hf 0 _ rfl)
  match cs, hl with
  | [c0], _ =>
    exact ⟨x0, c0, rfl, r0⟩
theorem open_Type {w : World} {v : Value} (h : ArgIn Tryz.prog 49 w v) : ∃ (x : Tp) (v2 : Value), v = .agg #[.string x.name, .int .i64 x.params, v2] ∧ x.name.size ≤ maxLen ∧ I64 x.params ∧ RowRd 3 CnEl w v2 x.cons := by
  obtain ⟨H, enc, base, d, ps, ho, hr⟩ := h
  obtain ⟨cs, rfl, hl, m, hf⟩ := arg_fields Tryz.underlying49 ho hr
  have hl : cs.length = 3 := hl.trans (by kernel_rfl)
  obtain ⟨x0, g0, i0⟩ := arg_str (by rw [hl]; decide) (by kernel_rfl) Tryz.underlying9 (hf 0 _ rfl)
  obtain ⟨x1, g1, i1⟩ := arg_int (by rw [hl]; decide) (by kernel_rfl) Tryz.underlying3 (hf 1 _ rfl)
  obtain ⟨x2, r2⟩ := arg_row (by rw [hl]; decide) (by kernel_rfl) Tryz.underlying47 (by kernel_rfl) (by decide) reads_Con (hf 2 _ rfl)
  match cs, hl with
  | [c0, c1, c2], _ =>
    obtain rfl : c0 = _ := g0
    obtain rfl : c1 = _ := g1
    exact ⟨⟨x0, x1, x2⟩, c2, rfl, i0, i1, r2⟩
theorem open_Node {w : World} {v : Value} (h : ArgIn Tryz.prog 54 w v) : ∃ (x : Nd) (v4 : Value) (v5 : Value), v = .agg #[.int .i64 x.kind, .int .i64 x.at_, .int .i64 x.n, .string x.s, v4, v5] ∧ I64 x.kind ∧ I64 x.at_ ∧ I64 x.n ∧ x.s.size ≤ maxLen ∧ RowRd 1 IntEl w v4 x.kids ∧ RowRd 1 PatEl w v5 x.pats := by
  obtain ⟨H, enc, base, d, ps, ho, hr⟩ := h
  obtain ⟨cs, rfl, hl, m, hf⟩ := arg_fields Tryz.underlying54 ho hr
  have hl : cs.length = 6 := hl.trans (by kernel_rfl)
  obtain ⟨x0, g0, i0⟩ := arg_int (by rw [hl]; decide) (by kernel_rfl) Tryz.underlying3 (hf 0 _ rfl)
  obtain ⟨x1, g1, i1⟩ := arg_int (by rw [hl]; decide) (by kernel_rfl) Tryz.underlying3 (hf 1 _ rfl)
  obtain ⟨x2, g2, i2⟩ := arg_int (by rw [hl]; decide) (by kernel_rfl) Tryz.underlying3 (hf 2 _ rfl)
  obtain ⟨x3, g3, i3⟩ := arg_str (by rw [hl]; decide) (by kernel_rfl) Tryz.underlying9 (hf 3 _ rfl)
  obtain ⟨x4, r4⟩ := arg_row (by rw [hl]; decide) (by kernel_rfl) Tryz.underlying51 (by kernel_rfl) (by decide) (reads_int Tryz.underlying3) (hf 4 _ rfl)
  obtain ⟨x5, r5⟩ := arg_row (by rw [hl]; decide) (by kernel_rfl) Tryz.underlying52 (by kernel_rfl) (by decide) reads_Pat (hf 5 _ rfl)
  match cs, hl with
  | [c0, c1, c2, c3, c4, c5], _ =>
    obtain rfl : c0 = _ := g0
    obtain rfl : c1 = _ := g1
    obtain rfl : c2 = _ := g2
    obtain rfl : c3 = _ := g3
    exact ⟨⟨x0, x1, x2, x3, x4, x5⟩, c4, c5, rfl, i0, i1, i2, i3, r4, r5⟩
theorem open_Program {w : World} {v : Value} (h : ArgIn Tryz.prog 25 w v) : ∃ (x : Pg) (v0 : Value) (v1 : Value), v = .agg #[v0, v1] ∧ RowRd 3 TpEl w v0 x.types ∧ RowRd 6 NdEl w v1 x.nodes := by
  obtain ⟨H, enc, base, d, ps, ho, hr⟩ := h
  obtain ⟨cs, rfl, hl, m, hf⟩ := arg_fields Tryz.underlying25 ho hr
  have hl : cs.length = 2 := hl.trans (by kernel_rfl)
  obtain ⟨x0, r0⟩ := arg_row (by rw [hl]; decide) (by kernel_rfl) Tryz.underlying22 (by kernel_rfl) (by decide) reads_Type (hf 0 _ rfl)
  obtain ⟨x1, r1⟩ := arg_row (by rw [hl]; decide) (by kernel_rfl) Tryz.underlying23 (by kernel_rfl) (by decide) reads_Node (hf 1 _ rfl)
  match cs, hl with
  | [c0, c1], _ =>
    exact ⟨⟨x0, x1⟩, c0, c1, rfl, r0, r1⟩
theorem open_TyItemS {w : World} {v : Value} (h : ArgIn Tryz.prog 110 w v) : ∃ x : List TyI, RowRd 3 TyIEl w v x := by
  obtain ⟨H, enc, base, d, ps, ho, hr⟩ := h
  obtain ⟨a, len, cap, rfl⟩ := okWide_slice Tryz.underlying110 ho
  exact arg_slice Tryz.underlying110 (by kernel_rfl) (by decide) reads_TyItem rfl hr
theorem open_PNodeS {w : World} {v : Value} (h : ArgIn Tryz.prog 116 w v) : ∃ x : List PN, RowRd 4 PNEl w v x := by
  obtain ⟨H, enc, base, d, ps, ho, hr⟩ := h
  obtain ⟨a, len, cap, rfl⟩ := okWide_slice Tryz.underlying116 ho
  exact arg_slice Tryz.underlying116 (by kernel_rfl) (by decide) reads_PNode rfl hr
theorem open_PatS {w : World} {v : Value} (h : ArgIn Tryz.prog 52 w v) : ∃ x : List (List PN), RowRd 1 PatEl w v x := by
  obtain ⟨H, enc, base, d, ps, ho, hr⟩ := h
  obtain ⟨a, len, cap, rfl⟩ := okWide_slice Tryz.underlying52 ho
  exact arg_slice Tryz.underlying52 (by kernel_rfl) (by decide) reads_Pat rfl hr
theorem open_ConS {w : World} {v : Value} (h : ArgIn Tryz.prog 47 w v) : ∃ x : List Cn, RowRd 3 CnEl w v x := by
  obtain ⟨H, enc, base, d, ps, ho, hr⟩ := h
  obtain ⟨a, len, cap, rfl⟩ := okWide_slice Tryz.underlying47 ho
  exact arg_slice Tryz.underlying47 (by kernel_rfl) (by decide) reads_Con rfl hr
theorem open_TypeS {w : World} {v : Value} (h : ArgIn Tryz.prog 22 w v) : ∃ x : List Tp, RowRd 3 TpEl w v x := by
  obtain ⟨H, enc, base, d, ps, ho, hr⟩ := h
  obtain ⟨a, len, cap, rfl⟩ := okWide_slice Tryz.underlying22 ho
  exact arg_slice Tryz.underlying22 (by kernel_rfl) (by decide) reads_Type rfl hr
theorem open_NodeS {w : World} {v : Value} (h : ArgIn Tryz.prog 23 w v) : ∃ x : List Nd, RowRd 6 NdEl w v x := by
  obtain ⟨H, enc, base, d, ps, ho, hr⟩ := h
  obtain ⟨a, len, cap, rfl⟩ := okWide_slice Tryz.underlying23 ho
  exact arg_slice Tryz.underlying23 (by kernel_rfl) (by decide) reads_Node rfl hr
theorem open_IntS {w : World} {v : Value} (h : ArgIn Tryz.prog 51 w v) : ∃ x : List Int, RowRd 1 IntEl w v x := by
  obtain ⟨H, enc, base, d, ps, ho, hr⟩ := h
  obtain ⟨a, len, cap, rfl⟩ := okWide_slice Tryz.underlying51 ho
  exact arg_slice Tryz.underlying51 (by kernel_rfl) (by decide) (reads_int Tryz.underlying3) rfl hr
end Go.Proofs.YtilincaedjhnpaaGreat
