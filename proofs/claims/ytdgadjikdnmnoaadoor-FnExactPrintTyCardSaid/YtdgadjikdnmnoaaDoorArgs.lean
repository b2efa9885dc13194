/- What comes in reads as the document's data, by program (tools/gendeep.py). -/
import Derived.Test.YtdgadjikdnmnoaaDoorData
import Derived.Test.YtdgadjikdnmnoaaDoorArg
import Derived.Test.YtdgadjikdnmnoaaDoorRows
import Derived.WalkKit
import Derived.WalkSmall
import Derived.ProofKit
import Derived.OpenShut
import Derived.Lib.Hide
import Derived.Lib.SmallJoins
import Derived.StillTailTactics
import Derived.Deep.QuietTactic
import Derived.BigQuiet
import Derived.Outline
namespace Go.Proofs.YtdgadjikdnmnoaaDoor
set_option linter.unusedVariables false
set_option maxRecDepth 100000
open Go.ChangeShapes Go.WideShapes Go.ChangeAt Go.RowKit
section
variable {H : Type} {enc : TypeId × Value → H} {w : World} {base : Nat} {spare : Nat → Bool} {held : Bool}
theorem reads_TyItem : Reads enc Tryd.prog w base spare held 46 3 TyIEl := by
  intro fuel cs x b o h hl hb hc
  obtain ⟨m, hf⟩ := struct_cells Tryd.underlying46 h
  obtain ⟨x0, g0, i0⟩ := field_int hc (by rw [hl]; decide) (by kernel_rfl) Tryd.underlying3 (hf 0 _ rfl)
  obtain ⟨x1, g1, i1⟩ := field_str hc (by rw [hl]; decide) (by kernel_rfl) Tryd.underlying9 (hf 1 _ rfl)
  obtain ⟨x2, g2, i2⟩ := field_int hc (by rw [hl]; decide) (by kernel_rfl) Tryd.underlying3 (hf 2 _ rfl)
  exact ⟨⟨x0, x1, x2⟩, ⟨g0, i0⟩, ⟨g1, i1⟩, ⟨g2, i2⟩⟩
theorem reads_Ty : Reads enc Tryd.prog w base spare held 24 1 TyEl := by
  intro fuel cs x b o h hl hb hc
  obtain ⟨m, hf⟩ := struct_cells Tryd.underlying24 h
  obtain ⟨v0, x0, g0, r0⟩ := field_row hc (by rw [hl]; decide) (by kernel_rfl) Tryd.underlying22 (by kernel_rfl) (by decide) reads_TyItem (hf 0 _ rfl)
  exact ⟨x0, v0, g0, r0⟩
end
theorem open_TyItem {w : World} {v : Value} (h : ArgIn Tryd.prog 46 w v) : ∃ (x : TyI), v = .agg #[.int .i64 x.var, .string x.name, .int .i64 x.arity] ∧ I64 x.var ∧ x.name.size ≤ maxLen ∧ I64 x.arity := by
  obtain ⟨H, enc, base, d, ps, ho, hr⟩ := h
  obtain ⟨cs, rfl, hl, m, hf⟩ := arg_fields Tryd.underlying46 ho hr
  have hl : cs.length = 3 := hl.trans (by kernel_rfl)
  obtain ⟨x0, g0, i0⟩ := arg_int (by rw [hl]; decide) (by kernel_rfl) Tryd.underlying3 (hf 0 _ rfl)
  obtain ⟨x1, g1, i1⟩ := arg_str (by rw [hl]; decide) (by kernel_rfl) Tryd.underlying9 (hf 1 _ rfl)
  obtain ⟨x2, g2, i2⟩ := arg_int (by rw [hl]; decide) (by kernel_rfl) Tryd.underlying3 (hf 2 _ rfl)
  match cs, hl with
  | [c0, c1, c2], _ =>
    obtain rfl : c0 = _ := g0
    obtain rfl : c1 = _ := g1
    obtain rfl : c2 = _ := g2
    exact ⟨⟨x0, x1, x2⟩, rfl, i0, i1, i2⟩
theorem open_Ty {w : World} {v : Value} (h : ArgIn Tryd.prog 24 w v) : ∃ (x : List TyI) (v0 : Value), v = .agg #[v0] ∧ RowRd 3 TyIEl w v0 x := by
  obtain ⟨H, enc, base, d, ps, ho, hr⟩ := h
  obtain ⟨cs, rfl, hl, m, hf⟩ := arg_fields Tryd.underlying24 ho hr
  have hl : cs.length = 1 := hl.trans (by kernel_rfl)
  obtain ⟨x0, r0⟩ := arg_row (by rw [hl]; decide) (by kernel_rfl) Tryd.underlying22 (by kernel_rfl) (by decide) reads_TyItem (hf 0 _ rfl)
  match cs, hl with
  | [c0], _ =>
    exact ⟨x0, c0, rfl, r0⟩
theorem open_TyItemS {w : World} {v : Value} (h : ArgIn Tryd.prog 22 w v) : ∃ x : List TyI, RowRd 3 TyIEl w v x := by
  obtain ⟨H, enc, base, d, ps, ho, hr⟩ := h
  obtain ⟨a, len, cap, rfl⟩ := okWide_slice Tryd.underlying22 ho
  exact arg_slice Tryd.underlying22 (by kernel_rfl) (by decide) reads_TyItem rfl hr
end Go.Proofs.YtdgadjikdnmnoaaDoor
