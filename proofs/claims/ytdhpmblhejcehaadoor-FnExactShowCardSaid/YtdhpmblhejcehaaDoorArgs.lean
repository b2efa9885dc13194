/- What comes in reads as the document's data, by program (tools/gendeep.py). -/
import Derived.Test.YtdhpmblhejcehaaDoorData
import Derived.Test.YtdhpmblhejcehaaDoorArg
import Derived.Test.YtdhpmblhejcehaaDoorRows
import Derived.WalkKit
import Derived.WalkSmall
import Derived.ProofKit
import Derived.OpenShut
import Derived.Lib.Hide
import Derived.Lib.SmallJoins
import Derived.StillTailTactics
import Derived.Deep.QuietTactic
import Derived.BigQuiet
import Derived.Outline
namespace Go.Proofs.YtdhpmblhejcehaaDoor
set_option linter.unusedVariables false
set_option maxRecDepth 100000
open Go.ChangeShapes Go.WideShapes Go.ChangeAt Go.RowKit
section
variable {H : Type} {enc : TypeId × Value → H} {w : World} {base : Nat} {spare : Nat → Bool} {held : Bool}
theorem reads_Val : Reads enc Tryd.prog w base spare held 36 3 VlEl := by
  intro fuel cs x b o h hl hb hc
  obtain ⟨m, hf⟩ := struct_cells Tryd.underlying36 h
  obtain ⟨x0, g0, i0⟩ := field_int hc (by rw [hl]; decide) (by kernel_rfl) Tryd.underlying3 (hf 0 _ rfl)
  obtain ⟨x1, g1, i1⟩ := field_int hc (by rw [hl]; decide) (by kernel_rfl) Tryd.underlying3 (hf 1 _ rfl)
  obtain ⟨x2, g2, i2⟩ := field_str hc (by rw [hl]; decide) (by kernel_rfl) Tryd.underlying9 (hf 2 _ rfl)
  exact ⟨⟨x0, x1, x2⟩, ⟨g0, i0⟩, ⟨g1, i1⟩, ⟨g2, i2⟩⟩
theorem reads_Cell : Reads enc Tryd.prog w base spare held 67 9 CeEl := by
  intro fuel cs x b o h hl hb hc
  obtain ⟨m, hf⟩ := struct_cells Tryd.underlying67 h
  obtain ⟨x0, g0, i0⟩ := field_int hc (by rw [hl]; decide) (by kernel_rfl) Tryd.underlying3 (hf 0 _ rfl)
  obtain ⟨x1, g1, i1⟩ := field_int hc (by rw [hl]; decide) (by kernel_rfl) Tryd.underlying3 (hf 1 _ rfl)
  obtain ⟨x2, g2, i2⟩ := field_str hc (by rw [hl]; decide) (by kernel_rfl) Tryd.underlying9 (hf 2 _ rfl)
  obtain ⟨x3, g3⟩ := field_st (n := 3) hb hc (by rw [hl]; decide) (by kernel_rfl) reads_Val (hf 3 _ rfl)
  obtain ⟨x4, g4⟩ := field_st (n := 3) hb hc (by rw [hl]; decide) (by kernel_rfl) reads_Val (hf 4 _ rfl)
  exact ⟨⟨x0, x1, x2, x3, x4⟩, ⟨g0, i0⟩, ⟨g1, i1⟩, ⟨g2, i2⟩, g3, g4⟩
end
theorem open_Val {w : World} {v : Value} (h : ArgIn Tryd.prog 36 w v) : ∃ (x : Vl), v = .agg #[.int .i64 x.kind, .int .i64 x.n, .string x.s] ∧ I64 x.kind ∧ I64 x.n ∧ x.s.size ≤ maxLen := by
  obtain ⟨H, enc, base, d, ps, ho, hr⟩ := h
  obtain ⟨cs, rfl, hl, m, hf⟩ := arg_fields Tryd.underlying36 ho hr
  have hl : cs.length = 3 := hl.trans (by kernel_rfl)
  obtain ⟨x0, g0, i0⟩ := arg_int (by rw [hl]; decide) (by kernel_rfl) Tryd.underlying3 (hf 0 _ rfl)
  obtain ⟨x1, g1, i1⟩ := arg_int (by rw [hl]; decide) (by kernel_rfl) Tryd.underlying3 (hf 1 _ rfl)
  obtain ⟨x2, g2, i2⟩ := arg_str (by rw [hl]; decide) (by kernel_rfl) Tryd.underlying9 (hf 2 _ rfl)
  match cs, hl with
  | [c0, c1, c2], _ =>
    obtain rfl : c0 = _ := g0
    obtain rfl : c1 = _ := g1
    obtain rfl : c2 = _ := g2
    exact ⟨⟨x0, x1, x2⟩, rfl, i0, i1, i2⟩
theorem open_CellS {w : World} {v : Value} (h : ArgIn Tryd.prog 35 w v) : ∃ x : List Ce, RowRd 9 CeEl w v x := by
  obtain ⟨H, enc, base, d, ps, ho, hr⟩ := h
  obtain ⟨a, len, cap, rfl⟩ := okWide_slice Tryd.underlying35 ho
  exact arg_slice Tryd.underlying35 (by kernel_rfl) (by decide) reads_Cell rfl hr
end Go.Proofs.YtdhpmblhejcehaaDoor
