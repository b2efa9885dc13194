/-
  DERIVED. GIVEN WITH THE SEED: THE CARDS: each row of YtdgadjikdnmnoaaDoorRows.lean that lists a variable, with what it lists TIED to the program's text (the seventh form; the later family's looks); each row that meets fmt, with fmt's text TOLD by the authors' own Lean function (tested against real Go, not proved from fmt's source: count such statements apart). THE CARD IS WHAT COUNTS. Prove the row's statement (the work); the ties are given (YtdgadjikdnmnoaaDoorTie.lean); close each card by the builder's one call (the guide's Derived/Test/ToyasCard.lean, 'card_holds'). Laid BY PROGRAM, IN A SANDBOX (cutbox-door.mjs). By AI agents, Wed Nov 11 2026. No macro, syntax, notation, axiom, sorry.
-/
import Derived.Test.YtdgadjikdnmnoaaDoorRows
import GoSem.ClaimSeven
namespace Go.Proofs.YtdgadjikdnmnoaaDoor
namespace Rows

/-- THE TIED CARD OF 'laws.FnExactPrintTy'. -/
def fnExactPrintTyCard : Claim7 := { stood := { row := fnExactPrintTyRow, standIns := [], harness := (true, "45695158a0fd152d69c9c7cf6e5760a8d0f2256f531c29ae19260893a60287da"), looks := false }, kinds := [], alts := [], laidByText := true, laidKinds := [.data, .data, .data], laidTests := true, laidLooks := .later }
def FnExactPrintTyCardSaid : Prop := Claim7.holds Tryd.pinned (.plain (OpenSpec.ofChange fnExactPrintTySpec)) fnExactPrintTyCard

/-- THE SECOND FORM's CARD OF 'laws.FnExactPrintTy'. -/
def fnExactPrintTyUptoCard : Claim7 := { stood := { row := fnExactPrintTyUptoRow, standIns := [], harness := (true, "45695158a0fd152d69c9c7cf6e5760a8d0f2256f531c29ae19260893a60287da"), looks := false }, kinds := [], alts := [], laidByText := true, laidKinds := [.data, .data, .data], laidTests := true, laidLooks := .later }
def FnExactPrintTyUptoCardSaid : Prop := Claim7.holds Tryd.pinned (.plain (OpenSpec.upto fnExactPrintTySpec)) fnExactPrintTyUptoCard
end Rows
end Go.Proofs.YtdgadjikdnmnoaaDoor
