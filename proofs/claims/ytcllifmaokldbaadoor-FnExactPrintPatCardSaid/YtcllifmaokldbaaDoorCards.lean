/-
  DERIVED. GIVEN WITH THE SEED: THE CARDS: each row of YtcllifmaokldbaaDoorRows.lean that lists a variable, with what it lists TIED to the program's text (the seventh form; the later family's looks); each row that meets fmt, with fmt's text TOLD by the authors' own Lean function (tested against real Go, not proved from fmt's source: count such statements apart). THE CARD IS WHAT COUNTS. Prove the row's statement (the work); the ties are given (YtcllifmaokldbaaDoorTie.lean); close each card by the builder's one call (the guide's Derived/Test/ToyasCard.lean, 'card_holds'). Laid BY PROGRAM, IN A SANDBOX (cutbox-door.mjs). By AI agents, Wed Nov 11 2026. No macro, syntax, notation, axiom, sorry.
-/
import Derived.Test.YtcllifmaokldbaaDoorRows
import GoSem.ClaimSeven
namespace Go.Proofs.YtcllifmaokldbaaDoor
namespace Rows

/-- THE TIED CARD OF 'laws.FnExactPrintPat'. -/
def fnExactPrintPatCard : Claim7 := { stood := { row := fnExactPrintPatRow, standIns := [], harness := (true, "5076074d88f414a3d65232df99cb20212ff14394ac28dae08821686343899d5d"), looks := false }, kinds := [], alts := [], laidByText := true, laidKinds := [.data, .data, .data], laidTests := true, laidLooks := .later }
def FnExactPrintPatCardSaid : Prop := Claim7.holds Tryd.pinned (.plain (OpenSpec.ofChange fnExactPrintPatSpec)) fnExactPrintPatCard

/-- THE SECOND FORM's CARD OF 'laws.FnExactPrintPat'. -/
def fnExactPrintPatUptoCard : Claim7 := { stood := { row := fnExactPrintPatUptoRow, standIns := [], harness := (true, "5076074d88f414a3d65232df99cb20212ff14394ac28dae08821686343899d5d"), looks := false }, kinds := [], alts := [], laidByText := true, laidKinds := [.data, .data, .data], laidTests := true, laidLooks := .later }
def FnExactPrintPatUptoCardSaid : Prop := Claim7.holds Tryd.pinned (.plain (OpenSpec.upto fnExactPrintPatSpec)) fnExactPrintPatUptoCard
end Rows
end Go.Proofs.YtcllifmaokldbaaDoor
