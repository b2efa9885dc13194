/-
  DERIVED. GIVEN WITH THE SEED: THE CARDS: each row of YthghgbdpokplhaaGreatDoorRows.lean that lists a variable, with what it lists TIED to the program's text (the seventh form; the later family's looks); each row that meets fmt, with fmt's text TOLD by the authors' own Lean function (tested against real Go, not proved from fmt's source: count such statements apart). THE CARD IS WHAT COUNTS. Prove the row's statement (the work); the ties are given (YthghgbdpokplhaaGreatDoorTie.lean); close each card by the builder's one call (the guide's Derived/Test/ToyasCard.lean, 'card_holds'). Laid BY PROGRAM, IN A SANDBOX (cutbox-door.mjs). By AI agents, Wed Nov 11 2026. No macro, syntax, notation, axiom, sorry.
-/
import Derived.Test.YthghgbdpokplhaaGreatDoorRows
import GoSem.ClaimSeven
namespace Go.Proofs.YthghgbdpokplhaaGreatDoor
namespace Rows

/-- THE TIED CARD OF 'laws.FnExactCheckTypes'. -/
def fnExactCheckTypesCard : Claim7 := { stood := { row := fnExactCheckTypesRow, standIns := [], harness := (true, "a34d22712172081205ea403b686f6deae0fa61c7102331da83ca9793f1d01774"), looks := true }, kinds := [], alts := [], laidByText := true, laidKinds := [.handle], laidTests := true, laidLooks := .later }
def FnExactCheckTypesCardSaid : Prop := Claim7.holds Tryz.pinned (.plain (OpenSpec.ofChange fnExactCheckTypesSpec)) fnExactCheckTypesCard

/-- THE SECOND FORM's CARD OF 'laws.FnExactCheckTypes'. -/
def fnExactCheckTypesUptoCard : Claim7 := { stood := { row := fnExactCheckTypesUptoRow, standIns := [], harness := (true, "a34d22712172081205ea403b686f6deae0fa61c7102331da83ca9793f1d01774"), looks := true }, kinds := [], alts := [], laidByText := true, laidKinds := [.handle], laidTests := true, laidLooks := .later }
def FnExactCheckTypesUptoCardSaid : Prop := Claim7.holds Tryz.pinned (.plain (OpenSpec.upto fnExactCheckTypesSpec)) fnExactCheckTypesUptoCard
end Rows
end Go.Proofs.YthghgbdpokplhaaGreatDoor
