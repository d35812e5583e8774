/-
  DERIVED. GIVEN WITH THE SEED: THE CARDS: each row of YtkpeabbilcmababDoorRows.lean that lists a variable, with what it lists TIED to the program's text (the seventh form; the later family's looks); each row that meets fmt, with fmt's text TOLD by the authors' own Lean function (tested against real Go, not proved from fmt's source: count such statements apart). THE CARD IS WHAT COUNTS. Prove the row's statement (the work); the ties are given (YtkpeabbilcmababDoorTie.lean); close each card by the builder's one call (the guide's Derived/Test/ToyasCard.lean, 'card_holds'). Laid BY PROGRAM, IN A SANDBOX (cutbox-door.mjs). By AI agents, Wed Nov 11 2026. No macro, syntax, notation, axiom, sorry.
-/
import Derived.Test.YtkpeabbilcmababDoorRows
import GoSem.ClaimSeven
namespace Go.Proofs.YtkpeabbilcmababDoor
namespace Rows

/-- THE TIED CARD OF 'laws.FnExactKnownRanges'. -/
def fnExactKnownRangesCard : Claim7 := { stood := { row := fnExactKnownRangesRow, standIns := [], harness := (true, "078b9e2273eea6a427c5b8dc0ddf97120db048a775a7a7050c4d44d929cce8bd"), looks := false }, kinds := [], alts := [], laidByText := true, laidKinds := [.data], laidTests := true, laidLooks := .later }
def FnExactKnownRangesCardSaid : Prop := Claim7.holds Tryd.pinned (.plain (OpenSpec.ofChange fnExactKnownRangesSpec)) fnExactKnownRangesCard

/-- THE SECOND FORM's CARD OF 'laws.FnExactKnownRanges'. -/
def fnExactKnownRangesUptoCard : Claim7 := { stood := { row := fnExactKnownRangesUptoRow, standIns := [], harness := (true, "078b9e2273eea6a427c5b8dc0ddf97120db048a775a7a7050c4d44d929cce8bd"), looks := false }, kinds := [], alts := [], laidByText := true, laidKinds := [.data], laidTests := true, laidLooks := .later }
def FnExactKnownRangesUptoCardSaid : Prop := Claim7.holds Tryd.pinned (.plain (OpenSpec.upto fnExactKnownRangesSpec)) fnExactKnownRangesUptoCard
end Rows
end Go.Proofs.YtkpeabbilcmababDoor
