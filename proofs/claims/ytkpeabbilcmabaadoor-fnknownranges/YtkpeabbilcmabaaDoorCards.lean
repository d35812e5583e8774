/-
  DERIVED. GIVEN WITH THE SEED: THE CARDS: each row of YtkpeabbilcmabaaDoorRows.lean that lists a variable, with what it lists TIED to the program's text (the seventh form; the later family's looks); each row that meets fmt, with fmt's text TOLD by the authors' own Lean function (tested against real Go, not proved from fmt's source: count such statements apart). THE CARD IS WHAT COUNTS. Prove the row's statement (the work); the ties are given (YtkpeabbilcmabaaDoorTie.lean); close each card by the builder's one call (the guide's Derived/Test/ToyasCard.lean, 'card_holds'). Laid BY PROGRAM, IN A SANDBOX (cutbox-door.mjs). By AI agents, Wed Nov 11 2026. No macro, syntax, notation, axiom, sorry.
-/
import Derived.Test.YtkpeabbilcmabaaDoorRows
import GoSem.ClaimSeven
namespace Go.Proofs.YtkpeabbilcmabaaDoor
namespace Rows

/-- THE TIED CARD OF 'laws.FnKnownRanges'. -/
def fnKnownRangesCard : Claim7 := { stood := { row := fnKnownRangesRow, standIns := [], harness := (true, "3c5eedf40183f06ecb4d2d8ef7fc0f174f4130d684c3c97c77dff229a44a8df0"), looks := false }, kinds := [], alts := [], laidByText := true, laidKinds := [.data], laidTests := true, laidLooks := .later }
def FnKnownRangesCardSaid : Prop := Claim7.holds Tryd.pinned (.plain (OpenSpec.ofChange fnKnownRangesSpec)) fnKnownRangesCard

/-- THE SECOND FORM's CARD OF 'laws.FnKnownRanges'. -/
def fnKnownRangesUptoCard : Claim7 := { stood := { row := fnKnownRangesUptoRow, standIns := [], harness := (true, "3c5eedf40183f06ecb4d2d8ef7fc0f174f4130d684c3c97c77dff229a44a8df0"), looks := false }, kinds := [], alts := [], laidByText := true, laidKinds := [.data], laidTests := true, laidLooks := .later }
def FnKnownRangesUptoCardSaid : Prop := Claim7.holds Tryd.pinned (.plain (OpenSpec.upto fnKnownRangesSpec)) fnKnownRangesUptoCard
end Rows
end Go.Proofs.YtkpeabbilcmabaaDoor
