/-
  DERIVED. GIVEN WITH THE SEED: THE CARDS: each row of YtjggkhcomaiplaaDoorRows.lean that lists a variable, with what it lists TIED to the program's text (the seventh form; the later family's looks); each row that meets fmt, with fmt's text TOLD by the authors' own Lean function (tested against real Go, not proved from fmt's source: count such statements apart). THE CARD IS WHAT COUNTS. Prove the row's statement (the work); the ties are given (YtjggkhcomaiplaaDoorTie.lean); close each card by the builder's one call (the guide's Derived/Test/ToyasCard.lean, 'card_holds'). Laid BY PROGRAM, IN A SANDBOX (cutbox-door.mjs). By AI agents, Wed Nov 11 2026. No macro, syntax, notation, axiom, sorry.
-/
import Derived.Test.YtjggkhcomaiplaaDoorRows
import GoSem.ClaimSeven
namespace Go.Proofs.YtjggkhcomaiplaaDoor
namespace Rows

/-- THE TIED CARD OF 'laws.FnExactVolOk'. -/
def fnExactVolOkCard : Claim7 := { stood := { row := fnExactVolOkRow, standIns := [], harness := (true, "72146c22f2f38c879fdc4b5cdcff745c208608217a6368c8f6a669bda390c0ad"), looks := false }, kinds := [], alts := [], laidByText := true, laidKinds := [.data, .data, .data, .pinned], laidTests := true, laidLooks := .later }
def FnExactVolOkCardSaid : Prop := Claim7.holds Tryd.pinned (.plain (OpenSpec.ofChange fnExactVolOkSpec)) fnExactVolOkCard

/-- THE SECOND FORM's CARD OF 'laws.FnExactVolOk'. -/
def fnExactVolOkUptoCard : Claim7 := { stood := { row := fnExactVolOkUptoRow, standIns := [], harness := (true, "72146c22f2f38c879fdc4b5cdcff745c208608217a6368c8f6a669bda390c0ad"), looks := false }, kinds := [], alts := [], laidByText := true, laidKinds := [.data, .data, .data, .pinned], laidTests := true, laidLooks := .later }
def FnExactVolOkUptoCardSaid : Prop := Claim7.holds Tryd.pinned (.plain (OpenSpec.upto fnExactVolOkSpec)) fnExactVolOkUptoCard
end Rows
end Go.Proofs.YtjggkhcomaiplaaDoor
