/-
  DERIVED. GIVEN WITH THE SEED: THE CARDS: each row of YtmhblmonigakbaaGreatDoorRows.lean that lists a variable, with what it lists TIED to the program's text (the seventh form; the later family's looks); each row that meets fmt, with fmt's text TOLD by the authors' own Lean function (tested against real Go, not proved from fmt's source: count such statements apart). THE CARD IS WHAT COUNTS. Prove the row's statement (the work); the ties are given (YtmhblmonigakbaaGreatDoorTie.lean); close each card by the builder's one call (the guide's Derived/Test/ToyasCard.lean, 'card_holds'). Laid BY PROGRAM, IN A SANDBOX (cutbox-door.mjs). By AI agents, Wed Nov 11 2026. No macro, syntax, notation, axiom, sorry.
-/
import Derived.Test.YtmhblmonigakbaaGreatDoorRows
import GoSem.ClaimSeven
namespace Go.Proofs.YtmhblmonigakbaaGreatDoor
namespace Rows

/-- THE TIED CARD OF 'laws.FnDir'. -/
def fnDirCard : Claim7 := { stood := { row := fnDirRow, standIns := [], harness := (true, "f5c03a9be9374fea9391089c687fbc2daef7b13521379952c16859b63a3284f6"), looks := false }, kinds := [], alts := [], laidByText := true, laidKinds := [.data, .data, .data, .pinned], laidTests := true, laidLooks := .later }
def FnDirCardSaid : Prop := Claim7.holds Tryz.pinned (.plain (OpenSpec.ofChange fnDirSpec)) fnDirCard

/-- THE TIED CARD OF 'laws.FnCursor'. -/
def fnCursorCard : Claim7 := { stood := { row := fnCursorRow, standIns := [], harness := (true, "f5c03a9be9374fea9391089c687fbc2daef7b13521379952c16859b63a3284f6"), looks := false }, kinds := [], alts := [], laidByText := true, laidKinds := [.data, .data, .data, .pinned], laidTests := true, laidLooks := .later }
def FnCursorCardSaid : Prop := Claim7.holds Tryz.pinned (.plain (OpenSpec.ofChange fnCursorSpec)) fnCursorCard

/-- THE SECOND FORM's CARD OF 'laws.FnDir'. -/
def fnDirUptoCard : Claim7 := { stood := { row := fnDirUptoRow, standIns := [], harness := (true, "f5c03a9be9374fea9391089c687fbc2daef7b13521379952c16859b63a3284f6"), looks := false }, kinds := [], alts := [], laidByText := true, laidKinds := [.data, .data, .data, .pinned], laidTests := true, laidLooks := .later }
def FnDirUptoCardSaid : Prop := Claim7.holds Tryz.pinned (.plain (OpenSpec.upto fnDirSpec)) fnDirUptoCard

/-- THE SECOND FORM's CARD OF 'laws.FnCursor'. -/
def fnCursorUptoCard : Claim7 := { stood := { row := fnCursorUptoRow, standIns := [], harness := (true, "f5c03a9be9374fea9391089c687fbc2daef7b13521379952c16859b63a3284f6"), looks := false }, kinds := [], alts := [], laidByText := true, laidKinds := [.data, .data, .data, .pinned], laidTests := true, laidLooks := .later }
def FnCursorUptoCardSaid : Prop := Claim7.holds Tryz.pinned (.plain (OpenSpec.upto fnCursorSpec)) fnCursorUptoCard
end Rows
end Go.Proofs.YtmhblmonigakbaaGreatDoor
