/-
  DERIVED. GIVEN WITH THE SEED: THE CARDS: each row of YtchcdgkpaipkgaaGreatDoorRows.lean that lists a variable, with what it lists TIED to the program's text (the seventh form; the later family's looks); each row that meets fmt, with fmt's text TOLD by the authors' own Lean function (tested against real Go, not proved from fmt's source: count such statements apart). THE CARD IS WHAT COUNTS. Prove the row's statement (the work); the ties are given (YtchcdgkpaipkgaaGreatDoorTie.lean); close each card by the builder's one call (the guide's Derived/Test/ToyasCard.lean, 'card_holds'). Laid BY PROGRAM, IN A SANDBOX (cutbox-door.mjs). By AI agents, Wed Nov 11 2026. No macro, syntax, notation, axiom, sorry.
-/
import Derived.Test.YtchcdgkpaipkgaaGreatDoorRows
import GoSem.ClaimSeven
namespace Go.Proofs.YtchcdgkpaipkgaaGreatDoor
namespace Rows

/-- THE TIED CARD OF 'laws.FnExactNewFs'. -/
def fnExactNewFsCard : Claim7 := { stood := { row := fnExactNewFsRow, standIns := [], harness := (true, "b815438d6bcc32955182f24c84d75200229ee1bceb15383876c71c2902b3ce77"), looks := false }, kinds := [], alts := [], laidByText := true, laidKinds := [.data, .data, .data, .pinned], laidTests := true, laidLooks := .later }
def FnExactNewFsCardSaid : Prop := Claim7.holds Tryz.pinned (.plain (OpenSpec.ofChange fnExactNewFsSpec)) fnExactNewFsCard

/-- THE SECOND FORM's CARD OF 'laws.FnExactNewFs'. -/
def fnExactNewFsUptoCard : Claim7 := { stood := { row := fnExactNewFsUptoRow, standIns := [], harness := (true, "b815438d6bcc32955182f24c84d75200229ee1bceb15383876c71c2902b3ce77"), looks := false }, kinds := [], alts := [], laidByText := true, laidKinds := [.data, .data, .data, .pinned], laidTests := true, laidLooks := .later }
def FnExactNewFsUptoCardSaid : Prop := Claim7.holds Tryz.pinned (.plain (OpenSpec.upto fnExactNewFsSpec)) fnExactNewFsUptoCard
end Rows
end Go.Proofs.YtchcdgkpaipkgaaGreatDoor
