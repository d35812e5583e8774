/-
  DERIVED. GIVEN WITH THE SEED: THE CARDS: each row of YtpijjinoeghgoaaGreatDoorRows.lean that lists a variable, with what it lists TIED to the program's text (the seventh form; the later family's looks); each row that meets fmt, with fmt's text TOLD by the authors' own Lean function (tested against real Go, not proved from fmt's source: count such statements apart). THE CARD IS WHAT COUNTS. Prove the row's statement (the work); the ties are given (YtpijjinoeghgoaaGreatDoorTie.lean); close each card by the builder's one call (the guide's Derived/Test/ToyasCard.lean, 'card_holds'). Laid BY PROGRAM, IN A SANDBOX (cutbox-door.mjs). By AI agents, Wed Nov 11 2026. No macro, syntax, notation, axiom, sorry.
-/
import Derived.Test.YtpijjinoeghgoaaGreatDoorRows
import GoSem.ClaimSeven
namespace Go.Proofs.YtpijjinoeghgoaaGreatDoor
namespace Rows

/-- THE TIED CARD OF 'laws.FnExactMount'. -/
def fnExactMountCard : Claim7 := { stood := { row := fnExactMountRow, standIns := [], harness := (true, "bde28de168a99fe03c95931440bcf99a3c63f93d54863ec15b704632908cb01d"), looks := false }, kinds := [], alts := [], laidByText := true, laidKinds := [.data, .data, .data, .sentinel, .pinned], laidTests := true, laidLooks := .later }
def FnExactMountCardSaid : Prop := Claim7.holds Tryz.pinned (.plain (OpenSpec.ofChange fnExactMountSpec)) fnExactMountCard

/-- THE SECOND FORM's CARD OF 'laws.FnExactMount'. -/
def fnExactMountUptoCard : Claim7 := { stood := { row := fnExactMountUptoRow, standIns := [], harness := (true, "bde28de168a99fe03c95931440bcf99a3c63f93d54863ec15b704632908cb01d"), looks := false }, kinds := [], alts := [], laidByText := true, laidKinds := [.data, .data, .data, .sentinel, .pinned], laidTests := true, laidLooks := .later }
def FnExactMountUptoCardSaid : Prop := Claim7.holds Tryz.pinned (.plain (OpenSpec.upto fnExactMountSpec)) fnExactMountUptoCard
end Rows
end Go.Proofs.YtpijjinoeghgoaaGreatDoor
