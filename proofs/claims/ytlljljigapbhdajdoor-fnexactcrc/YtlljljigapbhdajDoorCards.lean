/-
  DERIVED. GIVEN WITH THE SEED: THE CARDS: each row of YtlljljigapbhdajDoorRows.lean that lists a variable, with what it lists TIED to the program's text (the seventh form; the later family's looks); each row that meets fmt, with fmt's text TOLD by the authors' own Lean function (tested against real Go, not proved from fmt's source: count such statements apart). THE CARD IS WHAT COUNTS. Prove the row's statement (the work); the ties are given (YtlljljigapbhdajDoorTie.lean); close each card by the builder's one call (the guide's Derived/Test/ToyasCard.lean, 'card_holds'). Laid BY PROGRAM, IN A SANDBOX (cutbox-door.mjs). By AI agents, Wed Nov 11 2026. No macro, syntax, notation, axiom, sorry.
-/
import Derived.Test.YtlljljigapbhdajDoorRows
import GoSem.ClaimSeven
namespace Go.Proofs.YtlljljigapbhdajDoor
namespace Rows

/-- THE TIED CARD OF 'laws.FnExactCrc'. -/
def fnExactCrcCard : Claim7 := { stood := { row := fnExactCrcRow, standIns := [], harness := (true, "fe1bc65f8be6f9b39bd66f15ac4646c17073a52ffa51c6142bfcd64aaf17ebcd"), looks := false }, kinds := [], alts := [], laidByText := true, laidKinds := [.data], laidTests := true, laidLooks := .later }
def FnExactCrcCardSaid : Prop := Claim7.holds Tryd.pinned (.plain (OpenSpec.ofChange fnExactCrcSpec)) fnExactCrcCard

/-- THE SECOND FORM's CARD OF 'laws.FnExactCrc'. -/
def fnExactCrcUptoCard : Claim7 := { stood := { row := fnExactCrcUptoRow, standIns := [], harness := (true, "fe1bc65f8be6f9b39bd66f15ac4646c17073a52ffa51c6142bfcd64aaf17ebcd"), looks := false }, kinds := [], alts := [], laidByText := true, laidKinds := [.data], laidTests := true, laidLooks := .later }
def FnExactCrcUptoCardSaid : Prop := Claim7.holds Tryd.pinned (.plain (OpenSpec.upto fnExactCrcSpec)) fnExactCrcUptoCard
end Rows
end Go.Proofs.YtlljljigapbhdajDoor
