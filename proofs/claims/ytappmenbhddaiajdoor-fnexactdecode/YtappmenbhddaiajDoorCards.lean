/-
  DERIVED. GIVEN WITH THE SEED: THE CARDS: each row of YtappmenbhddaiajDoorRows.lean that lists a variable, with what it lists TIED to the program's text (the seventh form; the later family's looks); each row that meets fmt, with fmt's text TOLD by the authors' own Lean function (tested against real Go, not proved from fmt's source: count such statements apart). THE CARD IS WHAT COUNTS. Prove the row's statement (the work); the ties are given (YtappmenbhddaiajDoorTie.lean); close each card by the builder's one call (the guide's Derived/Test/ToyasCard.lean, 'card_holds'). Laid BY PROGRAM, IN A SANDBOX (cutbox-door.mjs). By AI agents, Wed Nov 11 2026. No macro, syntax, notation, axiom, sorry.
-/
import Derived.Test.YtappmenbhddaiajDoorRows
import GoSem.ClaimSeven
namespace Go.Proofs.YtappmenbhddaiajDoor
namespace Rows

/-- THE TIED CARD OF 'laws.FnExactCrc'. -/
def fnExactCrcCard : Claim7 := { stood := { row := fnExactCrcRow, standIns := [], harness := (true, "4640918c8b13df7311869c979edc34484c15659ee6d26d2d0418ca4a59d9e33a"), looks := false }, kinds := [], alts := [], laidByText := true, laidKinds := [.data], laidTests := true, laidLooks := .later }
def FnExactCrcCardSaid : Prop := Claim7.holds Tryd.pinned (.plain (OpenSpec.ofChange fnExactCrcSpec)) fnExactCrcCard

/-- THE TIED CARD OF 'laws.FnExactDecode'. -/
def fnExactDecodeCard : Claim7 := { stood := { row := fnExactDecodeRow, standIns := [], harness := (true, "4640918c8b13df7311869c979edc34484c15659ee6d26d2d0418ca4a59d9e33a"), looks := false }, kinds := [], alts := [], laidByText := true, laidKinds := [.data, .pinned], laidTests := true, laidLooks := .later }
def FnExactDecodeCardSaid : Prop := Claim7.holds Tryd.pinned (.plain (OpenSpec.ofChange fnExactDecodeSpec)) fnExactDecodeCard

/-- THE SECOND FORM's CARD OF 'laws.FnExactCrc'. -/
def fnExactCrcUptoCard : Claim7 := { stood := { row := fnExactCrcUptoRow, standIns := [], harness := (true, "4640918c8b13df7311869c979edc34484c15659ee6d26d2d0418ca4a59d9e33a"), looks := false }, kinds := [], alts := [], laidByText := true, laidKinds := [.data], laidTests := true, laidLooks := .later }
def FnExactCrcUptoCardSaid : Prop := Claim7.holds Tryd.pinned (.plain (OpenSpec.upto fnExactCrcSpec)) fnExactCrcUptoCard

/-- THE SECOND FORM's CARD OF 'laws.FnExactDecode'. -/
def fnExactDecodeUptoCard : Claim7 := { stood := { row := fnExactDecodeUptoRow, standIns := [], harness := (true, "4640918c8b13df7311869c979edc34484c15659ee6d26d2d0418ca4a59d9e33a"), looks := false }, kinds := [], alts := [], laidByText := true, laidKinds := [.data, .pinned], laidTests := true, laidLooks := .later }
def FnExactDecodeUptoCardSaid : Prop := Claim7.holds Tryd.pinned (.plain (OpenSpec.upto fnExactDecodeSpec)) fnExactDecodeUptoCard
end Rows
end Go.Proofs.YtappmenbhddaiajDoor
