/-
  DERIVED. GIVEN WITH THE SEED: THE CARDS: each row of YthnpjlnilkbamaaDoorRows.lean that lists a variable, with what it lists TIED to the program's text (the seventh form; the later family's looks); each row that meets fmt, with fmt's text TOLD by the authors' own Lean function (tested against real Go, not proved from fmt's source: count such statements apart). THE CARD IS WHAT COUNTS. Prove the row's statement (the work); the ties are given (YthnpjlnilkbamaaDoorTie.lean); close each card by the builder's one call (the guide's Derived/Test/ToyasCard.lean, 'card_holds'). Laid BY PROGRAM, IN A SANDBOX (cutbox-door.mjs). By AI agents, Wed Nov 11 2026. No macro, syntax, notation, axiom, sorry.
-/
import Derived.Test.YthnpjlnilkbamaaDoorRows
import GoSem.ClaimSeven
namespace Go.Proofs.YthnpjlnilkbamaaDoor
namespace Rows

/-- THE TIED CARD OF 'laws.FnBits'. -/
def fnBitsCard : Claim7 := { stood := { row := fnBitsRow, standIns := [], harness := (true, "472362fdb7f0c0a86a6cd3d6824bc9863bbbf70ecf40e0aa7aa91c99efafd0bc"), looks := false }, kinds := [], alts := [], laidByText := true, laidKinds := [.data], laidTests := true, laidLooks := .later }
def FnBitsCardSaid : Prop := Claim7.holds Tryd.pinned (.plain (OpenSpec.ofChange fnBitsSpec)) fnBitsCard

/-- THE TIED CARD OF 'laws.FnExactRuns'. -/
def fnExactRunsCard : Claim7 := { stood := { row := fnExactRunsRow, standIns := [], harness := (true, "472362fdb7f0c0a86a6cd3d6824bc9863bbbf70ecf40e0aa7aa91c99efafd0bc"), looks := false }, kinds := [], alts := [], laidByText := true, laidKinds := [.data], laidTests := true, laidLooks := .later }
def FnExactRunsCardSaid : Prop := Claim7.holds Tryd.pinned (.plain (OpenSpec.ofChange fnExactRunsSpec)) fnExactRunsCard

/-- THE TIED CARD OF 'laws.FnExactFindRun'. -/
def fnExactFindRunCard : Claim7 := { stood := { row := fnExactFindRunRow, standIns := [], harness := (true, "472362fdb7f0c0a86a6cd3d6824bc9863bbbf70ecf40e0aa7aa91c99efafd0bc"), looks := false }, kinds := [], alts := [], laidByText := true, laidKinds := [.data], laidTests := true, laidLooks := .later }
def FnExactFindRunCardSaid : Prop := Claim7.holds Tryd.pinned (.plain (OpenSpec.ofChange fnExactFindRunSpec)) fnExactFindRunCard

/-- THE SECOND FORM's CARD OF 'laws.FnBits'. -/
def fnBitsUptoCard : Claim7 := { stood := { row := fnBitsUptoRow, standIns := [], harness := (true, "472362fdb7f0c0a86a6cd3d6824bc9863bbbf70ecf40e0aa7aa91c99efafd0bc"), looks := false }, kinds := [], alts := [], laidByText := true, laidKinds := [.data], laidTests := true, laidLooks := .later }
def FnBitsUptoCardSaid : Prop := Claim7.holds Tryd.pinned (.plain (OpenSpec.upto fnBitsSpec)) fnBitsUptoCard

/-- THE SECOND FORM's CARD OF 'laws.FnExactRuns'. -/
def fnExactRunsUptoCard : Claim7 := { stood := { row := fnExactRunsUptoRow, standIns := [], harness := (true, "472362fdb7f0c0a86a6cd3d6824bc9863bbbf70ecf40e0aa7aa91c99efafd0bc"), looks := false }, kinds := [], alts := [], laidByText := true, laidKinds := [.data], laidTests := true, laidLooks := .later }
def FnExactRunsUptoCardSaid : Prop := Claim7.holds Tryd.pinned (.plain (OpenSpec.upto fnExactRunsSpec)) fnExactRunsUptoCard

/-- THE SECOND FORM's CARD OF 'laws.FnExactFindRun'. -/
def fnExactFindRunUptoCard : Claim7 := { stood := { row := fnExactFindRunUptoRow, standIns := [], harness := (true, "472362fdb7f0c0a86a6cd3d6824bc9863bbbf70ecf40e0aa7aa91c99efafd0bc"), looks := false }, kinds := [], alts := [], laidByText := true, laidKinds := [.data], laidTests := true, laidLooks := .later }
def FnExactFindRunUptoCardSaid : Prop := Claim7.holds Tryd.pinned (.plain (OpenSpec.upto fnExactFindRunSpec)) fnExactFindRunUptoCard
end Rows
end Go.Proofs.YthnpjlnilkbamaaDoor
