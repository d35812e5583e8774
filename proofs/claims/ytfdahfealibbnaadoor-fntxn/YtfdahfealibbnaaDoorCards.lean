/-
  DERIVED. GIVEN WITH THE SEED: THE CARDS: each row of YtfdahfealibbnaaDoorRows.lean that lists a variable, with what it lists TIED to the program's text (the seventh form; the later family's looks); each row that meets fmt, with fmt's text TOLD by the authors' own Lean function (tested against real Go, not proved from fmt's source: count such statements apart). THE CARD IS WHAT COUNTS. Prove the row's statement (the work); the ties are given (YtfdahfealibbnaaDoorTie.lean); close each card by the builder's one call (the guide's Derived/Test/ToyasCard.lean, 'card_holds'). Laid BY PROGRAM, IN A SANDBOX (cutbox-door.mjs). By AI agents, Wed Nov 11 2026. No macro, syntax, notation, axiom, sorry.
-/
import Derived.Test.YtfdahfealibbnaaDoorRows
import GoSem.ClaimSeven
namespace Go.Proofs.YtfdahfealibbnaaDoor
namespace Rows

/-- THE TIED CARD OF 'laws.FnExactShowTxn'. -/
def fnExactShowTxnCard : Claim7 := { stood := { row := fnExactShowTxnRow, standIns := [], harness := (true, "2b80952f0070377ba3180fcb187a86365a12e33b1a4bb96d56cd2197e3feb88f"), looks := false }, kinds := [], alts := [], laidByText := true, laidKinds := [.data], laidTests := true, laidLooks := .later }
def FnExactShowTxnCardSaid : Prop := Claim7.holds Tryd.pinned (.plain (OpenSpec.ofChange fnExactShowTxnSpec)) fnExactShowTxnCard

/-- THE TIED CARD OF 'laws.FnExactReadTxn'. -/
def fnExactReadTxnCard : Claim7 := { stood := { row := fnExactReadTxnRow, standIns := [], harness := (true, "2b80952f0070377ba3180fcb187a86365a12e33b1a4bb96d56cd2197e3feb88f"), looks := false }, kinds := [], alts := [], laidByText := true, laidKinds := [.data, .sentinel], laidTests := true, laidLooks := .later }
def FnExactReadTxnCardSaid : Prop := Claim7.holds Tryd.pinned (.plain (OpenSpec.ofChange fnExactReadTxnSpec)) fnExactReadTxnCard

/-- THE TIED CARD OF 'laws.FnTxn'. -/
def fnTxnCard : Claim7 := { stood := { row := fnTxnRow, standIns := [], harness := (true, "2b80952f0070377ba3180fcb187a86365a12e33b1a4bb96d56cd2197e3feb88f"), looks := false }, kinds := [], alts := [], laidByText := true, laidKinds := [.data, .sentinel], laidTests := true, laidLooks := .later }
def FnTxnCardSaid : Prop := Claim7.holds Tryd.pinned (.plain (OpenSpec.ofChange fnTxnSpec)) fnTxnCard

/-- THE SECOND FORM's CARD OF 'laws.FnExactShowTxn'. -/
def fnExactShowTxnUptoCard : Claim7 := { stood := { row := fnExactShowTxnUptoRow, standIns := [], harness := (true, "2b80952f0070377ba3180fcb187a86365a12e33b1a4bb96d56cd2197e3feb88f"), looks := false }, kinds := [], alts := [], laidByText := true, laidKinds := [.data], laidTests := true, laidLooks := .later }
def FnExactShowTxnUptoCardSaid : Prop := Claim7.holds Tryd.pinned (.plain (OpenSpec.upto fnExactShowTxnSpec)) fnExactShowTxnUptoCard

/-- THE SECOND FORM's CARD OF 'laws.FnExactReadTxn'. -/
def fnExactReadTxnUptoCard : Claim7 := { stood := { row := fnExactReadTxnUptoRow, standIns := [], harness := (true, "2b80952f0070377ba3180fcb187a86365a12e33b1a4bb96d56cd2197e3feb88f"), looks := false }, kinds := [], alts := [], laidByText := true, laidKinds := [.data, .sentinel], laidTests := true, laidLooks := .later }
def FnExactReadTxnUptoCardSaid : Prop := Claim7.holds Tryd.pinned (.plain (OpenSpec.upto fnExactReadTxnSpec)) fnExactReadTxnUptoCard

/-- THE SECOND FORM's CARD OF 'laws.FnTxn'. -/
def fnTxnUptoCard : Claim7 := { stood := { row := fnTxnUptoRow, standIns := [], harness := (true, "2b80952f0070377ba3180fcb187a86365a12e33b1a4bb96d56cd2197e3feb88f"), looks := false }, kinds := [], alts := [], laidByText := true, laidKinds := [.data, .sentinel], laidTests := true, laidLooks := .later }
def FnTxnUptoCardSaid : Prop := Claim7.holds Tryd.pinned (.plain (OpenSpec.upto fnTxnSpec)) fnTxnUptoCard
end Rows
end Go.Proofs.YtfdahfealibbnaaDoor
