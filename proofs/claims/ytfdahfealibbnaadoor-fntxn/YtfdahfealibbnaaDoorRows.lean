/-
  NARROWER THAN 'FOR EVERY INPUT', by the rows' own cells (each row's printed sentence says how): FnExactShowTxn: laid · FnExactReadTxn: ifaces, laid · FnTxn: ifaces, laid.
  DERIVED. THE GIVEN ROWS OF THIS SEAT. 3 by the template 'for every input the law returns true; each argument reads behind the call as it read before'; 0 by the template 'total and deterministic' (their statements: YtfdahfealibbnaaDoorTotals.lean).
  GIVEN WITH THE SEED: the statements are not yours to turn. If you find one false, say at which input.
  Laid BY PROGRAM, IN A SANDBOX (cutbox-rows.mjs): the forced cells as the released guide's own fill.sh prints them over the translation 8a15f095ecf619bd… (all of the seat's roots in one cut). By AI agents, Wed Nov 11 2026. No macro, syntax, notation, axiom, sorry.
-/
import Derived.Test.YtfdahfealibbnaaDoorChecked
import GoSem.Claim
import GoSem.ClaimJoined
import GoSem.ClaimMapViews
import Derived.JoinedTies
import Derived.KernelRfl
namespace Go.Proofs.YtfdahfealibbnaaDoor
/- THE CELL 'sum', in the pinned program and in every row, IS THE sha256 OF THE DUMP (.gsa) THAT YtfdahfealibbnaaDoorProg.lean LOADS. Nothing in Lean hashes anything: it is a label: what it is worth is what the hold of that sum in a sandbox is worth. -/
noncomputable def Tryd.pinned : Pinned := { name := "ytfdahfealibbnaadoor", sum := "8a15f095ecf619bdab2c5f739838d36d12e9ea547c7ce714dbe0c5bb744f794c", checked := Tryd.checked }
namespace Rows
def none {H : Type} : Left H := { results := [], args := [] }

/- WHAT THE LISTED PACKAGE-LEVEL VARIABLES READ AS WHEN THE CALL BEGINS. Each datum BY PROGRAM (the guide's laid-datum.mjs) off the statement by which the dump's own 'gosem.cut.vars' lays the variable. In a bare row this is a premise. The card (YtfdahfealibbnaaDoorCards.lean) ties it to the program's text. -/
def laid_loop_example_g00773_impl_halfSums {H : Type} : DataW H := .agg [.lit (.int .u32 0), .lit (.int .u32 274646895), .lit (.int .u32 549293790), .lit (.int .u32 820201905), .lit (.int .u32 1098587580), .lit (.int .u32 1361435347), .lit (.int .u32 1640403810), .lit (.int .u32 1905808397), .lit (.int .u32 2197175160), .lit (.int .u32 2460548119), .lit (.int .u32 2722870694), .lit (.int .u32 2987750089), .lit (.int .u32 3280807620), .lit (.int .u32 3553878443), .lit (.int .u32 3811616794), .lit (.int .u32 4084100981)]
def laid_loop_example_g00773_impl_errLacks {H : Type} : DataW H := .iface "*errors.errorString" (.ptr (.agg [.lit (.string [97, 32, 112, 97, 114, 116, 32, 111, 102, 32, 116, 104, 101, 32, 116, 101, 120, 116, 32, 108, 97, 99, 107, 115])]))

/-- 'laws.FnExactShowTxn': WHATEVER THE INPUT: true; the input reads as it did. -/
def fnExactShowTxnSpec : ChangeSpec := { name := "fnExactShowTxn", vars := ["loop.example/g00773/impl.halfSums"], fn := fun _ => fun
  | [d, g1] => { results := [.lit (.bool true)], args := [d], vars := [g1] }
  | _ => none }
def fnExactShowTxnRow : OpenClaim := { program := "ytfdahfealibbnaadoor", sum := "8a15f095ecf619bdab2c5f739838d36d12e9ea547c7ce714dbe0c5bb744f794c", func := "loop.example/g00773/laws.FnExactShowTxn", spec := "fnExactShowTxn", unfollowed := true, recurses := true, named := ["loop.example/g00773/impl.halfSums"], apart := false, laid := [("loop.example/g00773/impl.halfSums", laid_loop_example_g00773_impl_halfSums)] }
def FnExactShowTxnSaid : Prop := fnExactShowTxnRow.holds Tryd.pinned (OpenSpec.ofChange fnExactShowTxnSpec)

/-- ITS FALSE NEIGHBOUR: 'it returns false'. Refute it at one input. -/
def fnExactShowTxnWrong : ChangeSpec := { name := "fnExactShowTxn", vars := ["loop.example/g00773/impl.halfSums"], fn := fun _ => fun
  | [d, g1] => { results := [.lit (.bool false)], args := [d], vars := [g1] }
  | _ => none }
def FnExactShowTxnWrongFalsely : Prop := fnExactShowTxnRow.holds Tryd.pinned (OpenSpec.ofChange fnExactShowTxnWrong)

/-- 'laws.FnExactReadTxn': WHATEVER THE INPUT: true; the input reads as it did. -/
def fnExactReadTxnSpec : ChangeSpec := { name := "fnExactReadTxn", vars := ["loop.example/g00773/impl.errLacks", "loop.example/g00773/impl.halfSums"], fn := fun _ => fun
  | [d, g1, g2] => { results := [.lit (.bool true)], args := [d], vars := [g1, g2] }
  | _ => none }
def fnExactReadTxnRow : OpenClaim := { program := "ytfdahfealibbnaadoor", sum := "8a15f095ecf619bdab2c5f739838d36d12e9ea547c7ce714dbe0c5bb744f794c", func := "loop.example/g00773/laws.FnExactReadTxn", spec := "fnExactReadTxn", unfollowed := true, recurses := true, named := ["loop.example/g00773/impl.errLacks", "loop.example/g00773/impl.halfSums"], ifaces := true, apart := false, laid := [("loop.example/g00773/impl.halfSums", laid_loop_example_g00773_impl_halfSums), ("loop.example/g00773/impl.errLacks", laid_loop_example_g00773_impl_errLacks)] }
def FnExactReadTxnSaid : Prop := fnExactReadTxnRow.holds Tryd.pinned (OpenSpec.ofChange fnExactReadTxnSpec)

/-- ITS FALSE NEIGHBOUR: 'it returns false'. Refute it at one input. -/
def fnExactReadTxnWrong : ChangeSpec := { name := "fnExactReadTxn", vars := ["loop.example/g00773/impl.errLacks", "loop.example/g00773/impl.halfSums"], fn := fun _ => fun
  | [d, g1, g2] => { results := [.lit (.bool false)], args := [d], vars := [g1, g2] }
  | _ => none }
def FnExactReadTxnWrongFalsely : Prop := fnExactReadTxnRow.holds Tryd.pinned (OpenSpec.ofChange fnExactReadTxnWrong)

/-- 'laws.FnTxn': WHATEVER THE INPUT: true; the input reads as it did. -/
def fnTxnSpec : ChangeSpec := { name := "fnTxn", vars := ["loop.example/g00773/impl.halfSums", "loop.example/g00773/impl.errLacks"], fn := fun _ => fun
  | [d, g1, g2] => { results := [.lit (.bool true)], args := [d], vars := [g1, g2] }
  | _ => none }
def fnTxnRow : OpenClaim := { program := "ytfdahfealibbnaadoor", sum := "8a15f095ecf619bdab2c5f739838d36d12e9ea547c7ce714dbe0c5bb744f794c", func := "loop.example/g00773/laws.FnTxn", spec := "fnTxn", unfollowed := true, recurses := true, named := ["loop.example/g00773/impl.halfSums", "loop.example/g00773/impl.errLacks"], ifaces := true, apart := false, laid := [("loop.example/g00773/impl.halfSums", laid_loop_example_g00773_impl_halfSums), ("loop.example/g00773/impl.errLacks", laid_loop_example_g00773_impl_errLacks)] }
def FnTxnSaid : Prop := fnTxnRow.holds Tryd.pinned (OpenSpec.ofChange fnTxnSpec)

/-- ITS FALSE NEIGHBOUR: 'it returns false'. Refute it at one input. -/
def fnTxnWrong : ChangeSpec := { name := "fnTxn", vars := ["loop.example/g00773/impl.halfSums", "loop.example/g00773/impl.errLacks"], fn := fun _ => fun
  | [d, g1, g2] => { results := [.lit (.bool false)], args := [d], vars := [g1, g2] }
  | _ => none }
def FnTxnWrongFalsely : Prop := fnTxnRow.holds Tryd.pinned (OpenSpec.ofChange fnTxnWrong)

/- THE SECOND FORM. 'bulk': how many values and letters a reading holds, each counted each time it is reached (what is shared counts as often as it is met; a slice's spare places count too). A statement '..UptoSaid' is the law's where the arguments, and the package variables that the reading takes, are together of bulk at most 1048576: NARROWER than '..Said'. Prove '..Said' where nothing that the law and all that it calls make is longer than what came in: it says more and counts as full. Else prove '..UptoSaid'. A law counts once. -/
mutual
def uptoBulk {H : Type} : DataW H → Nat
  | .lit (.string bytes) => bytes.length + 1
  | .lit _ => 1
  | .nil => 1
  | .ptr d => uptoBulk d + 1
  | .slice elems spare => uptoBulkAll elems + uptoBulkAll spare + 1
  | .agg parts => uptoBulkAll parts + 1
  | .iface _ d => uptoBulk d + 1
  | .map entries => uptoBulkEntries entries + 1
  | .held _ => 1
def uptoBulkAll {H : Type} : List (DataW H) → Nat
  | [] => 0
  | d :: r => uptoBulk d + uptoBulkAll r
def uptoBulkEntries {H : Type} : List (Lit × DataW H) → Nat
  | [] => 0
  | x :: r => uptoBulkEntry x + uptoBulkEntries r
def uptoBulkEntry {H : Type} : Lit × DataW H → Nat
  | (.string bytes, d) => bytes.length + uptoBulk d + 1
  | (_, d) => uptoBulk d + 1
 end
def uptoSmall : (H : Type) → List (DataW H) → Bool := fun _ ds => decide (uptoBulkAll ds ≤ 1048576)
def OpenSpec.upto (s : _root_.Go.ChangeSpec) : _root_.Go.OpenSpec := { _root_.Go.OpenSpec.ofChange s with cond := some uptoSmall }

/-- 'laws.FnExactShowTxn', WHERE WHAT IT READS IS OF BULK AT MOST 1048576: true; the input reads as it did. -/
def fnExactShowTxnUptoRow : OpenClaim := { program := "ytfdahfealibbnaadoor", sum := "8a15f095ecf619bdab2c5f739838d36d12e9ea547c7ce714dbe0c5bb744f794c", func := "loop.example/g00773/laws.FnExactShowTxn", spec := "fnExactShowTxn", unfollowed := true, recurses := true, named := ["loop.example/g00773/impl.halfSums"], apart := false, laid := [("loop.example/g00773/impl.halfSums", laid_loop_example_g00773_impl_halfSums)], narrowed := true }
def FnExactShowTxnUptoSaid : Prop := fnExactShowTxnUptoRow.holds Tryd.pinned (OpenSpec.upto fnExactShowTxnSpec)

/-- 'laws.FnExactReadTxn', WHERE WHAT IT READS IS OF BULK AT MOST 1048576: true; the input reads as it did. -/
def fnExactReadTxnUptoRow : OpenClaim := { program := "ytfdahfealibbnaadoor", sum := "8a15f095ecf619bdab2c5f739838d36d12e9ea547c7ce714dbe0c5bb744f794c", func := "loop.example/g00773/laws.FnExactReadTxn", spec := "fnExactReadTxn", unfollowed := true, recurses := true, named := ["loop.example/g00773/impl.errLacks", "loop.example/g00773/impl.halfSums"], ifaces := true, apart := false, laid := [("loop.example/g00773/impl.halfSums", laid_loop_example_g00773_impl_halfSums), ("loop.example/g00773/impl.errLacks", laid_loop_example_g00773_impl_errLacks)], narrowed := true }
def FnExactReadTxnUptoSaid : Prop := fnExactReadTxnUptoRow.holds Tryd.pinned (OpenSpec.upto fnExactReadTxnSpec)

/-- 'laws.FnTxn', WHERE WHAT IT READS IS OF BULK AT MOST 1048576: true; the input reads as it did. -/
def fnTxnUptoRow : OpenClaim := { program := "ytfdahfealibbnaadoor", sum := "8a15f095ecf619bdab2c5f739838d36d12e9ea547c7ce714dbe0c5bb744f794c", func := "loop.example/g00773/laws.FnTxn", spec := "fnTxn", unfollowed := true, recurses := true, named := ["loop.example/g00773/impl.halfSums", "loop.example/g00773/impl.errLacks"], ifaces := true, apart := false, laid := [("loop.example/g00773/impl.halfSums", laid_loop_example_g00773_impl_halfSums), ("loop.example/g00773/impl.errLacks", laid_loop_example_g00773_impl_errLacks)], narrowed := true }
def FnTxnUptoSaid : Prop := fnTxnUptoRow.holds Tryd.pinned (OpenSpec.upto fnTxnSpec)

end Rows
end Go.Proofs.YtfdahfealibbnaaDoor
