/-
  NARROWER THAN 'FOR EVERY INPUT', by the rows' own cells (each row's printed sentence says how): FnAlike: laid · FnScan: laid · FnExactHashOf: laid · FnExactDirOk: laid · FnExactLook: laid · FnExactAdd: laid · FnExactDrop: laid · FnExactRespell: laid · FnExactNext: laid.
  DERIVED. THE GIVEN ROWS OF THIS SEAT. 9 by the template 'for every input the law returns true; each argument reads behind the call as it read before'; 0 by the template 'total and deterministic' (their statements: YtmhblmonigakbaaDoorTotals.lean).
  GIVEN WITH THE SEED: the statements are not yours to turn. If you find one false, say at which input.
  Laid BY PROGRAM, IN A SANDBOX (cutbox-rows.mjs): the forced cells as the released guide's own fill.sh prints them over the translation ebdae1829cc8fef7… (all of the seat's roots in one cut). By AI agents, Wed Nov 11 2026. No macro, syntax, notation, axiom, sorry.
-/
import Derived.Test.YtmhblmonigakbaaDoorChecked
import GoSem.PinnedTables
import GoSem.Claim
import GoSem.ClaimJoined
import GoSem.ClaimMapViews
import Derived.JoinedTies
import Derived.KernelRfl
namespace Go.Proofs.YtmhblmonigakbaaDoor
/- THE CELL 'sum', in the pinned program and in every row, IS THE sha256 OF THE DUMP (.gsa) THAT YtmhblmonigakbaaDoorProg.lean LOADS. Nothing in Lean hashes anything: it is a label: what it is worth is what the hold of that sum in a sandbox is worth. -/
noncomputable def Tryd.pinned : Pinned := { name := "ytmhblmonigakbaadoor", sum := "ebdae1829cc8fef7c47550f5fa675c09faaec1434556b73f92aadab668b2b71b", checked := Tryd.checked }
namespace Rows
def none {H : Type} : Left H := { results := [], args := [] }

/- WHAT THE LISTED PACKAGE-LEVEL VARIABLES READ AS WHEN THE CALL BEGINS. Each datum BY PROGRAM (the guide's laid-datum.mjs) off the statement by which the dump's own 'gosem.cut.vars' lays the variable. In a bare row this is a premise. The card (YtmhblmonigakbaaDoorCards.lean) ties it to the program's text. -/
def laid_unicode_utf8_acceptRanges {H : Type} : DataW H := .agg [.agg [.lit (.int .u8 128), .lit (.int .u8 191)], .agg [.lit (.int .u8 160), .lit (.int .u8 191)], .agg [.lit (.int .u8 128), .lit (.int .u8 159)], .agg [.lit (.int .u8 144), .lit (.int .u8 191)], .agg [.lit (.int .u8 128), .lit (.int .u8 143)], .agg [.lit (.int .u8 0), .lit (.int .u8 0)], .agg [.lit (.int .u8 0), .lit (.int .u8 0)], .agg [.lit (.int .u8 0), .lit (.int .u8 0)], .agg [.lit (.int .u8 0), .lit (.int .u8 0)], .agg [.lit (.int .u8 0), .lit (.int .u8 0)], .agg [.lit (.int .u8 0), .lit (.int .u8 0)], .agg [.lit (.int .u8 0), .lit (.int .u8 0)], .agg [.lit (.int .u8 0), .lit (.int .u8 0)], .agg [.lit (.int .u8 0), .lit (.int .u8 0)], .agg [.lit (.int .u8 0), .lit (.int .u8 0)], .agg [.lit (.int .u8 0), .lit (.int .u8 0)]]
def laid_loop_example_g00773_impl_halfSums {H : Type} : DataW H := .agg [.lit (.int .u32 0), .lit (.int .u32 274646895), .lit (.int .u32 549293790), .lit (.int .u32 820201905), .lit (.int .u32 1098587580), .lit (.int .u32 1361435347), .lit (.int .u32 1640403810), .lit (.int .u32 1905808397), .lit (.int .u32 2197175160), .lit (.int .u32 2460548119), .lit (.int .u32 2722870694), .lit (.int .u32 2987750089), .lit (.int .u32 3280807620), .lit (.int .u32 3553878443), .lit (.int .u32 3811616794), .lit (.int .u32 4084100981)]
def laid_loop_example_g00773_impl_knownSigns {H : Type} : DataW H := .agg [.agg [.lit (.int .i64 32), .lit (.int .i64 46)], .agg [.lit (.int .i64 48), .lit (.int .i64 126)], .agg [.lit (.int .i64 161), .lit (.int .i64 255)], .agg [.lit (.int .i64 469), .lit (.int .i64 470)], .agg [.lit (.int .i64 768), .lit (.int .i64 772)], .agg [.lit (.int .i64 776), .lit (.int .i64 776)], .agg [.lit (.int .i64 778), .lit (.int .i64 778)], .agg [.lit (.int .i64 803), .lit (.int .i64 803)], .agg [.lit (.int .i64 807), .lit (.int .i64 807)], .agg [.lit (.int .i64 902), .lit (.int .i64 902)], .agg [.lit (.int .i64 904), .lit (.int .i64 906)], .agg [.lit (.int .i64 908), .lit (.int .i64 908)], .agg [.lit (.int .i64 910), .lit (.int .i64 911)], .agg [.lit (.int .i64 913), .lit (.int .i64 929)], .agg [.lit (.int .i64 931), .lit (.int .i64 937)], .agg [.lit (.int .i64 940), .lit (.int .i64 943)], .agg [.lit (.int .i64 945), .lit (.int .i64 969)], .agg [.lit (.int .i64 972), .lit (.int .i64 974)], .agg [.lit (.int .i64 1040), .lit (.int .i64 1103)], .agg [.lit (.int .i64 4352), .lit (.int .i64 4370)], .agg [.lit (.int .i64 4449), .lit (.int .i64 4469)], .agg [.lit (.int .i64 4520), .lit (.int .i64 4546)], .agg [.lit (.int .i64 7840), .lit (.int .i64 7841)], .agg [.lit (.int .i64 7852), .lit (.int .i64 7853)], .agg [.lit (.int .i64 8486), .lit (.int .i64 8486)], .agg [.lit (.int .i64 8491), .lit (.int .i64 8491)], .agg [.lit (.int .i64 44032), .lit (.int .i64 55203)]]
/-- One of Go's own tables, pinned by name: the form's constant. -/
def laid_unicode_utf8_first : DataW Unit := Go.Pinned.utf8First

/-- 'laws.FnAlike': WHATEVER THE INPUT: true; the input reads as it did. -/
def fnAlikeSpec : ChangeSpec := { name := "fnAlike", vars := ["loop.example/g00773/impl.knownSigns", "loop.example/g00773/impl.halfSums"], fn := fun _ => fun
  | [d, g1, g2] => { results := [.lit (.bool true)], args := [d], vars := [g1, g2] }
  | _ => none }
def fnAlikeRow : OpenClaim := { program := "ytmhblmonigakbaadoor", sum := "ebdae1829cc8fef7c47550f5fa675c09faaec1434556b73f92aadab668b2b71b", func := "loop.example/g00773/laws.FnAlike", spec := "fnAlike", unfollowed := true, recurses := true, named := ["unicode/utf8.first", "unicode/utf8.acceptRanges", "loop.example/g00773/impl.knownSigns", "loop.example/g00773/impl.halfSums"], plainKeys := false, apart := false, laid := [("unicode/utf8.acceptRanges", laid_unicode_utf8_acceptRanges), ("loop.example/g00773/impl.halfSums", laid_loop_example_g00773_impl_halfSums), ("loop.example/g00773/impl.knownSigns", laid_loop_example_g00773_impl_knownSigns), ("unicode/utf8.first", laid_unicode_utf8_first)] }
def FnAlikeSaid : Prop := fnAlikeRow.holds Tryd.pinned (OpenSpec.ofChange fnAlikeSpec)

/-- ITS FALSE NEIGHBOUR: 'it returns false'. Refute it at one input. -/
def fnAlikeWrong : ChangeSpec := { name := "fnAlike", vars := ["loop.example/g00773/impl.knownSigns", "loop.example/g00773/impl.halfSums"], fn := fun _ => fun
  | [d, g1, g2] => { results := [.lit (.bool false)], args := [d], vars := [g1, g2] }
  | _ => none }
def FnAlikeWrongFalsely : Prop := fnAlikeRow.holds Tryd.pinned (OpenSpec.ofChange fnAlikeWrong)

/-- 'laws.FnScan': WHATEVER THE INPUT: true; the input reads as it did. -/
def fnScanSpec : ChangeSpec := { name := "fnScan", vars := ["loop.example/g00773/impl.knownSigns", "loop.example/g00773/impl.halfSums"], fn := fun _ => fun
  | [d, g1, g2] => { results := [.lit (.bool true)], args := [d], vars := [g1, g2] }
  | _ => none }
def fnScanRow : OpenClaim := { program := "ytmhblmonigakbaadoor", sum := "ebdae1829cc8fef7c47550f5fa675c09faaec1434556b73f92aadab668b2b71b", func := "loop.example/g00773/laws.FnScan", spec := "fnScan", unfollowed := true, recurses := true, named := ["unicode/utf8.first", "unicode/utf8.acceptRanges", "loop.example/g00773/impl.knownSigns", "loop.example/g00773/impl.halfSums"], plainKeys := false, apart := false, laid := [("unicode/utf8.acceptRanges", laid_unicode_utf8_acceptRanges), ("loop.example/g00773/impl.halfSums", laid_loop_example_g00773_impl_halfSums), ("loop.example/g00773/impl.knownSigns", laid_loop_example_g00773_impl_knownSigns), ("unicode/utf8.first", laid_unicode_utf8_first)] }
def FnScanSaid : Prop := fnScanRow.holds Tryd.pinned (OpenSpec.ofChange fnScanSpec)

/-- ITS FALSE NEIGHBOUR: 'it returns false'. Refute it at one input. -/
def fnScanWrong : ChangeSpec := { name := "fnScan", vars := ["loop.example/g00773/impl.knownSigns", "loop.example/g00773/impl.halfSums"], fn := fun _ => fun
  | [d, g1, g2] => { results := [.lit (.bool false)], args := [d], vars := [g1, g2] }
  | _ => none }
def FnScanWrongFalsely : Prop := fnScanRow.holds Tryd.pinned (OpenSpec.ofChange fnScanWrong)

/-- 'laws.FnExactHashOf': WHATEVER THE INPUT: true; the input reads as it did. -/
def fnExactHashOfSpec : ChangeSpec := { name := "fnExactHashOf", vars := ["loop.example/g00773/impl.knownSigns", "loop.example/g00773/impl.halfSums"], fn := fun _ => fun
  | [d, g1, g2] => { results := [.lit (.bool true)], args := [d], vars := [g1, g2] }
  | _ => none }
def fnExactHashOfRow : OpenClaim := { program := "ytmhblmonigakbaadoor", sum := "ebdae1829cc8fef7c47550f5fa675c09faaec1434556b73f92aadab668b2b71b", func := "loop.example/g00773/laws.FnExactHashOf", spec := "fnExactHashOf", unfollowed := true, recurses := true, named := ["unicode/utf8.first", "unicode/utf8.acceptRanges", "loop.example/g00773/impl.knownSigns", "loop.example/g00773/impl.halfSums"], plainKeys := false, apart := false, laid := [("unicode/utf8.acceptRanges", laid_unicode_utf8_acceptRanges), ("loop.example/g00773/impl.halfSums", laid_loop_example_g00773_impl_halfSums), ("loop.example/g00773/impl.knownSigns", laid_loop_example_g00773_impl_knownSigns), ("unicode/utf8.first", laid_unicode_utf8_first)] }
def FnExactHashOfSaid : Prop := fnExactHashOfRow.holds Tryd.pinned (OpenSpec.ofChange fnExactHashOfSpec)

/-- ITS FALSE NEIGHBOUR: 'it returns false'. Refute it at one input. -/
def fnExactHashOfWrong : ChangeSpec := { name := "fnExactHashOf", vars := ["loop.example/g00773/impl.knownSigns", "loop.example/g00773/impl.halfSums"], fn := fun _ => fun
  | [d, g1, g2] => { results := [.lit (.bool false)], args := [d], vars := [g1, g2] }
  | _ => none }
def FnExactHashOfWrongFalsely : Prop := fnExactHashOfRow.holds Tryd.pinned (OpenSpec.ofChange fnExactHashOfWrong)

/-- 'laws.FnExactDirOk': WHATEVER THE INPUT: true; the input reads as it did. -/
def fnExactDirOkSpec : ChangeSpec := { name := "fnExactDirOk", vars := ["loop.example/g00773/impl.knownSigns", "loop.example/g00773/impl.halfSums"], fn := fun _ => fun
  | [d, g1, g2] => { results := [.lit (.bool true)], args := [d], vars := [g1, g2] }
  | _ => none }
def fnExactDirOkRow : OpenClaim := { program := "ytmhblmonigakbaadoor", sum := "ebdae1829cc8fef7c47550f5fa675c09faaec1434556b73f92aadab668b2b71b", func := "loop.example/g00773/laws.FnExactDirOk", spec := "fnExactDirOk", unfollowed := true, recurses := true, named := ["unicode/utf8.first", "unicode/utf8.acceptRanges", "loop.example/g00773/impl.knownSigns", "loop.example/g00773/impl.halfSums"], plainKeys := false, apart := false, laid := [("unicode/utf8.acceptRanges", laid_unicode_utf8_acceptRanges), ("loop.example/g00773/impl.halfSums", laid_loop_example_g00773_impl_halfSums), ("loop.example/g00773/impl.knownSigns", laid_loop_example_g00773_impl_knownSigns), ("unicode/utf8.first", laid_unicode_utf8_first)] }
def FnExactDirOkSaid : Prop := fnExactDirOkRow.holds Tryd.pinned (OpenSpec.ofChange fnExactDirOkSpec)

/-- ITS FALSE NEIGHBOUR: 'it returns false'. Refute it at one input. -/
def fnExactDirOkWrong : ChangeSpec := { name := "fnExactDirOk", vars := ["loop.example/g00773/impl.knownSigns", "loop.example/g00773/impl.halfSums"], fn := fun _ => fun
  | [d, g1, g2] => { results := [.lit (.bool false)], args := [d], vars := [g1, g2] }
  | _ => none }
def FnExactDirOkWrongFalsely : Prop := fnExactDirOkRow.holds Tryd.pinned (OpenSpec.ofChange fnExactDirOkWrong)

/-- 'laws.FnExactLook': WHATEVER THE INPUT: true; the input reads as it did. -/
def fnExactLookSpec : ChangeSpec := { name := "fnExactLook", vars := ["loop.example/g00773/impl.knownSigns", "loop.example/g00773/impl.halfSums"], fn := fun _ => fun
  | [d1, d2, g1, g2] => { results := [.lit (.bool true)], args := [d1, d2], vars := [g1, g2] }
  | _ => none }
def fnExactLookRow : OpenClaim := { program := "ytmhblmonigakbaadoor", sum := "ebdae1829cc8fef7c47550f5fa675c09faaec1434556b73f92aadab668b2b71b", func := "loop.example/g00773/laws.FnExactLook", spec := "fnExactLook", unfollowed := true, recurses := true, named := ["unicode/utf8.first", "unicode/utf8.acceptRanges", "loop.example/g00773/impl.knownSigns", "loop.example/g00773/impl.halfSums"], plainKeys := false, apart := false, laid := [("unicode/utf8.acceptRanges", laid_unicode_utf8_acceptRanges), ("loop.example/g00773/impl.halfSums", laid_loop_example_g00773_impl_halfSums), ("loop.example/g00773/impl.knownSigns", laid_loop_example_g00773_impl_knownSigns), ("unicode/utf8.first", laid_unicode_utf8_first)] }
def FnExactLookSaid : Prop := fnExactLookRow.holds Tryd.pinned (OpenSpec.ofChange fnExactLookSpec)

/-- ITS FALSE NEIGHBOUR: 'it returns false'. Refute it at one input. -/
def fnExactLookWrong : ChangeSpec := { name := "fnExactLook", vars := ["loop.example/g00773/impl.knownSigns", "loop.example/g00773/impl.halfSums"], fn := fun _ => fun
  | [d1, d2, g1, g2] => { results := [.lit (.bool false)], args := [d1, d2], vars := [g1, g2] }
  | _ => none }
def FnExactLookWrongFalsely : Prop := fnExactLookRow.holds Tryd.pinned (OpenSpec.ofChange fnExactLookWrong)

/-- 'laws.FnExactAdd': WHATEVER THE INPUT: true; the input reads as it did. -/
def fnExactAddSpec : ChangeSpec := { name := "fnExactAdd", vars := ["loop.example/g00773/impl.knownSigns", "loop.example/g00773/impl.halfSums"], fn := fun _ => fun
  | [d1, d2, d3, g1, g2] => { results := [.lit (.bool true)], args := [d1, d2, d3], vars := [g1, g2] }
  | _ => none }
def fnExactAddRow : OpenClaim := { program := "ytmhblmonigakbaadoor", sum := "ebdae1829cc8fef7c47550f5fa675c09faaec1434556b73f92aadab668b2b71b", func := "loop.example/g00773/laws.FnExactAdd", spec := "fnExactAdd", inPlace := ["slices.overlaps[loop.example/g00773/impl.Ent]"], unfollowed := true, recurses := true, named := ["unicode/utf8.first", "unicode/utf8.acceptRanges", "loop.example/g00773/impl.knownSigns", "loop.example/g00773/impl.halfSums"], plainKeys := false, apart := false, laid := [("unicode/utf8.acceptRanges", laid_unicode_utf8_acceptRanges), ("loop.example/g00773/impl.halfSums", laid_loop_example_g00773_impl_halfSums), ("loop.example/g00773/impl.knownSigns", laid_loop_example_g00773_impl_knownSigns), ("unicode/utf8.first", laid_unicode_utf8_first)] }
def FnExactAddSaid : Prop := fnExactAddRow.holds Tryd.pinned (OpenSpec.ofChange fnExactAddSpec)

/-- ITS FALSE NEIGHBOUR: 'it returns false'. Refute it at one input. -/
def fnExactAddWrong : ChangeSpec := { name := "fnExactAdd", vars := ["loop.example/g00773/impl.knownSigns", "loop.example/g00773/impl.halfSums"], fn := fun _ => fun
  | [d1, d2, d3, g1, g2] => { results := [.lit (.bool false)], args := [d1, d2, d3], vars := [g1, g2] }
  | _ => none }
def FnExactAddWrongFalsely : Prop := fnExactAddRow.holds Tryd.pinned (OpenSpec.ofChange fnExactAddWrong)

/-- 'laws.FnExactDrop': WHATEVER THE INPUT: true; the input reads as it did. -/
def fnExactDropSpec : ChangeSpec := { name := "fnExactDrop", vars := ["loop.example/g00773/impl.knownSigns", "loop.example/g00773/impl.halfSums"], fn := fun _ => fun
  | [d1, d2, g1, g2] => { results := [.lit (.bool true)], args := [d1, d2], vars := [g1, g2] }
  | _ => none }
def fnExactDropRow : OpenClaim := { program := "ytmhblmonigakbaadoor", sum := "ebdae1829cc8fef7c47550f5fa675c09faaec1434556b73f92aadab668b2b71b", func := "loop.example/g00773/laws.FnExactDrop", spec := "fnExactDrop", unfollowed := true, recurses := true, named := ["unicode/utf8.first", "unicode/utf8.acceptRanges", "loop.example/g00773/impl.knownSigns", "loop.example/g00773/impl.halfSums"], plainKeys := false, apart := false, laid := [("unicode/utf8.acceptRanges", laid_unicode_utf8_acceptRanges), ("loop.example/g00773/impl.halfSums", laid_loop_example_g00773_impl_halfSums), ("loop.example/g00773/impl.knownSigns", laid_loop_example_g00773_impl_knownSigns), ("unicode/utf8.first", laid_unicode_utf8_first)] }
def FnExactDropSaid : Prop := fnExactDropRow.holds Tryd.pinned (OpenSpec.ofChange fnExactDropSpec)

/-- ITS FALSE NEIGHBOUR: 'it returns false'. Refute it at one input. -/
def fnExactDropWrong : ChangeSpec := { name := "fnExactDrop", vars := ["loop.example/g00773/impl.knownSigns", "loop.example/g00773/impl.halfSums"], fn := fun _ => fun
  | [d1, d2, g1, g2] => { results := [.lit (.bool false)], args := [d1, d2], vars := [g1, g2] }
  | _ => none }
def FnExactDropWrongFalsely : Prop := fnExactDropRow.holds Tryd.pinned (OpenSpec.ofChange fnExactDropWrong)

/-- 'laws.FnExactRespell': WHATEVER THE INPUT: true; the input reads as it did. -/
def fnExactRespellSpec : ChangeSpec := { name := "fnExactRespell", vars := ["loop.example/g00773/impl.knownSigns", "loop.example/g00773/impl.halfSums"], fn := fun _ => fun
  | [d1, d2, d3, g1, g2] => { results := [.lit (.bool true)], args := [d1, d2, d3], vars := [g1, g2] }
  | _ => none }
def fnExactRespellRow : OpenClaim := { program := "ytmhblmonigakbaadoor", sum := "ebdae1829cc8fef7c47550f5fa675c09faaec1434556b73f92aadab668b2b71b", func := "loop.example/g00773/laws.FnExactRespell", spec := "fnExactRespell", unfollowed := true, recurses := true, named := ["unicode/utf8.first", "unicode/utf8.acceptRanges", "loop.example/g00773/impl.knownSigns", "loop.example/g00773/impl.halfSums"], plainKeys := false, apart := false, laid := [("unicode/utf8.acceptRanges", laid_unicode_utf8_acceptRanges), ("loop.example/g00773/impl.halfSums", laid_loop_example_g00773_impl_halfSums), ("loop.example/g00773/impl.knownSigns", laid_loop_example_g00773_impl_knownSigns), ("unicode/utf8.first", laid_unicode_utf8_first)] }
def FnExactRespellSaid : Prop := fnExactRespellRow.holds Tryd.pinned (OpenSpec.ofChange fnExactRespellSpec)

/-- ITS FALSE NEIGHBOUR: 'it returns false'. Refute it at one input. -/
def fnExactRespellWrong : ChangeSpec := { name := "fnExactRespell", vars := ["loop.example/g00773/impl.knownSigns", "loop.example/g00773/impl.halfSums"], fn := fun _ => fun
  | [d1, d2, d3, g1, g2] => { results := [.lit (.bool false)], args := [d1, d2, d3], vars := [g1, g2] }
  | _ => none }
def FnExactRespellWrongFalsely : Prop := fnExactRespellRow.holds Tryd.pinned (OpenSpec.ofChange fnExactRespellWrong)

/-- 'laws.FnExactNext': WHATEVER THE INPUT: true; the input reads as it did. -/
def fnExactNextSpec : ChangeSpec := { name := "fnExactNext", vars := ["loop.example/g00773/impl.knownSigns", "loop.example/g00773/impl.halfSums"], fn := fun _ => fun
  | [d1, d2, d3, g1, g2] => { results := [.lit (.bool true)], args := [d1, d2, d3], vars := [g1, g2] }
  | _ => none }
def fnExactNextRow : OpenClaim := { program := "ytmhblmonigakbaadoor", sum := "ebdae1829cc8fef7c47550f5fa675c09faaec1434556b73f92aadab668b2b71b", func := "loop.example/g00773/laws.FnExactNext", spec := "fnExactNext", unfollowed := true, recurses := true, named := ["unicode/utf8.first", "unicode/utf8.acceptRanges", "loop.example/g00773/impl.knownSigns", "loop.example/g00773/impl.halfSums"], plainKeys := false, apart := false, laid := [("unicode/utf8.acceptRanges", laid_unicode_utf8_acceptRanges), ("loop.example/g00773/impl.halfSums", laid_loop_example_g00773_impl_halfSums), ("loop.example/g00773/impl.knownSigns", laid_loop_example_g00773_impl_knownSigns), ("unicode/utf8.first", laid_unicode_utf8_first)] }
def FnExactNextSaid : Prop := fnExactNextRow.holds Tryd.pinned (OpenSpec.ofChange fnExactNextSpec)

/-- ITS FALSE NEIGHBOUR: 'it returns false'. Refute it at one input. -/
def fnExactNextWrong : ChangeSpec := { name := "fnExactNext", vars := ["loop.example/g00773/impl.knownSigns", "loop.example/g00773/impl.halfSums"], fn := fun _ => fun
  | [d1, d2, d3, g1, g2] => { results := [.lit (.bool false)], args := [d1, d2, d3], vars := [g1, g2] }
  | _ => none }
def FnExactNextWrongFalsely : Prop := fnExactNextRow.holds Tryd.pinned (OpenSpec.ofChange fnExactNextWrong)

/- THE SECOND FORM. 'bulk': how many values and letters a reading holds, each counted each time it is reached (what is shared counts as often as it is met; a slice's spare places count too). A statement '..UptoSaid' is the law's where the arguments, and the package variables that the reading takes, are together of bulk at most 1048576: NARROWER than '..Said'. Prove '..Said' where nothing that the law and all that it calls make is longer than what came in: it says more and counts as full. Else prove '..UptoSaid'. A law counts once. -/
mutual
def uptoBulk {H : Type} : DataW H → Nat
  | .lit (.string bytes) => bytes.length + 1
  | .lit _ => 1
  | .nil => 1
  | .ptr d => uptoBulk d + 1
  | .slice elems spare => uptoBulkAll elems + uptoBulkAll spare + 1
  | .agg parts => uptoBulkAll parts + 1
  | .iface _ d => uptoBulk d + 1
  | .map entries => uptoBulkEntries entries + 1
  | .held _ => 1
def uptoBulkAll {H : Type} : List (DataW H) → Nat
  | [] => 0
  | d :: r => uptoBulk d + uptoBulkAll r
def uptoBulkEntries {H : Type} : List (Lit × DataW H) → Nat
  | [] => 0
  | x :: r => uptoBulkEntry x + uptoBulkEntries r
def uptoBulkEntry {H : Type} : Lit × DataW H → Nat
  | (.string bytes, d) => bytes.length + uptoBulk d + 1
  | (_, d) => uptoBulk d + 1
 end
def uptoSmall : (H : Type) → List (DataW H) → Bool := fun _ ds => decide (uptoBulkAll ds ≤ 1048576)
def OpenSpec.upto (s : _root_.Go.ChangeSpec) : _root_.Go.OpenSpec := { _root_.Go.OpenSpec.ofChange s with cond := some uptoSmall }

/-- 'laws.FnAlike', WHERE WHAT IT READS IS OF BULK AT MOST 1048576: true; the input reads as it did. -/
def fnAlikeUptoRow : OpenClaim := { program := "ytmhblmonigakbaadoor", sum := "ebdae1829cc8fef7c47550f5fa675c09faaec1434556b73f92aadab668b2b71b", func := "loop.example/g00773/laws.FnAlike", spec := "fnAlike", unfollowed := true, recurses := true, named := ["unicode/utf8.first", "unicode/utf8.acceptRanges", "loop.example/g00773/impl.knownSigns", "loop.example/g00773/impl.halfSums"], plainKeys := false, apart := false, laid := [("unicode/utf8.acceptRanges", laid_unicode_utf8_acceptRanges), ("loop.example/g00773/impl.halfSums", laid_loop_example_g00773_impl_halfSums), ("loop.example/g00773/impl.knownSigns", laid_loop_example_g00773_impl_knownSigns), ("unicode/utf8.first", laid_unicode_utf8_first)], narrowed := true }
def FnAlikeUptoSaid : Prop := fnAlikeUptoRow.holds Tryd.pinned (OpenSpec.upto fnAlikeSpec)

/-- 'laws.FnScan', WHERE WHAT IT READS IS OF BULK AT MOST 1048576: true; the input reads as it did. -/
def fnScanUptoRow : OpenClaim := { program := "ytmhblmonigakbaadoor", sum := "ebdae1829cc8fef7c47550f5fa675c09faaec1434556b73f92aadab668b2b71b", func := "loop.example/g00773/laws.FnScan", spec := "fnScan", unfollowed := true, recurses := true, named := ["unicode/utf8.first", "unicode/utf8.acceptRanges", "loop.example/g00773/impl.knownSigns", "loop.example/g00773/impl.halfSums"], plainKeys := false, apart := false, laid := [("unicode/utf8.acceptRanges", laid_unicode_utf8_acceptRanges), ("loop.example/g00773/impl.halfSums", laid_loop_example_g00773_impl_halfSums), ("loop.example/g00773/impl.knownSigns", laid_loop_example_g00773_impl_knownSigns), ("unicode/utf8.first", laid_unicode_utf8_first)], narrowed := true }
def FnScanUptoSaid : Prop := fnScanUptoRow.holds Tryd.pinned (OpenSpec.upto fnScanSpec)

/-- 'laws.FnExactHashOf', WHERE WHAT IT READS IS OF BULK AT MOST 1048576: true; the input reads as it did. -/
def fnExactHashOfUptoRow : OpenClaim := { program := "ytmhblmonigakbaadoor", sum := "ebdae1829cc8fef7c47550f5fa675c09faaec1434556b73f92aadab668b2b71b", func := "loop.example/g00773/laws.FnExactHashOf", spec := "fnExactHashOf", unfollowed := true, recurses := true, named := ["unicode/utf8.first", "unicode/utf8.acceptRanges", "loop.example/g00773/impl.knownSigns", "loop.example/g00773/impl.halfSums"], plainKeys := false, apart := false, laid := [("unicode/utf8.acceptRanges", laid_unicode_utf8_acceptRanges), ("loop.example/g00773/impl.halfSums", laid_loop_example_g00773_impl_halfSums), ("loop.example/g00773/impl.knownSigns", laid_loop_example_g00773_impl_knownSigns), ("unicode/utf8.first", laid_unicode_utf8_first)], narrowed := true }
def FnExactHashOfUptoSaid : Prop := fnExactHashOfUptoRow.holds Tryd.pinned (OpenSpec.upto fnExactHashOfSpec)

/-- 'laws.FnExactDirOk', WHERE WHAT IT READS IS OF BULK AT MOST 1048576: true; the input reads as it did. -/
def fnExactDirOkUptoRow : OpenClaim := { program := "ytmhblmonigakbaadoor", sum := "ebdae1829cc8fef7c47550f5fa675c09faaec1434556b73f92aadab668b2b71b", func := "loop.example/g00773/laws.FnExactDirOk", spec := "fnExactDirOk", unfollowed := true, recurses := true, named := ["unicode/utf8.first", "unicode/utf8.acceptRanges", "loop.example/g00773/impl.knownSigns", "loop.example/g00773/impl.halfSums"], plainKeys := false, apart := false, laid := [("unicode/utf8.acceptRanges", laid_unicode_utf8_acceptRanges), ("loop.example/g00773/impl.halfSums", laid_loop_example_g00773_impl_halfSums), ("loop.example/g00773/impl.knownSigns", laid_loop_example_g00773_impl_knownSigns), ("unicode/utf8.first", laid_unicode_utf8_first)], narrowed := true }
def FnExactDirOkUptoSaid : Prop := fnExactDirOkUptoRow.holds Tryd.pinned (OpenSpec.upto fnExactDirOkSpec)

/-- 'laws.FnExactLook', WHERE WHAT IT READS IS OF BULK AT MOST 1048576: true; the input reads as it did. -/
def fnExactLookUptoRow : OpenClaim := { program := "ytmhblmonigakbaadoor", sum := "ebdae1829cc8fef7c47550f5fa675c09faaec1434556b73f92aadab668b2b71b", func := "loop.example/g00773/laws.FnExactLook", spec := "fnExactLook", unfollowed := true, recurses := true, named := ["unicode/utf8.first", "unicode/utf8.acceptRanges", "loop.example/g00773/impl.knownSigns", "loop.example/g00773/impl.halfSums"], plainKeys := false, apart := false, laid := [("unicode/utf8.acceptRanges", laid_unicode_utf8_acceptRanges), ("loop.example/g00773/impl.halfSums", laid_loop_example_g00773_impl_halfSums), ("loop.example/g00773/impl.knownSigns", laid_loop_example_g00773_impl_knownSigns), ("unicode/utf8.first", laid_unicode_utf8_first)], narrowed := true }
def FnExactLookUptoSaid : Prop := fnExactLookUptoRow.holds Tryd.pinned (OpenSpec.upto fnExactLookSpec)

/-- 'laws.FnExactAdd', WHERE WHAT IT READS IS OF BULK AT MOST 1048576: true; the input reads as it did. -/
def fnExactAddUptoRow : OpenClaim := { program := "ytmhblmonigakbaadoor", sum := "ebdae1829cc8fef7c47550f5fa675c09faaec1434556b73f92aadab668b2b71b", func := "loop.example/g00773/laws.FnExactAdd", spec := "fnExactAdd", inPlace := ["slices.overlaps[loop.example/g00773/impl.Ent]"], unfollowed := true, recurses := true, named := ["unicode/utf8.first", "unicode/utf8.acceptRanges", "loop.example/g00773/impl.knownSigns", "loop.example/g00773/impl.halfSums"], plainKeys := false, apart := false, laid := [("unicode/utf8.acceptRanges", laid_unicode_utf8_acceptRanges), ("loop.example/g00773/impl.halfSums", laid_loop_example_g00773_impl_halfSums), ("loop.example/g00773/impl.knownSigns", laid_loop_example_g00773_impl_knownSigns), ("unicode/utf8.first", laid_unicode_utf8_first)], narrowed := true }
def FnExactAddUptoSaid : Prop := fnExactAddUptoRow.holds Tryd.pinned (OpenSpec.upto fnExactAddSpec)

/-- 'laws.FnExactDrop', WHERE WHAT IT READS IS OF BULK AT MOST 1048576: true; the input reads as it did. -/
def fnExactDropUptoRow : OpenClaim := { program := "ytmhblmonigakbaadoor", sum := "ebdae1829cc8fef7c47550f5fa675c09faaec1434556b73f92aadab668b2b71b", func := "loop.example/g00773/laws.FnExactDrop", spec := "fnExactDrop", unfollowed := true, recurses := true, named := ["unicode/utf8.first", "unicode/utf8.acceptRanges", "loop.example/g00773/impl.knownSigns", "loop.example/g00773/impl.halfSums"], plainKeys := false, apart := false, laid := [("unicode/utf8.acceptRanges", laid_unicode_utf8_acceptRanges), ("loop.example/g00773/impl.halfSums", laid_loop_example_g00773_impl_halfSums), ("loop.example/g00773/impl.knownSigns", laid_loop_example_g00773_impl_knownSigns), ("unicode/utf8.first", laid_unicode_utf8_first)], narrowed := true }
def FnExactDropUptoSaid : Prop := fnExactDropUptoRow.holds Tryd.pinned (OpenSpec.upto fnExactDropSpec)

/-- 'laws.FnExactRespell', WHERE WHAT IT READS IS OF BULK AT MOST 1048576: true; the input reads as it did. -/
def fnExactRespellUptoRow : OpenClaim := { program := "ytmhblmonigakbaadoor", sum := "ebdae1829cc8fef7c47550f5fa675c09faaec1434556b73f92aadab668b2b71b", func := "loop.example/g00773/laws.FnExactRespell", spec := "fnExactRespell", unfollowed := true, recurses := true, named := ["unicode/utf8.first", "unicode/utf8.acceptRanges", "loop.example/g00773/impl.knownSigns", "loop.example/g00773/impl.halfSums"], plainKeys := false, apart := false, laid := [("unicode/utf8.acceptRanges", laid_unicode_utf8_acceptRanges), ("loop.example/g00773/impl.halfSums", laid_loop_example_g00773_impl_halfSums), ("loop.example/g00773/impl.knownSigns", laid_loop_example_g00773_impl_knownSigns), ("unicode/utf8.first", laid_unicode_utf8_first)], narrowed := true }
def FnExactRespellUptoSaid : Prop := fnExactRespellUptoRow.holds Tryd.pinned (OpenSpec.upto fnExactRespellSpec)

/-- 'laws.FnExactNext', WHERE WHAT IT READS IS OF BULK AT MOST 1048576: true; the input reads as it did. -/
def fnExactNextUptoRow : OpenClaim := { program := "ytmhblmonigakbaadoor", sum := "ebdae1829cc8fef7c47550f5fa675c09faaec1434556b73f92aadab668b2b71b", func := "loop.example/g00773/laws.FnExactNext", spec := "fnExactNext", unfollowed := true, recurses := true, named := ["unicode/utf8.first", "unicode/utf8.acceptRanges", "loop.example/g00773/impl.knownSigns", "loop.example/g00773/impl.halfSums"], plainKeys := false, apart := false, laid := [("unicode/utf8.acceptRanges", laid_unicode_utf8_acceptRanges), ("loop.example/g00773/impl.halfSums", laid_loop_example_g00773_impl_halfSums), ("loop.example/g00773/impl.knownSigns", laid_loop_example_g00773_impl_knownSigns), ("unicode/utf8.first", laid_unicode_utf8_first)], narrowed := true }
def FnExactNextUptoSaid : Prop := fnExactNextUptoRow.holds Tryd.pinned (OpenSpec.upto fnExactNextSpec)

end Rows
end Go.Proofs.YtmhblmonigakbaaDoor
