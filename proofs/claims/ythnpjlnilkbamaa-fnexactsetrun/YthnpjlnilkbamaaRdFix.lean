/- What spec.l1In, impl.widthOk, spec.ReadFixed and impl.ReadFixed answer, at every argument. -/
import Derived.Test.YthnpjlnilkbamaaRows
import Derived.Test.YthnpjlnilkbamaaNum
import Derived.WalkKit
import Derived.WalkSpells
import Derived.WalkLawsBesides
namespace Go.Proofs.Ythnpjlnilkbamaa
open Go.RowKit






end Go.Proofs.Ythnpjlnilkbamaa
