/- What spec.l1In, impl.widthOk, spec.ReadFixed and impl.ReadFixed answer, at every argument. -/
import Derived.Test.YthnpjlnilkbamaaDoorRows
import Derived.Test.YthnpjlnilkbamaaDoorNum
import Derived.WalkKit
import Derived.WalkSpells
import Derived.WalkLawsBesides
namespace Go.Proofs.YthnpjlnilkbamaaDoor
open Go.RowKit






end Go.Proofs.YthnpjlnilkbamaaDoor
