/- What spec.l1In, impl.widthOk, spec.ReadFixed and impl.ReadFixed answer, at every argument. -/
import Derived.Test.YtpmdhoiodbjojaaRows
import Derived.Test.YtpmdhoiodbjojaaNum
import Derived.WalkKit
import Derived.WalkSpells
import Derived.WalkLawsBesides
namespace Go.Proofs.Ytpmdhoiodbjojaa
open Go.RowKit

end Go.Proofs.Ytpmdhoiodbjojaa
