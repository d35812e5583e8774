/- Calls. Pure. -/
import Derived.WalkKit
namespace Go.Proofs.YtpijjinoeghgoaaGreatDoor

section

end

end Go.Proofs.YtpijjinoeghgoaaGreatDoor
