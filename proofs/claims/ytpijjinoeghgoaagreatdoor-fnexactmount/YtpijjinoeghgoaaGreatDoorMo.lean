/- Signs: what is written is read as it was; what is read is what is written. No word of the program. Names that are one: what the law of Alike leans on. No walk. -/
import Derived.Test.YtpijjinoeghgoaaGreatDoorRows
import Derived.Test.YtpijjinoeghgoaaGreatDoorMk
import Derived.Test.YtpijjinoeghgoaaGreatDoorMm
namespace Go.Proofs.YtpijjinoeghgoaaGreatDoor

section

end

section
open Go.RowKit
end

end Go.Proofs.YtpijjinoeghgoaaGreatDoor
