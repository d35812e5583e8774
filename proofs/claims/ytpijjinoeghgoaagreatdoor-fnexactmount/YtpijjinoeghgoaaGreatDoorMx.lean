/- Directories: a row of entries that is handed to a law, opened. -/
import Derived.Test.YtpijjinoeghgoaaGreatDoorRows
import Derived.Test.YtpijjinoeghgoaaGreatDoorMq
import Derived.Deep.Slices
import Derived.Lib.SmallJoins
import Derived.ChangeArms
namespace Go.Proofs.YtpijjinoeghgoaaGreatDoor

section
open Go.RowKit Go.ChangeShapes Go.WideShapes Go.Deep Go.Joins
end

end Go.Proofs.YtpijjinoeghgoaaGreatDoor
