/- What the walk of FnUnits asks of the program's Units. -/
import Derived.Test.YtkgnlamlmnhleaaRows
import Derived.Test.YtkgnlamlmnhleaaLwUn
import Derived.Test.YtkgnlamlmnhleaaIUo
namespace Go.Proofs.Ytkgnlamlmnhleaa
open Go.RowKit

theorem unImpl : UnImpl := fun v l w h hl => iUnits v l w hl h
end Go.Proofs.Ytkgnlamlmnhleaa
