/- Signs: impl.between. -/
import Derived.Test.YtkpeabbilcmababDoorRows
import Derived.Test.YtkpeabbilcmababDoorSgn
import Derived.WalkKit
import Derived.WalkSpells
import Derived.WalkLawsBesides
namespace Go.Proofs.YtkpeabbilcmababDoor
open Go.RowKit


theorem hs_alloc (w : World) (o : Obj) : (w.alloc o).heap.size = w.heap.size + 1 := by simp

end Go.Proofs.YtkpeabbilcmababDoor
