/- CountOf's law, whole. -/
import Derived.Test.YtkpeabbilcmababRows
import Derived.Test.YtkpeabbilcmababWRgC
import Derived.Test.YtkpeabbilcmababIRa
namespace Go.Proofs.Ytkpeabbilcmabab
open Go.RowKit
theorem allCountOf (v : Value) (l : List Rg) (w : World) (hv : RgsAt w v l) (hl : l.length ≤ 9223372036854775807) :
    Calls Try.prog 3 #[v] w fun e w' => e = .returned (.bool true) ∧ Below w.heap.size w w' :=
  wCountOf v l (rgCount l) w hv hl (fun h w' u _ hu => sCountOf u l w' hu (by omega)) (fun h w' u _ hu => iCountOf u l w' hu (by omega))
end Go.Proofs.Ytkpeabbilcmabab
