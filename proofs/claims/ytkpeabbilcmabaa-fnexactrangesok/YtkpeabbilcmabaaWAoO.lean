/- RangesOk's law, whole. -/
import Derived.Test.YtkpeabbilcmabaaRows
import Derived.Test.YtkpeabbilcmabaaWRgO
import Derived.Test.YtkpeabbilcmabaaIRa
namespace Go.Proofs.Ytkpeabbilcmabaa
open Go.RowKit
theorem allRangesOk (v : Value) (l : List Rg) (w : World) (hv : RgsAt w v l) (hl : l.length ≤ 9223372036854775807) :
    Calls Try.prog 4 #[v] w fun e w' => e = .returned (.bool true) ∧ Below w.heap.size w w' :=
  wRangesOk v l (rgsB l) w hv hl (fun h w' u _ hu => sRangesOk u l w' hu (by omega)) (fun h w' u _ hu => iRangesOk u l w' hu (by omega))
end Go.Proofs.Ytkpeabbilcmabaa
