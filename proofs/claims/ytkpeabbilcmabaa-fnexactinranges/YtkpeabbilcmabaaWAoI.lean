/- InRanges' law, whole. -/
import Derived.Test.YtkpeabbilcmabaaRows
import Derived.Test.YtkpeabbilcmabaaWRgI
import Derived.Test.YtkpeabbilcmabaaIRa
namespace Go.Proofs.Ytkpeabbilcmabaa
open Go.RowKit
theorem allInRanges (v : Value) (l : List Rg) (c : Int) (w : World) (hv : RgsAt w v l) (hl : l.length ≤ 9223372036854775807) :
    Calls Try.prog 5 #[v, .int .i64 c] w fun e w' => e = .returned (.bool true) ∧ Below w.heap.size w w' :=
  wInRanges v l c (rgInN l c) w hv hl (fun h w' u _ hu => sInRanges u l c w' hu (by omega)) (fun h w' u _ hu => iInRanges u l c w' hu (by omega))
end Go.Proofs.Ytkpeabbilcmabaa
