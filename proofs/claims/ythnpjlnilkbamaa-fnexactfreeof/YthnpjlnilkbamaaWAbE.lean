/- FreeOf's law, whole. -/
import Derived.Test.YthnpjlnilkbamaaRows
import Derived.Test.YthnpjlnilkbamaaWBtE
import Derived.Test.YthnpjlnilkbamaaBtF
import Derived.Test.YthnpjlnilkbamaaIBc
namespace Go.Proofs.Ythnpjlnilkbamaa
open Go.RowKit
theorem allFreeOf (v : Value) (l : List Bool) (w : World) (hv : BosAt w v l) (hl : l.length ≤ 9223372036854775807) :
    Calls Try.prog 5 #[v] w fun e w' => e = .returned (.bool true) ∧ Below w.heap.size w w' :=
  wFreeOf v l (freeN l) w hv hl (fun _ w' u _ hu => sFreeOf u l w' hu) (fun _ w' u _ hu => iFreeOf u l w' hu)
end Go.Proofs.Ythnpjlnilkbamaa
