/- Extents: BlocksOf's law at both sides' contracts. -/
import Derived.Test.YtkbkanmmpdeokaaRows
import Derived.Test.YtkbkanmmpdeokaaIEk
import Derived.Test.YtkbkanmmpdeokaaExF
import Derived.Test.YtkbkanmmpdeokaaWExS
namespace Go.Proofs.Ytkbkanmmpdeokaa
open Go.RowKit Go.Sort

theorem allBlocksOf (v : Value) (l : List Ex) (w : World) (hv : ExsAt w v l) (hl : l.length ≤ 9223372036854775807) :
    Calls Try.prog 8 #[v] w fun e w' => e = .returned (.bool true) ∧ Below w.heap.size w w' :=
  wBlocksOf v l (blocksN l) w hv hl (by have := blocksN_len l; omega) (fun k w' u _ hu => sBlocksOf u l w' k hu) (fun k w' u _ hu => iBlocksOf u l w' k hu)
end Go.Proofs.Ytkbkanmmpdeokaa
