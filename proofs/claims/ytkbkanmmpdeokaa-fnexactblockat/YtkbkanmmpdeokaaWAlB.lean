/- Extents: BlockAt's law at both sides' contracts. -/
import Derived.Test.YtkbkanmmpdeokaaRows
import Derived.Test.YtkbkanmmpdeokaaIEd
import Derived.Test.YtkbkanmmpdeokaaWExB
namespace Go.Proofs.Ytkbkanmmpdeokaa
open Go.RowKit Go.Sort

theorem allBlockAt (v : Value) (l : List Ex) (i : Int) (w : World) (hv : ExsAt w v l) (hl : l.length ≤ 9223372036854775807) :
    Calls Try.prog 5 #[v, .int .i64 i] w fun e w' => e = .returned (.bool true) ∧ Below w.heap.size w w' :=
  wBlockAt v l i (blockN l i) w hv hl (fun k w' u _ hu => sBlockAt u l i w' k hu) (fun k w' u _ hu => iBlockAt u l i w' k hu)

end Go.Proofs.Ytkbkanmmpdeokaa
