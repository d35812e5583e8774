/- Extents: ExtsOk's law at both sides' contracts. -/
import Derived.Test.YtkbkanmmpdeokaaRows
import Derived.Test.YtkbkanmmpdeokaaIEc
import Derived.Test.YtkbkanmmpdeokaaWExO
namespace Go.Proofs.Ytkbkanmmpdeokaa
open Go.RowKit Go.Sort

theorem allExtsOk (v : Value) (l : List Ex) (w : World) (hv : ExsAt w v l) (hl : l.length ≤ 9223372036854775807) :
    Calls Try.prog 4 #[v] w fun e w' => e = .returned (.bool true) ∧ Below w.heap.size w w' :=
  wExtsOk v l (okE l) w hv hl (fun k w' u _ hu => sExtsOk u l w' k hu) (fun k w' u _ hu => iExtsOk u l w' k hu)
end Go.Proofs.Ytkbkanmmpdeokaa
