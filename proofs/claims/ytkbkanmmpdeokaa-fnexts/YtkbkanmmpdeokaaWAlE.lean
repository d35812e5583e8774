/- Extents: what the program's functions answer, together. -/
import Derived.Test.YtkbkanmmpdeokaaRows
import Derived.Test.YtkbkanmmpdeokaaIEd
import Derived.Test.YtkbkanmmpdeokaaIEh
import Derived.Test.YtkbkanmmpdeokaaIEj
import Derived.Test.YtkbkanmmpdeokaaIEk
import Derived.Test.YtkbkanmmpdeokaaLwE
namespace Go.Proofs.Ytkbkanmmpdeokaa
open Go.RowKit Go.Sort

theorem exImpl (w : World) : ExImpl w where
  b := fun v l i w' _ hv hl => iBlockAt v l i w' hl hv
  p := fun v l i b w' _ hv hl => iPutBlock v l i b w' hl hv
  c := fun v l n w' _ hv hl => iCutAt v l n w' hl hv
  s := fun v l w' _ hv hl => iBlocksOf v l w' hl hv
end Go.Proofs.Ytkbkanmmpdeokaa
