/- what the program's four functions answer, together. -/
import Derived.Test.YtkpeabbilcmabaaRows
import Derived.Test.YtkpeabbilcmabaaLwR
import Derived.Test.YtkpeabbilcmabaaIRe
import Derived.Test.YtkpeabbilcmabaaIRh
namespace Go.Proofs.Ytkpeabbilcmabaa
open Go.RowKit
theorem rgImpl : RgImpl where
  u := fun va vb a b w ha hb h1 h2 => iUnion va vb a b w ha hb (by omega) (by omega)
  m := fun va vb a b w ha hb h1 h2 => iMinus va vb a b w ha hb (by omega) (by omega)
  i := fun v l c w hv h1 => iInRanges v l c w hv (by omega)
  c := fun v l w hv h1 => iCountOf v l w hv (by omega)
end Go.Proofs.Ytkpeabbilcmabaa
