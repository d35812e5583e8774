/- what the program's four functions answer, together. -/
import Derived.Test.YthnpjlnilkbamaaDoorRows
import Derived.Test.YthnpjlnilkbamaaDoorLwB
import Derived.Test.YthnpjlnilkbamaaDoorIBc
import Derived.Test.YthnpjlnilkbamaaDoorIBd
import Derived.Test.YthnpjlnilkbamaaDoorIBf
namespace Go.Proofs.YthnpjlnilkbamaaDoor
open Go.RowKit
theorem btImpl (w : World) (hT : TzTab w) : BtImpl w where
  r := fun v b w' hb hv _ => iRuns v b w' (hT.below hb) hv
  f := fun v b n w' hb hv _ => iFindRun v b n w' (hT.below hb) hv
  s := fun v b p n x w' hv _ => iSetRun v b p n x w' hv
  e := fun v b w' hv _ => iFreeOf v b w' hv
end Go.Proofs.YthnpjlnilkbamaaDoor
