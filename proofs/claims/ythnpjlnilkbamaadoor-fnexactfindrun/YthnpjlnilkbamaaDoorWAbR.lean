/- the laws of Runs and FindRun, whole; what the program's four functions answer, together. -/
import Derived.Test.YthnpjlnilkbamaaDoorRows
import Derived.Test.YthnpjlnilkbamaaDoorWBtR
import Derived.Test.YthnpjlnilkbamaaDoorWBtF
import Derived.Test.YthnpjlnilkbamaaDoorBtF
import Derived.Test.YthnpjlnilkbamaaDoorIBf
namespace Go.Proofs.YthnpjlnilkbamaaDoor
open Go.RowKit
theorem allRuns (v : Value) (l : List Bool) (w : World) (hT : TzTab w) (hv : BosAt w v l) (hl : l.length ≤ 9223372036854775807) :
    Calls Tryd.prog 4 #[v] w fun e w' => e = .returned (.bool true) ∧ Below w.heap.size w w' :=
  wRuns v l (runsN l) w hv hl (by have := runsN_len l; omega) (fun _ w' u _ hu => sRuns u l w' hu) (fun _ w' u hb hu => iRuns u l w' (hT.below hb) hu)
theorem allFindRun (v : Value) (l : List Bool) (n : Int) (w : World) (hT : TzTab w) (hv : BosAt w v l) (hl : l.length ≤ 9223372036854775807) :
    Calls Tryd.prog 5 #[v, .int .i64 n] w fun e w' => e = .returned (.bool true) ∧ Below w.heap.size w w' :=
  wFindRun v l n (findN l n) w hv hl (fun _ w' u _ hu => sFindRun u l n w' hu) (fun _ w' u hb hu => iFindRun u l n w' (hT.below hb) hu)
end Go.Proofs.YthnpjlnilkbamaaDoor
