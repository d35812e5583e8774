/- SetRun's law, whole. -/
import Derived.Test.YthnpjlnilkbamaaRows
import Derived.Test.YthnpjlnilkbamaaWBtS
import Derived.Test.YthnpjlnilkbamaaBtF
import Derived.Test.YthnpjlnilkbamaaIBd
namespace Go.Proofs.Ythnpjlnilkbamaa
open Go.RowKit
theorem allSetRun (v : Value) (l : List Bool) (p n : Int) (x : Bool) (w : World) (hv : BosAt w v l) (hl : l.length ≤ 9223372036854775807) :
    Calls Try.prog 4 #[v, .int .i64 p, .int .i64 n, .bool x] w fun e w' => e = .returned (.bool true) ∧ Below w.heap.size w w' :=
  wSetRun v l p n x (setRunN l p n x) (setRunB l p n x) w hv hl (by have := setRunN_len l p n x; omega) (fun _ w' u _ hu => sSetRun u l p n x w' hu) (fun _ w' u _ hu => iSetRun u l p n x w' hu)
end Go.Proofs.Ythnpjlnilkbamaa
