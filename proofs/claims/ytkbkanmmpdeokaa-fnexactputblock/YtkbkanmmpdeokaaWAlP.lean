/- Extents: PutBlock's law at both sides' contracts. -/
import Derived.Test.YtkbkanmmpdeokaaRows
import Derived.Test.YtkbkanmmpdeokaaIEh
import Derived.Test.YtkbkanmmpdeokaaExD
import Derived.Test.YtkbkanmmpdeokaaWExP
namespace Go.Proofs.Ytkbkanmmpdeokaa
open Go.RowKit Go.Sort

theorem putN_len2 (l : List Ex) (i b : Int) : (putN l i b).length ≤ 2097152 := by
  by_cases h : ExR l
  · have := putN_len l i b h.len; omega
  · rw [(putN_bad h i b).1]; exact Nat.zero_le _
theorem allPutBlock (v : Value) (l : List Ex) (i b : Int) (w : World) (hv : ExsAt w v l) (hl : l.length ≤ 9223372036854775807) :
    Calls Try.prog 6 #[v, .int .i64 i, .int .i64 b] w fun e w' => e = .returned (.bool true) ∧ Below w.heap.size w w' :=
  wPutBlock v l i b (putN l i b) (putB l i b) w hv hl (putN_len2 l i b) (fun k w' u _ hu => sPutBlock u l i b w' k hu) (fun k w' u _ hu => iPutBlock u l i b w' k hu)
end Go.Proofs.Ytkbkanmmpdeokaa
