/- Extents: CutAt's law at both sides' contracts. -/
import Derived.Test.YtkbkanmmpdeokaaRows
import Derived.Test.YtkbkanmmpdeokaaIEj
import Derived.Test.YtkbkanmmpdeokaaWExC
namespace Go.Proofs.Ytkbkanmmpdeokaa
open Go.RowKit Go.Sort

theorem allCutAt (v : Value) (l : List Ex) (n : Int) (w : World) (hv : ExsAt w v l) (hl : l.length ≤ 9223372036854775807) :
    Calls Try.prog 7 #[v, .int .i64 n] w fun e w' => e = .returned (.bool true) ∧ Below w.heap.size w w' :=
  wCutAt v l n (cutN l n) (goneE l n) w hv hl (by have := cutN_len l n; omega) (by have := goneE_len l n; omega) (fun k w' u _ hu => sCutAt u l n w' k hu)
    (fun k w' u _ hu => (iCutAt u l n w' k hu).mono fun e w'' ⟨x0, x1, he, r0, r1, b⟩ => ⟨x0, x1, he, r0, r1, apart_ei r0 r1, b⟩)
end Go.Proofs.Ytkbkanmmpdeokaa
