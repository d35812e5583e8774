/- Minus' law, whole. -/
import Derived.Test.YtkpeabbilcmabaaRows
import Derived.Test.YtkpeabbilcmabaaWRgM
import Derived.Test.YtkpeabbilcmabaaRgE
import Derived.Test.YtkpeabbilcmabaaRgM
import Derived.Test.YtkpeabbilcmabaaIRh
namespace Go.Proofs.Ytkpeabbilcmabaa
open Go.RowKit
theorem allMinus (v : Value) (l : List Rg) (u : Value) (m : List Rg) (w : World) (hv : RgsAt w v l) (hl : l.length ≤ 9223372036854775807) (hu : RgsAt w u m) (hm : m.length ≤ 9223372036854775807) :
    Calls Try.prog 7 #[v, u] w fun e w' => e = .returned (.bool true) ∧ Below w.heap.size w w' :=
  wMinus v l u m (rgMinus l m) w hv hl hu hm (by
    by_cases h : RgR l ∧ RgR m
    · have := (rgMinus_right h.1 h.2).1.len; omega
    · rw [rgMinus_no h]; exact Nat.zero_le _)
    (fun h1 h2 w' x y _ hx hy => sMinus x y l m w' hx hy (by omega) (by omega)) (fun h1 h2 w' x y _ hx hy => iMinus x y l m w' hx hy (by omega) (by omega))
end Go.Proofs.Ytkpeabbilcmabaa
