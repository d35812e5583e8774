/- Union's law, whole. -/
import Derived.Test.YtkpeabbilcmabaaRows
import Derived.Test.YtkpeabbilcmabaaWRgU
import Derived.Test.YtkpeabbilcmabaaRgE
import Derived.Test.YtkpeabbilcmabaaIRe
namespace Go.Proofs.Ytkpeabbilcmabaa
open Go.RowKit
theorem allUnion (v : Value) (l : List Rg) (u : Value) (m : List Rg) (w : World) (hv : RgsAt w v l) (hl : l.length ≤ 9223372036854775807) (hu : RgsAt w u m) (hm : m.length ≤ 9223372036854775807) :
    Calls Try.prog 6 #[v, u] w fun e w' => e = .returned (.bool true) ∧ Below w.heap.size w w' :=
  wUnion v l u m (rgUnion l m) w hv hl hu hm (by
    by_cases h : RgR l ∧ RgR m
    · have := (rgUnion_right h.1 h.2).1.len; omega
    · rw [rgUnion_no h]; exact Nat.zero_le _)
    (fun h1 h2 w' x y _ hx hy => sUnion x y l m w' hx hy (by omega) (by omega)) (fun h1 h2 w' x y _ hx hy => iUnion x y l m w' hx hy (by omega) (by omega))
end Go.Proofs.Ytkpeabbilcmabaa
