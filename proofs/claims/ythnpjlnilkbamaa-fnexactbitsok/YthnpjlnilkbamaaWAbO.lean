/- BitsOk's law, whole. -/
import Derived.Test.YthnpjlnilkbamaaRows
import Derived.Test.YthnpjlnilkbamaaWBtO
import Derived.Test.YthnpjlnilkbamaaIBa
namespace Go.Proofs.Ythnpjlnilkbamaa
open Go.RowKit
theorem allBitsOk (v : Value) (l : List Bool) (w : World) (hv : BosAt w v l) (hl : l.length ≤ 9223372036854775807) :
    Calls Try.prog 3 #[v] w fun e w' => e = .returned (.bool true) ∧ Below w.heap.size w w' :=
  wBitsOk v l (decide (l.length = 24)) w hv hl
    (fun _ w' u _ hu => (sBitsOk u l w' hu).mono fun _ _ ⟨h, h2⟩ => ⟨h, by rw [h2]; exact Below.refl _ _⟩)
    (fun _ w' u _ hu => (iBitsOk u l w' hu).mono fun _ _ ⟨h, h2⟩ => ⟨h, by rw [h2]; exact Below.refl _ _⟩)
end Go.Proofs.Ythnpjlnilkbamaa
