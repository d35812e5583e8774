/- Names: what slices.symMergeCmpFunc says of parts that are shorter. -/
import Derived.Test.YtkgnlamlmnhleaaDoorRows
import Derived.Test.YtkgnlamlmnhleaaDoorSyB
namespace Go.Proofs.YtkgnlamlmnhleaaDoor
open Go.RowKit Go.Shelf Go.Lib Go.Sort

/-- what merging says of parts shorter than N -/
def SymSays (blk off cap sz N : Nat) : Prop := ∀ (a m b : Nat) (d : Array Int) (w : World), b - a < N → d.size = sz → HoldsK encP 2 w blk off d → blk < w.heap.size → a < m → m < b → b ≤ sz → Srtd clsN a m d → Srtd clsN m b d →
  Calls Tryd.prog 66 #[.slice (some ⟨blk, off, none⟩) sz cap, .int .i64 a, .int .i64 m, .int .i64 b, .func (.func 42) #[] #[]] w fun e w' => e = .returned (.tuple #[]) ∧ ∃ d', SWp w blk off d' w' ∧ Merged clsN a b d d'

end Go.Proofs.YtkgnlamlmnhleaaDoor
