/- Rows that are kept while one that lies below them is marked. -/
import Derived.Test.YtkgnlamlmnhleaaRows
import Derived.Test.YtkgnlamlmnhleaaIntS
import Derived.Test.YtkgnlamlmnhleaaSgn
namespace Go.Proofs.Ytkgnlamlmnhleaa
open Go.RowKit

/-- a row is marked, and one that was made behind it is kept -/
theorem marked_kept2 {w3 w7 w8 : World} {B0 B1 : Nat} {u v : Value} {l m : List Int} (hu : IntRow w3 B0 u l) (hB : w3.heap.size ≤ B1) (hv : IntRow w7 B1 v m) (_hu7 : IntRow w7 B0 u l) (hg : w7.grownBy w8 u.ownBlock) :
    IntRow w8 B1 v m := by
  refine World.ownsRow.kept hv hg ?_
  cases e : v.ownBlock with
  | none => exact .inl rfl
  | some k =>
    right
    intro e2
    have h1 := (World.ownsRow.lt hv k e).1
    have h2 := (World.ownsRow.lt hu k e2.symm).2
    omega

end Go.Proofs.Ytkgnlamlmnhleaa
