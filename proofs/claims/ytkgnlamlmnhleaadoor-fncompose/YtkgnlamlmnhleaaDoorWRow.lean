/- Rows that are kept. -/
import Derived.Test.YtkgnlamlmnhleaaDoorRows
import Derived.Test.YtkgnlamlmnhleaaDoorIntS
import Derived.Test.YtkgnlamlmnhleaaDoorSgn
import Derived.WalkKit
import Derived.WalkSpells
import Derived.WalkLawsBesides
namespace Go.Proofs.YtkgnlamlmnhleaaDoor
open Go.RowKit

theorem below_gbi {B : Nat} {w w1 : World} {r : Option Nat} (a : w.grownBy w1 r) (hr : ∀ k, r = some k → B ≤ k) (hB : B ≤ w.heap.size) : Below B w w1 :=
  ⟨a.os, a.tape, a.output, a.size, fun k hk => a.block k (by omega) (fun e => by have := hr k e.symm; omega)⟩

/-- a row that is marked, and one that lies below it -/
theorem marked_kept {w w3 w4 : World} {B0 B1 : Nat} {v1 v2 : Value} {l m : List Int} (h1 : IntRow w B0 v1 l) (hB : w.heap.size ≤ B1) (h1' : IntRow w3 B0 v1 l) (h2 : IntRow w3 B1 v2 m) (hg : w3.grownBy w4 v2.ownBlock) :
    IntRow w4 B0 v1 l := by
  refine World.ownsRow.kept h1' hg ?_
  cases e : v1.ownBlock with
  | none => exact .inl rfl
  | some k =>
    right
    intro e2
    have := (World.ownsRow.lt h1 k e).2
    have := (World.ownsRow.lt h2 k e2.symm).1
    omega

end Go.Proofs.YtkgnlamlmnhleaaDoor
