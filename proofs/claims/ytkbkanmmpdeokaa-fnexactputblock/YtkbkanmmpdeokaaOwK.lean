/- Rows of the call's own with the blocks between which they lie: what keeps them. -/
import Derived.Test.YtkbkanmmpdeokaaRows
import Derived.WalkKit
import Derived.WalkLawsBesides
import Derived.Below
namespace Go.Proofs.Ytkbkanmmpdeokaa
open Go.RowKit

structure OwB (w : World) (lo hi : Nat) (e : TypeId) (size : Nat) (v : Value) (n : Nat) (xs : List Value) : Prop where
  row : w.ownsRow lo e size v n xs
  top : ∀ k, v.ownBlock = some k → k < hi
theorem OwB.new {w w' : World} {e : TypeId} {size n : Nat} {v : Value} {xs : List Value} (h : w'.ownsRow w.heap.size e size v n xs) : OwB w' w.heap.size w'.heap.size e size v n xs :=
  ⟨h, fun k e => (World.ownsRow.lt h k e).2⟩
theorem OwB.below {w w' : World} {lo hi : Nat} {e : TypeId} {size n : Nat} {v : Value} {xs : List Value} (h : OwB w lo hi e size v n xs) (b : Below w.heap.size w w') : OwB w' lo hi e size v n xs :=
  ⟨⟨h.row.1, by
    rcases h.row.2 with h0 | ⟨g, cap, cur, e, hg, hh, r⟩
    · exact .inl h0
    · exact .inr ⟨g, cap, cur, e, hg, (b.block g (lt_of_block hh)).trans hh, r⟩⟩, h.top⟩
/-- a row that another one's marks leave alone -/
theorem OwB.kept {w w' : World} {lo hi lo2 hi2 : Nat} {e e2 : TypeId} {size size2 n n2 : Nat} {v u : Value} {xs ys : List Value} (h : OwB w lo hi e size v n xs) (h2 : OwB w lo2 hi2 e2 size2 u n2 ys) (hg : w.grownBy w' u.ownBlock) (hd : hi ≤ lo2 ∨ hi2 ≤ lo) : OwB w' lo hi e size v n xs := by
  refine ⟨World.ownsRow.kept h.row hg ?_, h.top⟩
  cases e : v.ownBlock with
  | none => exact .inl rfl
  | some k =>
    right
    intro e2
    have h1 := (World.ownsRow.lt h.row k e).1
    have h3 := h.top k e
    have h4 := (World.ownsRow.lt h2.row k e2.symm).1
    have h5 := h2.top k e2.symm
    omega
/-- .. two rows of one call that lie apart -/
theorem OwB.keptD {w w' : World} {lo hi lo2 hi2 : Nat} {e e2 : TypeId} {size size2 n n2 : Nat} {v u : Value} {xs ys : List Value} (h : OwB w lo hi e size v n xs) (_ : OwB w lo2 hi2 e2 size2 u n2 ys) (hg : w.grownBy w' u.ownBlock) (hd : ∀ k, v.ownBlock = some k → u.ownBlock ≠ some k) : OwB w' lo hi e size v n xs := by
  refine ⟨World.ownsRow.kept h.row hg ?_, h.top⟩
  cases e : v.ownBlock with
  | none => exact .inl rfl
  | some k => exact .inr fun e2 => hd k e e2.symm
theorem OwB.marked {w w' : World} {lo hi : Nat} {e : TypeId} {size n n2 : Nat} {v : Value} {xs ys : List Value} (h : OwB w lo hi e size v n xs) (r : w'.ownsRow lo e size v n2 ys) : OwB w' lo hi e size v n2 ys := ⟨r, h.top⟩
/-- marks put into a row from lo on write nothing below it -/
theorem OwB.bel {w w' : World} {B lo hi : Nat} {e : TypeId} {size n : Nat} {v : Value} {xs : List Value} (h : OwB w lo hi e size v n xs) (hg : w.grownBy w' v.ownBlock) (hB : B ≤ lo) (hs : B ≤ w.heap.size) : Below B w w' :=
  ⟨hg.os, hg.tape, hg.output, hg.size, fun k hk => hg.block k (by omega) (fun e => by have := (World.ownsRow.lt h.row k e.symm).1; omega)⟩

end Go.Proofs.Ytkbkanmmpdeokaa
