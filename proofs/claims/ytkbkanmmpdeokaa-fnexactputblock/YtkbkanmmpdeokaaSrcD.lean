/- The bytes that a law is handed. -/
import Derived.Test.YtkbkanmmpdeokaaRows
import Derived.WalkKit
import Derived.WalkLawsBesides
import Derived.Below
namespace Go.Proofs.Ytkbkanmmpdeokaa
open Go.RowKit

/-- the bytes are few, and each is one -/
def CodeOk (len : Nat) (zs : List Int) : Prop := len ≤ 1048576 ∧ ∀ t, 0 ≤ zs.getD t 0 ∧ zs.getD t 0 ≤ 255
/-- the bytes that the cursor goes over -/
structure Src where
  a : Option Addr
  len : Nat
  cap : Nat
  zs : List Int

def Src.ok (S : Src) : Prop := CodeOk S.len S.zs
/-- the bytes lie in memory -/
def Lies (S : Src) (w : World) : Prop := ∀ t, t < S.len → ∃ b off, S.a = some ⟨b, off, none⟩ ∧ w.cell? ⟨b, off + t, none⟩ = some (.int .u8 (S.zs.getD t 0))

theorem Lies.below {S : Src} {w w' : World} (h : Lies S w) (b : Below w.heap.size w w') : Lies S w' := fun t ht => by
  obtain ⟨bb, off, h1, h2⟩ := h t ht
  exact ⟨bb, off, h1, (b.cell (p := ⟨bb, off + t, none⟩) (World.block_lt_of_cell? w _ h2)).trans h2⟩

end Go.Proofs.Ytkbkanmmpdeokaa
