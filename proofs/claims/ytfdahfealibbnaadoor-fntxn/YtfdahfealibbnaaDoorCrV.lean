/- The table of sums; the sum of a text. -/
import Derived.Test.YtfdahfealibbnaaDoorRows
import Derived.Test.YtfdahfealibbnaaDoorCrcNum
import Derived.Below
namespace Go.Proofs.YtfdahfealibbnaaDoor
open Go.RowKit

/-- the table of sums lies as the program's text lays it -/
def CrcTab (w : World) : Prop := ∀ i, i < 16 → w.cell? ⟨1, i, none⟩ = some (.int .u32 (tab16.getD i 0))
theorem CrcTab.below {w w' : World} (h : CrcTab w) (hb : Below w.heap.size w w') : CrcTab w' := fun i hi => (hb.cell (p := ⟨1, i, none⟩) (World.block_lt_of_cell? w _ (h i hi))).trans (h i hi)
theorem CrcTab.pos {w : World} (h : CrcTab w) : 1 < w.heap.size := World.block_lt_of_cell? w _ (h 0 (by decide))

def crcV (s : ByteArray) : Int := 4294967295 - (crcN s s.size : Int)
theorem crcV_in (s : ByteArray) : 0 ≤ crcV s ∧ crcV s ≤ 4294967295 := by unfold crcV; have := crcN_lt s s.size; omega

end Go.Proofs.YtfdahfealibbnaaDoor
