/- The table of sums, out of the card's condition. -/
import Derived.Test.YtfdahfealibbnaaDoorRows
import Derived.Test.YtfdahfealibbnaaDoorCrV
import Derived.Lib.LaidTab
import Derived.Lib.LaidU8
import Derived.Lib.LaidU8T
namespace Go.Proofs.YtfdahfealibbnaaDoor
open Go.RowKit

theorem hs_gTab : Tryd.prog.globalNamed "loop.example/g00773/impl.halfSums" = some 1 := by kernel_rfl
theorem hs_tTab : (Tryd.prog.globals[1]?).map (·.type) = some 102 := by kernel_rfl
theorem hs_cellsE : Tryd.prog.cellsOf 91 = 1 := by kernel_rfl
theorem hs_cellsT : Tryd.prog.cellsOf 102 = 16 := by kernel_rfl
theorem hs_datum : Rows.laid_loop_example_g00773_impl_halfSums (H := Unit) = Lib.tabData .u32 tab16 := by rfl
theorem half_of {W : World} (hr : Lib.VarReads Tryd.prog W "loop.example/g00773/impl.halfSums" Rows.laid_loop_example_g00773_impl_halfSums) : CrcTab W := by
  obtain ⟨g, t, cs, fuel, p, hg, hty, hvar, hd⟩ := hr
  obtain rfl := Option.some.inj (hs_gTab.symm.trans hg)
  obtain rfl := Option.some.inj (hs_tTab.symm.trans hty)
  rw [hs_datum] at hd
  have hT : Lib.TabIs Tryd.prog W "loop.example/g00773/impl.halfSums" .u32 tab16 := by
    unfold Lib.TabIs
    rw [hvar, ← Lib.cells_of_tab Tryd.underlying102 Tryd.underlying91 hs_cellsE hs_cellsT hd]
  exact fun i hi => hT.cell hs_gTab i hi

end Go.Proofs.YtfdahfealibbnaaDoor
