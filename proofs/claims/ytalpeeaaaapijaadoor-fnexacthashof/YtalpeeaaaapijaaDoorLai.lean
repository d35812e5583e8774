/- Names: what the program's own tables and the library's hold when a call begins: their cells. -/
import Derived.Test.YtalpeeaaaapijaaDoorRows
import Derived.Test.YtalpeeaaaapijaaDoorNmK
import Derived.Lib.LaidTab
import Derived.Lib.LaidU8
import Derived.Lib.LaidU8T
namespace Go.Proofs.YtalpeeaaaapijaaDoor
open Go.RowKit

theorem kn_gTab : Tryd.prog.globalNamed "loop.example/g00773/impl.knownSigns" = some 3 := by kernel_rfl
theorem kn_tTab : (Tryd.prog.globals[3]?).map (·.type) = some 100 := by kernel_rfl
theorem kn_cellsE : Tryd.prog.cellsOf 3 = 1 := by kernel_rfl
theorem kn_cellsR : Tryd.prog.cellsOf 99 = 2 := by kernel_rfl
theorem kn_datum : Rows.laid_loop_example_g00773_impl_knownSigns (H := Unit) = .agg ((List.range 27).map fun i => .agg ([ikT.getD (2 * i) 0, ikT.getD (2 * i + 1) 0].map fun z => .lit (.int .i64 z))) := by rfl

theorem kn_of {W : World} (hr : Lib.VarReads Tryd.prog W "loop.example/g00773/impl.knownSigns" Rows.laid_loop_example_g00773_impl_knownSigns) : ∀ i, i < 54 → W.cell? ⟨3, i, none⟩ = some (.int .i64 (ikT.getD i 0)) := by
  obtain ⟨g, t, cs, fuel, p, hg, hty, hvar, hd⟩ := hr
  obtain rfl := Option.some.inj (kn_gTab.symm.trans hg)
  obtain rfl := Option.some.inj (kn_tTab.symm.trans hty)
  rw [kn_datum] at hd
  have key : ∀ i, i < 27 → W.cell? ⟨3, 2 * i, none⟩ = some (.int .i64 (ikT.getD (2 * i) 0)) ∧ W.cell? ⟨3, 2 * i + 1, none⟩ = some (.int .i64 (ikT.getD (2 * i + 1) 0)) := by
    intro i hi
    obtain ⟨fuel', d, q, hdi, he⟩ := Lib.array_elem Tryd.underlying100 hd i hi
    simp only [List.getElem?_map, List.getElem?_range hi, Option.map_some, Option.some.injEq] at hdi
    subst hdi
    rw [kn_cellsR] at he
    have hcs := Lib.ints_of_struct Tryd.underlying99 (fun j f hj => by
      match j, hj with
      | 0, hj => simp at hj; subst hj; exact ⟨Tryd.underlying3, rfl, kn_cellsE⟩
      | 1, hj => simp at hj; subst hj; exact ⟨Tryd.underlying3, rfl, kn_cellsE⟩
      | j + 2, hj => simp at hj) (by rw [kn_cellsR]; rfl) he
    have e0 := congrArg (·[0]?) hcs
    have e1 := congrArg (·[1]?) hcs
    simp only [List.getElem?_take, List.getElem?_drop] at e0 e1
    constructor
    · rw [World.var?_cell hg hvar (2 * i), ← Array.getElem?_toList]
      simpa [Nat.mul_comm] using e0
    · rw [World.var?_cell hg hvar (2 * i + 1), ← Array.getElem?_toList]
      simpa [Nat.mul_comm] using e1
  intro i hi
  obtain ⟨k, rfl | rfl⟩ : ∃ k, i = 2 * k ∨ i = 2 * k + 1 := ⟨i / 2, by omega⟩
  · exact (key k (by omega)).1
  · exact (key k (by omega)).2

theorem hs_gTab : Tryd.prog.globalNamed "loop.example/g00773/impl.halfSums" = some 0 := by kernel_rfl
theorem hs_tTab : (Tryd.prog.globals[0]?).map (·.type) = some 86 := by kernel_rfl
theorem hs_cellsE : Tryd.prog.cellsOf 57 = 1 := by kernel_rfl
theorem hs_cellsT : Tryd.prog.cellsOf 86 = 16 := by kernel_rfl
theorem hs_datum : Rows.laid_loop_example_g00773_impl_halfSums (H := Unit) = Lib.tabData .u32 tab16 := by rfl
theorem half_of {W : World} (hr : Lib.VarReads Tryd.prog W "loop.example/g00773/impl.halfSums" Rows.laid_loop_example_g00773_impl_halfSums) : CrcTab W := by
  obtain ⟨g, t, cs, fuel, p, hg, hty, hvar, hd⟩ := hr
  obtain rfl := Option.some.inj (hs_gTab.symm.trans hg)
  obtain rfl := Option.some.inj (hs_tTab.symm.trans hty)
  rw [hs_datum] at hd
  have hT : Lib.TabIs Tryd.prog W "loop.example/g00773/impl.halfSums" .u32 tab16 := by
    unfold Lib.TabIs
    rw [hvar, ← Lib.cells_of_tab Tryd.underlying86 Tryd.underlying57 hs_cellsE hs_cellsT hd]
  exact fun i hi => hT.cell hs_gTab i hi

theorem u8_extra : U8Extra Tryd.prog Tryd.laysValid_ren := ⟨by kernel_rfl, by kernel_rfl, by kernel_rfl, by kernel_rfl, by kernel_rfl, by kernel_rfl, by kernel_rfl⟩
theorem u8_accept : Rows.laid_unicode_utf8_acceptRanges (H := Unit) = Lib.acceptData := by rfl
theorem u8_first : Rows.laid_unicode_utf8_first = Lib.firstData := by kernel_rfl
theorem tabs_of {W : World} (h4 : Lib.VarReads Tryd.prog W "unicode/utf8.acceptRanges" Rows.laid_unicode_utf8_acceptRanges) (hk : Lib.VarReads Tryd.prog W "loop.example/g00773/impl.knownSigns" Rows.laid_loop_example_g00773_impl_knownSigns) (h3 : Lib.VarReads Tryd.prog W "unicode/utf8.first" Rows.laid_unicode_utf8_first) : Tabs W := by
  rw [u8_accept] at h4
  rw [u8_first] at h3
  exact ⟨kn_of hk, utf8Tabs_of_readsT (U8Types.of196 Tryd.laysValid) u8_extra h3 h4⟩

end Go.Proofs.YtalpeeaaaapijaaDoor
