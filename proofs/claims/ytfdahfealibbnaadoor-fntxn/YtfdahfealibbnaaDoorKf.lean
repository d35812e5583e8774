/- The table of sums, out of the card's condition. A variable that holds an error, read behind the call. -/
import Derived.Test.YtfdahfealibbnaaDoorRows
import Derived.Test.YtfdahfealibbnaaDoorCrV
import Derived.Test.YtfdahfealibbnaaDoorRbI
import Derived.Lib.LaidTab
import Derived.Lib.LaidU8
import Derived.Lib.LaidU8T
import Derived.OpenVars
import Derived.LaidLaws
import Derived.Deep.Slices
import Derived.ChangeArms
namespace Go.Proofs.YtfdahfealibbnaaDoor

section
open Go.RowKit

theorem hs_gTab : Tryd.prog.globalNamed "loop.example/g00773/impl.halfSums" = some 1 := by kernel_rfl
theorem hs_tTab : (Tryd.prog.globals[1]?).map (·.type) = some 102 := by kernel_rfl
theorem hs_cellsE : Tryd.prog.cellsOf 91 = 1 := by kernel_rfl
theorem hs_cellsT : Tryd.prog.cellsOf 102 = 16 := by kernel_rfl
theorem hs_datum : Rows.laid_loop_example_g00773_impl_halfSums (H := Unit) = Lib.tabData .u32 tab16 := by rfl
theorem half_of {W : World} (hr : Lib.VarReads Tryd.prog W "loop.example/g00773/impl.halfSums" Rows.laid_loop_example_g00773_impl_halfSums) : CrcTab W := by
  obtain ⟨g, t, cs, fuel, p, hg, hty, hvar, hd⟩ := hr
  obtain rfl := Option.some.inj (hs_gTab.symm.trans hg)
  obtain rfl := Option.some.inj (hs_tTab.symm.trans hty)
  rw [hs_datum] at hd
  have hT : Lib.TabIs Tryd.prog W "loop.example/g00773/impl.halfSums" .u32 tab16 := by
    unfold Lib.TabIs
    rw [hvar, ← Lib.cells_of_tab Tryd.underlying102 Tryd.underlying91 hs_cellsE hs_cellsT hd]
  exact fun i hi => hT.cell hs_gTab i hi
end

section
open Go.RowKit Go.ChangeShapes Go.WideShapes Go.Deep Go.Joins

/-- the variables behind the call: an error that is held, and plain ones -/
theorem vars_err {H : Type} {enc : TypeId × Value → H} {P : Program} (hl : laidOutB P = true) {W W' : World} (hb : Below W.heap.size W W') {n : String} {g0 : Nat} {t0 : TypeId} {ms : Array (String × TypeId)}
    (hg0 : P.globalNamed n = some g0) (ht0 : (P.globals[g0]?).map (·.type) = some t0) (hi : P.underlying t0 = some (.interface ms)) {ns : List String} {gs : List (DataW H)} {ps : List MemPlace} (hv : varsRowed P ns = true) (h : DataW.TrodVars enc P W (fun _ => true) (n :: ns) gs ps) :
    DataW.TrodVars enc P W' (fun b => decide (b < W.heap.size)) (n :: ns) gs ps := by
  cases gs with
  | nil => exact h.elim
  | cons d ds =>
    obtain ⟨g, t, cs, fuel, p, q, h1, h2, h3, h4, hs, e⟩ := h
    obtain rfl := Option.some.inj (hg0.symm.trans h1)
    obtain rfl := Option.some.inj (ht0.symm.trans h2)
    have h3' : W'.var? P n = some cs := by
      unfold World.var? at h3 ⊢
      rw [h1] at h3 ⊢
      simp only [Option.bind_some] at h3 ⊢
      have hg : g0 < W.heap.size := by
        cases hh : W.heap[g0]? with
        | none => rw [hh] at h3; cases h3
        | some o => exact (Array.getElem?_eq_some_iff.1 hh).1
      rw [hb.block g0 hg]; exact h3
    obtain ⟨v, hcs, hiv, hy⟩ := held_of_trod_list hi h4
    refine ⟨g0, t0, cs, 1, p, q, h1, h2, h3', ?_, Below.trodVars hl hb hv hs, e⟩
    rw [hcs, trod_held hi hiv 0, hy]

/-- so, a plain one being ahead of the error -/
theorem vars_err2 {H : Type} {enc : TypeId × Value → H} {P : Program} (hl : laidOutB P = true) {W W' : World} (hb : Below W.heap.size W W') {a n : String} {g0 : Nat} {t0 : TypeId} {ms : Array (String × TypeId)} (hva : varsRowed P [a] = true)
    (hg0 : P.globalNamed n = some g0) (ht0 : (P.globals[g0]?).map (·.type) = some t0) (hi : P.underlying t0 = some (.interface ms)) {ns : List String} {gs : List (DataW H)} {ps : List MemPlace} (hv : varsRowed P ns = true) (h : DataW.TrodVars enc P W (fun _ => true) (a :: n :: ns) gs ps) :
    DataW.TrodVars enc P W' (fun b => decide (b < W.heap.size)) (a :: n :: ns) gs ps := by
  cases gs with
  | nil => exact h.elim
  | cons d ds =>
    obtain ⟨g, t, cs, fuel, p, q, h1, h2, h3, h4, hs, e⟩ := h
    have hs' := vars_err hl hb hg0 ht0 hi hv hs
    have h0 : DataW.TrodVars enc P W (fun _ => true) [a] [d] (MemPlace.row ⟨g, 0, none⟩ cs.size ++ p ++ []) := ⟨g, t, cs, fuel, p, [], h1, h2, h3, h4, rfl, rfl⟩
    obtain ⟨g', t', cs', fuel', p', q', k1, k2, k3, k4, kt, ke⟩ := Below.trodVars hl hb hva h0
    have kq : q' = [] := kt
    rw [kq, List.append_nil, List.append_nil] at ke
    exact ⟨g', t', cs', fuel', p', q, k1, k2, k3, k4, hs', by rw [e, ke]⟩

/-- the variable of the error, out of the condition -/
theorem err_of {W : World} {nm : String} {d : DataW Unit} (hr : Lib.VarReads Tryd.prog W "loop.example/g00773/impl.errLacks" (.iface nm d)) : ∃ T x, ErrV W T x := by
  obtain ⟨g, t, cs, fuel, p, hg, hty, hvar, hd⟩ := hr
  obtain rfl := Option.some.inj ((show Tryd.prog.globalNamed "loop.example/g00773/impl.errLacks" = some 0 by kernel_rfl).symm.trans hg)
  obtain rfl := Option.some.inj ((show (Tryd.prog.globals[0]?).map (·.type) = some 98 by kernel_rfl).symm.trans hty)
  obtain ⟨f', u, v, hcs, -, -⟩ := iface_of_trod Tryd.underlying98 hd
  obtain ⟨l⟩ := cs
  obtain rfl : l = [.iface u v] := hcs
  exact ⟨u, v, by unfold ErrV; simpa using World.var?_cell hg hvar 0⟩
end

end Go.Proofs.YtfdahfealibbnaaDoor
