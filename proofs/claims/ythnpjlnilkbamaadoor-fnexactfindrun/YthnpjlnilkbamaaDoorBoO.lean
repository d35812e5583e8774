/- A row of bools that is handed to a law, opened. -/
import Derived.Test.YthnpjlnilkbamaaDoorRows
import Derived.Test.YthnpjlnilkbamaaDoorBoR
import Derived.Deep.Slices
import Derived.Lib.SmallJoins
import Derived.ChangeArms
namespace Go.Proofs.YthnpjlnilkbamaaDoor
open Go.RowKit Go.ChangeShapes Go.WideShapes Go.Deep Go.Joins

theorem cellsLBo : Tryd.prog.cellsOf 4 = 1 := by kernel_rfl

set_option maxRecDepth 100000 in
theorem Bo_open {H : Type} {enc : TypeId × Value → H} {W : World} {a : Addr} {n : Nat} {cs : List Value} {x : DataW H × List MemPlace}
    (h1 : W.cells? 0 a 1 = some cs) (h2 : DataW.trod enc Tryd.prog W 0 (fun _ => true) true n 4 cs = some x) :
    ∃ e : Bool, W.cell? (a.add 0) = some (.bool e) := by
  obtain ⟨_, hlen, hcell⟩ := World.cells?_some h1
  obtain ⟨c0, rfl⟩ : ∃ c0, cs = [c0] := by
    clear hcell h1 h2
    match cs, hlen with
    | [c0], _ => exact ⟨c0, rfl⟩
  obtain ⟨z0, f0, -⟩ := DataW.trod_bool Tryd.underlying4 h2
  cases f0
  exact ⟨z0, hcell 0 (by omega)⟩

set_option maxRecDepth 100000 in
theorem Bosl_open {H : Type} {enc : TypeId × Value → H} {W : World} {fuel : Nat} {a : Option Addr} {len cap : Nat} {x : DataW H × List MemPlace}
    (hf : DataW.trod enc Tryd.prog W 0 (fun _ => true) true fuel 24 [.slice a len cap] = some x) :
    ∃ l : List Bool, BosAt W (.slice a len cap) l ∧ l.length ≤ maxLen := by
  rcases open_slice Tryd.underlying24 hf with ⟨h0, -⟩ | ⟨ad, len', cap', m, n, D, Pl, h0, -, hl, hm, hmm, -, hx⟩
  · cases h0
    exact ⟨[], ⟨none, 0, rfl, fun _ => rfl, fun t ht => by simp at ht⟩, by simp⟩
  · cases h0
    simp only [if_true] at hmm
    subst hmm
    rw [cellsLBo] at hx
    obtain ⟨q, hq⟩ := choose_lt (α := Bool) (p := fun i e => W.cell? (ad.add (i * 1)) = some (.bool e)) (fun i hi => by
      obtain ⟨cs', h1, h2⟩ := hx i hi
      obtain ⟨e, h3⟩ := Bo_open h1 h2
      rw [add_add] at h3
      exact ⟨e, by simpa using h3⟩)
    have hlen : ((List.range len).map q).length = len := by simp
    have hget : ∀ t, t < len → ((List.range len).map q)[t]! = q t := fun t ht => by
      rw [getElem!_pos _ t (by rw [hlen]; exact ht)]; simp
    refine ⟨(List.range len).map q, ⟨some ad, _, by rw [hlen], fun h => (by cases h), fun t ht => ?_⟩, by rw [hlen]; omega⟩
    · rw [hlen] at ht
      have c0 := hq t (by omega)
      obtain ⟨b, off, spot⟩ := ad
      have hspot : spot = none := by
        have h00 := hq 0 (by omega)
        simpa [Addr.add] using World.cell?_spot h00
      subst hspot
      rw [add_plain] at c0
      refine ⟨b, off, rfl, World.block_lt_of_cell? W _ c0, ?_⟩
      rw [hget t ht]
      exact ⟨c0⟩

set_option maxRecDepth 100000 in
theorem Bos_open {H : Type} {enc : TypeId × Value → H} {W : World} {v : Value} {d : DataW H} {p : List MemPlace} {base : Nat} {r : Go.Reach} (hv : Value.okWide Tryd.prog W r base 24 v)
    (h : DataW.Trod enc Tryd.prog W 0 (fun _ => true) true 24 v d p) : ∃ l : List Bool, BosAt W v l ∧ l.length ≤ maxLen := by
  obtain ⟨fuel, hf⟩ := h
  have hsl : ∃ sa sl sc, v = .slice sa sl sc := by
    unfold Value.okWide at hv
    simp only [Tryd.underlying24] at hv
    unfold Cell.okWide at hv
    simp only [Tryd.underlying24] at hv
    rcases fuel with _ | k
    · simp [DataW.trod] at hf
    · cases v <;> simp [DataW.trod, Value.cells, Cell.ok, Tryd.underlying24] at hf hv ⊢
  obtain ⟨sa, sl, sc, rfl⟩ := hsl
  exact Bosl_open hf

end Go.Proofs.YthnpjlnilkbamaaDoor
