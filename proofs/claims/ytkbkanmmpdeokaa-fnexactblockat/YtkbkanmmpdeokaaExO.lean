/- A row of structs of 3 whole numbers (Ext) that is handed to a law, opened. -/
import Derived.Test.YtkbkanmmpdeokaaRows
import Derived.Test.YtkbkanmmpdeokaaExR
import Derived.Deep.Slices
import Derived.Lib.SmallJoins
import Derived.ChangeArms
namespace Go.Proofs.Ytkbkanmmpdeokaa
open Go.RowKit Go.ChangeShapes Go.WideShapes Go.Deep Go.Joins

theorem cellsLEx : Try.prog.cellsOf 71 = 3 := by kernel_rfl

set_option maxRecDepth 100000 in
theorem Ex_open {H : Type} {enc : TypeId × Value → H} {W : World} {a : Addr} {n : Nat} {cs : List Value} {x : DataW H × List MemPlace}
    (h1 : W.cells? 0 a 3 = some cs) (h2 : DataW.trod enc Try.prog W 0 (fun _ => true) true n 71 cs = some x) :
    ∃ e : Ex, W.cell? (a.add 0) = some (.int .i64 e.p) ∧ W.cell? (a.add 1) = some (.int .i64 e.b) ∧ W.cell? (a.add 2) = some (.int .i64 e.n) := by
  obtain ⟨_, hlen, hcell⟩ := World.cells?_some h1
  obtain ⟨c0, c1, c2, rfl⟩ : ∃ c0 c1 c2, cs = [c0, c1, c2] := by
    clear hcell h1 h2
    match cs, hlen with
    | [c0, c1, c2], _ => exact ⟨c0, c1, c2, rfl⟩
  obtain ⟨xs, k, -, -, -, hl, hq⟩ := DataW.trod_struct Try.underlying71 h2
  have hl : xs.length = 3 := hl
  have t0 := hq 0 _ rfl
  have t1 := hq 1 _ rfl
  have t2 := hq 2 _ rfl
  clear hq
  have some_of : ∀ {i : Nat} {z : Option (DataW H × List MemPlace)}, z = xs[i]? → i < xs.length → ∃ y, z = some y := fun {i} {z} h hi => ⟨xs[i], by rw [h, List.getElem?_eq_getElem hi]⟩
  obtain ⟨y0, e0⟩ := some_of t0 (by omega)
  obtain ⟨y1, e1⟩ := some_of t1 (by omega)
  obtain ⟨y2, e2⟩ := some_of t2 (by omega)
  obtain ⟨z0, f0, -, -⟩ := DataW.trod_int Try.underlying3 e0
  obtain ⟨z1, f1, -, -⟩ := DataW.trod_int Try.underlying3 e1
  obtain ⟨z2, f2, -, -⟩ := DataW.trod_int Try.underlying3 e2
  cases f0; cases f1; cases f2
  exact ⟨⟨z0, z1, z2⟩, hcell 0 (by omega), hcell 1 (by omega), hcell 2 (by omega)⟩

set_option maxRecDepth 100000 in
theorem Exsl_open {H : Type} {enc : TypeId × Value → H} {W : World} {fuel : Nat} {a : Option Addr} {len cap : Nat} {x : DataW H × List MemPlace}
    (hf : DataW.trod enc Try.prog W 0 (fun _ => true) true fuel 37 [.slice a len cap] = some x) :
    ∃ l : List Ex, ExsAt W (.slice a len cap) l ∧ l.length ≤ maxLen := by
  rcases open_slice Try.underlying37 hf with ⟨h0, -⟩ | ⟨ad, len', cap', m, n, D, Pl, h0, -, hl, hm, hmm, -, hx⟩
  · cases h0
    exact ⟨[], ⟨none, 0, rfl, ⟨fun _ => rfl, by simp⟩, fun t ht => by simp at ht⟩, by simp⟩
  · cases h0
    simp only [if_true] at hmm
    subst hmm
    rw [cellsLEx] at hx
    obtain ⟨q, hq⟩ := choose_lt (α := Ex) (p := fun i e => W.cell? (ad.add (i * 3)) = some (.int .i64 e.p) ∧ W.cell? (ad.add (i * 3 + 1)) = some (.int .i64 e.b) ∧ W.cell? (ad.add (i * 3 + 2)) = some (.int .i64 e.n)) (fun i hi => by
      obtain ⟨cs', h1, h2⟩ := hx i hi
      obtain ⟨e, h3⟩ := Ex_open h1 h2
      rw [add_add, add_add, add_add] at h3
      exact ⟨e, by simpa using h3⟩)
    have hlen : ((List.range len).map q).length = len := by simp
    have hget : ∀ t, t < len → ((List.range len).map q)[t]! = q t := fun t ht => by
      rw [getElem!_pos _ t (by rw [hlen]; exact ht)]; simp
    refine ⟨(List.range len).map q, ⟨some ad, _, by rw [hlen], ⟨fun h => (by cases h), by rw [hlen]; omega⟩, fun t ht => ?_⟩, by rw [hlen]; omega⟩
    · rw [hlen] at ht
      obtain ⟨c0, c1, c2⟩ := hq t (by omega)
      obtain ⟨b, off, spot⟩ := ad
      have hspot : spot = none := by
        have h00 := (hq 0 (by omega)).1
        simpa [Addr.add] using World.cell?_spot h00
      subst hspot
      rw [add_plain] at c0 c1 c2
      refine ⟨b, off, rfl, World.block_lt_of_cell? W _ c0, ?_⟩
      rw [hget t ht]
      exact ⟨c0, by rw [Nat.add_assoc]; exact c1, by rw [Nat.add_assoc]; exact c2⟩

set_option maxRecDepth 100000 in
theorem Exs_open {H : Type} {enc : TypeId × Value → H} {W : World} {v : Value} {d : DataW H} {p : List MemPlace} {base : Nat} {r : Go.Reach} (hv : Value.okWide Try.prog W r base 37 v)
    (h : DataW.Trod enc Try.prog W 0 (fun _ => true) true 37 v d p) : ∃ l : List Ex, ExsAt W v l ∧ l.length ≤ maxLen := by
  obtain ⟨fuel, hf⟩ := h
  have hsl : ∃ sa sl sc, v = .slice sa sl sc := by
    unfold Value.okWide at hv
    simp only [Try.underlying37] at hv
    unfold Cell.okWide at hv
    simp only [Try.underlying37] at hv
    rcases fuel with _ | k
    · simp [DataW.trod] at hf
    · cases v <;> simp [DataW.trod, Value.cells, Cell.ok, Try.underlying37] at hf hv ⊢
  obtain ⟨sa, sl, sc, rfl⟩ := hsl
  exact Exsl_open hf

end Go.Proofs.Ytkbkanmmpdeokaa
