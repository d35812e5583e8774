/- A row of structs of 2 whole numbers (Range) that is handed to a law, opened. -/
import Derived.Test.YtkpeabbilcmabaaRows
import Derived.Test.YtkpeabbilcmabaaRgR
import Derived.Deep.Slices
import Derived.Lib.SmallJoins
import Derived.ChangeArms
namespace Go.Proofs.Ytkpeabbilcmabaa
open Go.RowKit Go.ChangeShapes Go.WideShapes Go.Deep Go.Joins

theorem cellsLRg : Try.prog.cellsOf 50 = 2 := by kernel_rfl

set_option maxRecDepth 100000 in
theorem Rg_open {H : Type} {enc : TypeId × Value → H} {W : World} {a : Addr} {n : Nat} {cs : List Value} {x : DataW H × List MemPlace}
    (h1 : W.cells? 0 a 2 = some cs) (h2 : DataW.trod enc Try.prog W 0 (fun _ => true) true n 50 cs = some x) :
    ∃ e : Rg, W.cell? (a.add 0) = some (.int .i64 e.a) ∧ W.cell? (a.add 1) = some (.int .i64 e.b) := by
  obtain ⟨_, hlen, hcell⟩ := World.cells?_some h1
  obtain ⟨c0, c1, rfl⟩ : ∃ c0 c1, cs = [c0, c1] := by
    clear hcell h1 h2
    match cs, hlen with
    | [c0, c1], _ => exact ⟨c0, c1, rfl⟩
  obtain ⟨xs, k, -, -, -, hl, hq⟩ := DataW.trod_struct Try.underlying50 h2
  have hl : xs.length = 2 := hl
  have t0 := hq 0 _ rfl
  have t1 := hq 1 _ rfl
  clear hq
  have some_of : ∀ {i : Nat} {z : Option (DataW H × List MemPlace)}, z = xs[i]? → i < xs.length → ∃ y, z = some y := fun {i} {z} h hi => ⟨xs[i], by rw [h, List.getElem?_eq_getElem hi]⟩
  obtain ⟨y0, e0⟩ := some_of t0 (by omega)
  obtain ⟨y1, e1⟩ := some_of t1 (by omega)
  obtain ⟨z0, f0, -, -⟩ := DataW.trod_int Try.underlying3 e0
  obtain ⟨z1, f1, -, -⟩ := DataW.trod_int Try.underlying3 e1
  cases f0; cases f1
  exact ⟨⟨z0, z1⟩, hcell 0 (by omega), hcell 1 (by omega)⟩

set_option maxRecDepth 100000 in
theorem Rgsl_open {H : Type} {enc : TypeId × Value → H} {W : World} {fuel : Nat} {a : Option Addr} {len cap : Nat} {x : DataW H × List MemPlace}
    (hf : DataW.trod enc Try.prog W 0 (fun _ => true) true fuel 32 [.slice a len cap] = some x) :
    ∃ l : List Rg, RgsAt W (.slice a len cap) l ∧ l.length ≤ maxLen := by
  rcases open_slice Try.underlying32 hf with ⟨h0, -⟩ | ⟨ad, len', cap', m, n, D, Pl, h0, -, hl, hm, hmm, -, hx⟩
  · cases h0
    exact ⟨[], ⟨none, 0, rfl, ⟨fun _ => rfl, by simp⟩, fun t ht => by simp at ht⟩, by simp⟩
  · cases h0
    simp only [if_true] at hmm
    subst hmm
    rw [cellsLRg] at hx
    obtain ⟨q, hq⟩ := choose_lt (α := Rg) (p := fun i e => W.cell? (ad.add (i * 2)) = some (.int .i64 e.a) ∧ W.cell? (ad.add (i * 2 + 1)) = some (.int .i64 e.b)) (fun i hi => by
      obtain ⟨cs', h1, h2⟩ := hx i hi
      obtain ⟨e, h3⟩ := Rg_open h1 h2
      rw [add_add, add_add] at h3
      exact ⟨e, by simpa using h3⟩)
    have hlen : ((List.range len).map q).length = len := by simp
    have hget : ∀ t, t < len → ((List.range len).map q)[t]! = q t := fun t ht => by
      rw [getElem!_pos _ t (by rw [hlen]; exact ht)]; simp
    refine ⟨(List.range len).map q, ⟨some ad, _, by rw [hlen], ⟨fun h => (by cases h), by rw [hlen]; omega⟩, fun t ht => ?_⟩, by rw [hlen]; omega⟩
    · rw [hlen] at ht
      obtain ⟨c0, c1⟩ := hq t (by omega)
      obtain ⟨b, off, spot⟩ := ad
      have hspot : spot = none := by
        have h00 := (hq 0 (by omega)).1
        simpa [Addr.add] using World.cell?_spot h00
      subst hspot
      rw [add_plain] at c0 c1
      refine ⟨b, off, rfl, World.block_lt_of_cell? W _ c0, ?_⟩
      rw [hget t ht]
      exact ⟨c0, by rw [Nat.add_assoc]; exact c1⟩

set_option maxRecDepth 100000 in
theorem Rgs_open {H : Type} {enc : TypeId × Value → H} {W : World} {v : Value} {d : DataW H} {p : List MemPlace} {base : Nat} {r : Go.Reach} (hv : Value.okWide Try.prog W r base 32 v)
    (h : DataW.Trod enc Try.prog W 0 (fun _ => true) true 32 v d p) : ∃ l : List Rg, RgsAt W v l ∧ l.length ≤ maxLen := by
  obtain ⟨fuel, hf⟩ := h
  have hsl : ∃ sa sl sc, v = .slice sa sl sc := by
    unfold Value.okWide at hv
    simp only [Try.underlying32] at hv
    unfold Cell.okWide at hv
    simp only [Try.underlying32] at hv
    rcases fuel with _ | k
    · simp [DataW.trod] at hf
    · cases v <;> simp [DataW.trod, Value.cells, Cell.ok, Try.underlying32] at hf hv ⊢
  obtain ⟨sa, sl, sc, rfl⟩ := hsl
  exact Rgsl_open hf

end Go.Proofs.Ytkpeabbilcmabaa
