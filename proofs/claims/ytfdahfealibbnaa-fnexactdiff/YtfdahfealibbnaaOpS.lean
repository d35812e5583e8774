/- A row of texts that is handed to a law, opened. -/
import Derived.Test.YtfdahfealibbnaaRows
import Derived.Test.YtfdahfealibbnaaStS
import Derived.Deep.Slices
import Derived.Lib.SmallJoins
import Derived.ChangeArms
namespace Go.Proofs.Ytfdahfealibbnaa
open Go.RowKit Go.ChangeShapes Go.WideShapes Go.Deep Go.Joins

theorem cellsTx : Try.prog.cellsOf 9 = 1 := by kernel_rfl

set_option maxRecDepth 100000 in
theorem txts_open {H : Type} {enc : TypeId × Value → H} {W : World} {fuel : Nat} {a : Option Addr} {len cap : Nat} {x : DataW H × List MemPlace}
    (hf : DataW.trod enc Try.prog W 0 (fun _ => true) true fuel 22 [.slice a len cap] = some x) :
    ∃ l : List ByteArray, TxtsAt W (.slice a len cap) l ∧ l.length ≤ maxLen ∧ ∀ t, t < l.length → l[t]!.size ≤ maxLen := by
  rcases open_slice Try.underlying22 hf with ⟨h0, -⟩ | ⟨ad, len', cap', m, n, D, Pl, h0, -, hl, hm, hmm, -, hx⟩
  · cases h0
    exact ⟨[], ⟨none, 0, rfl, fun _ => rfl, fun t ht => by simp at ht⟩, by simp, fun t ht => by simp at ht⟩
  · cases h0
    simp only [if_true] at hmm
    subst hmm
    rw [cellsTx] at hx
    obtain ⟨q, hq⟩ := choose_lt (α := ByteArray) (p := fun i e => W.cell? (ad.add i) = some (.string e) ∧ e.size ≤ maxLen) (fun i hi => by
      obtain ⟨cs', h1, h2⟩ := hx i hi
      obtain ⟨_, hlen, hcell⟩ := World.cells?_some h1
      obtain ⟨c0, rfl⟩ : ∃ c0, cs' = [c0] := by
        clear hcell h1 h2
        match cs', hlen with
        | [c0], _ => exact ⟨c0, rfl⟩
      obtain ⟨z, e0, -, hs⟩ := DataW.trod_string Try.underlying9 h2
      cases e0
      have h3 := hcell 0 (by omega)
      rw [add_add] at h3
      exact ⟨z, by simpa using h3, hs⟩)
    have hlen : ((List.range len).map q).length = len := by simp
    have hget : ∀ t, t < len → ((List.range len).map q)[t]! = q t := fun t ht => by
      rw [getElem!_pos _ t (by rw [hlen]; exact ht)]; simp
    refine ⟨(List.range len).map q, ⟨some ad, _, by rw [hlen], fun h => (by cases h), fun t ht => ?_⟩, by rw [hlen]; omega, fun t ht => ?_⟩
    · rw [hlen] at ht
      obtain ⟨c0, -⟩ := hq t (by omega)
      obtain ⟨b, off, spot⟩ := ad
      have hspot : spot = none := by
        have h00 := (hq 0 (by omega)).1
        simpa [Addr.add] using World.cell?_spot h00
      subst hspot
      rw [add_plain] at c0
      refine ⟨b, off, rfl, World.block_lt_of_cell? W _ c0, ?_⟩
      rw [hget t ht]
      exact c0
    · rw [hlen] at ht
      rw [hget t ht]; exact (hq t (by omega)).2

set_option maxRecDepth 100000 in
theorem texts_open {H : Type} {enc : TypeId × Value → H} {W : World} {v : Value} {d : DataW H} {p : List MemPlace} {base : Nat} {r : Go.Reach} (hv : Value.okWide Try.prog W r base 22 v)
    (h : DataW.Trod enc Try.prog W 0 (fun _ => true) true 22 v d p) : ∃ l : List ByteArray, TxtsAt W v l ∧ l.length ≤ maxLen ∧ ∀ t, t < l.length → l[t]!.size ≤ maxLen := by
  obtain ⟨fuel, hf⟩ := h
  have hsl : ∃ sa sl sc, v = .slice sa sl sc := by
    unfold Value.okWide at hv
    simp only [Try.underlying22] at hv
    unfold Cell.okWide at hv
    simp only [Try.underlying22] at hv
    rcases fuel with _ | k
    · simp [DataW.trod] at hf
    · cases v <;> simp [DataW.trod, Value.cells, Cell.ok, Try.underlying22] at hf hv ⊢
  obtain ⟨sa, sl, sc, rfl⟩ := hsl
  exact txts_open hf

end Go.Proofs.Ytfdahfealibbnaa
