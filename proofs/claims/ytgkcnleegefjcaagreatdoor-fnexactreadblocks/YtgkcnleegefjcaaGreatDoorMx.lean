/- Directories: a row of entries that is handed to a law, opened. -/
import Derived.Test.YtgkcnleegefjcaaGreatDoorRows
import Derived.Test.YtgkcnleegefjcaaGreatDoorMq
import Derived.Deep.Slices
import Derived.Lib.SmallJoins
import Derived.ChangeArms
namespace Go.Proofs.YtgkcnleegefjcaaGreatDoor

section
open Go.RowKit Go.ChangeShapes Go.WideShapes Go.Deep Go.Joins

theorem cellsL : Tryz.prog.cellsOf 218 = 4 := by kernel_rfl
theorem cellsI : Tryz.prog.cellsOf 3 = 1 := by kernel_rfl
theorem cellsS : Tryz.prog.cellsOf 9 = 1 := by kernel_rfl

set_option maxRecDepth 100000 in
theorem ent_open {H : Type} {enc : TypeId × Value → H} {W : World} {a : Addr} {n : Nat} {cs : List Value} {x : DataW H × List MemPlace}
    (h1 : W.cells? 0 a 4 = some cs) (h2 : DataW.trod enc Tryz.prog W 0 (fun _ => true) true n 218 cs = some x) :
    ∃ e : En, (W.cell? (a.add 0) = some (.int .i64 e.hash) ∧ W.cell? (a.add 1) = some (.int .i64 e.index) ∧ W.cell? (a.add 2) = some (.string e.name) ∧ W.cell? (a.add 3) = some (.int .i64 e.id)) ∧ e.name.size ≤ maxLen := by
  obtain ⟨_, hlen, hcell⟩ := World.cells?_some h1
  obtain ⟨c0, c1, c2, c3, rfl⟩ : ∃ c0 c1 c2 c3, cs = [c0, c1, c2, c3] := by
    clear hcell h1 h2
    match cs, hlen with
    | [c0, c1, c2, c3], _ => exact ⟨c0, c1, c2, c3, rfl⟩
  obtain ⟨y0, y1, y2, y3, m, -, -, t0, t1, t2, t3⟩ := trod_struct4 Tryz.underlying218 h2
  simp only [cellsI, cellsS, List.drop_zero, List.drop_succ_cons, List.take_succ_cons, List.take_zero] at t0 t1 t2 t3
  obtain ⟨z0, e0, -, -⟩ := DataW.trod_int Tryz.underlying3 t0
  obtain ⟨z1, e1, -, -⟩ := DataW.trod_int Tryz.underlying3 t1
  obtain ⟨z2, e2, -, hs⟩ := DataW.trod_string Tryz.underlying9 t2
  obtain ⟨z3, e3, -, -⟩ := DataW.trod_int Tryz.underlying3 t3
  cases e0; cases e1; cases e2; cases e3
  exact ⟨⟨z0, z1, z2, z3⟩, ⟨hcell 0 (by omega), hcell 1 (by omega), hcell 2 (by omega), hcell 3 (by omega)⟩, hs⟩

set_option maxRecDepth 100000 in
theorem ents_open {H : Type} {enc : TypeId × Value → H} {W : World} {fuel : Nat} {a : Option Addr} {len cap : Nat} {x : DataW H × List MemPlace}
    (hf : DataW.trod enc Tryz.prog W 0 (fun _ => true) true fuel 151 [.slice a len cap] = some x) :
    ∃ l : List En, EntsAt W (.slice a len cap) l ∧ l.length ≤ maxLen ∧ ∀ t, t < l.length → l[t]!.name.size ≤ maxLen := by
  rcases open_slice Tryz.underlying151 hf with ⟨h0, -⟩ | ⟨ad, len', cap', m, n, D, Pl, h0, -, hl, hm, hmm, -, hx⟩
  · cases h0
    exact ⟨[], ⟨none, 0, rfl, fun _ => rfl, fun t ht => by simp at ht⟩, by simp, fun t ht => by simp at ht⟩
  · cases h0
    simp only [if_true] at hmm
    subst hmm
    rw [cellsL] at hx
    obtain ⟨q, hq⟩ := choose_lt (α := En) (p := fun i e => (W.cell? (ad.add (i * 4)) = some (.int .i64 e.hash) ∧ W.cell? (ad.add (i * 4 + 1)) = some (.int .i64 e.index) ∧ W.cell? (ad.add (i * 4 + 2)) = some (.string e.name) ∧ W.cell? (ad.add (i * 4 + 3)) = some (.int .i64 e.id)) ∧ e.name.size ≤ maxLen) (fun i hi => by
      obtain ⟨cs', h1, h2⟩ := hx i hi
      obtain ⟨e, h3, h4⟩ := ent_open h1 h2
      rw [add_add, add_add, add_add, add_add] at h3
      exact ⟨e, by simpa using h3, h4⟩)
    have hlen : ((List.range len).map q).length = len := by simp
    have hget : ∀ t, t < len → ((List.range len).map q)[t]! = q t := fun t ht => by
      rw [getElem!_pos _ t (by rw [hlen]; exact ht)]; simp
    refine ⟨(List.range len).map q, ⟨some ad, _, by rw [hlen], fun h => (by cases h), fun t ht => ?_⟩, by rw [hlen]; omega, fun t ht => ?_⟩
    · rw [hlen] at ht
      obtain ⟨⟨c0, c1, c2, c3⟩, -⟩ := hq t (by omega)
      obtain ⟨b, off, spot⟩ := ad
      have hspot : spot = none := by
        have h00 := (hq 0 (by omega)).1.1
        simpa [Addr.add] using World.cell?_spot h00
      subst hspot
      rw [add_plain] at c0 c1 c2 c3
      refine ⟨b, off, rfl, World.block_lt_of_cell? W _ c0, ?_⟩
      rw [hget t ht]
      exact ⟨c0, by rw [Nat.add_assoc]; exact c1, by rw [Nat.add_assoc]; exact c2, by rw [Nat.add_assoc]; exact c3⟩
    · rw [hlen] at ht
      rw [hget t ht]; exact (hq t (by omega)).2
end

end Go.Proofs.YtgkcnleegefjcaaGreatDoor
