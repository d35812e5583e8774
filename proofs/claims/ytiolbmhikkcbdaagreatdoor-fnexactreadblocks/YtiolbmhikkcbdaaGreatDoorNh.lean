/- A volume that is handed to a law, opened. -/
import Derived.Test.YtiolbmhikkcbdaaGreatDoorRows
import Derived.Test.YtiolbmhikkcbdaaGreatDoorNg
import Derived.Test.YtiolbmhikkcbdaaGreatDoorMx
namespace Go.Proofs.YtiolbmhikkcbdaaGreatDoor

section
open Go.RowKit Go.ChangeShapes Go.WideShapes Go.Deep Go.Joins

theorem cellsLI : Tryz.prog.cellsOf 154 = 5 := by kernel_rfl
theorem cellsES : Tryz.prog.cellsOf 152 = 1 := by kernel_rfl
theorem cellsLV : Tryz.prog.cellsOf 51 = 2 := by kernel_rfl

set_option maxRecDepth 100000 in
theorem ino_open {H : Type} {enc : TypeId × Value → H} {W : World} {a : Addr} {n : Nat} {cs : List Value} {x : DataW H × List MemPlace}
    (h1 : W.cells? 0 a 5 = some cs) (h2 : DataW.trod enc Tryz.prog W 0 (fun _ => true) true n 154 cs = some x) :
    ∃ (y : Ino) (s : Value), (W.cell? (a.add 0) = some (.int .i64 y.id) ∧ W.cell? (a.add 1) = some (.int .i64 y.kind) ∧ W.cell? (a.add 2) = some (.int .i64 y.links) ∧ W.cell? (a.add 3) = some (.string y.data) ∧ W.cell? (a.add 4) = some s) ∧ EntsAt W s y.ents ∧ InoHeld y := by
  obtain ⟨_, hlen, hcell⟩ := World.cells?_some h1
  obtain ⟨c0, c1, c2, c3, c4, rfl⟩ : ∃ c0 c1 c2 c3 c4, cs = [c0, c1, c2, c3, c4] := by
    clear hcell h1 h2
    match cs, hlen with
    | [c0, c1, c2, c3, c4], _ => exact ⟨c0, c1, c2, c3, c4, rfl⟩
  obtain ⟨xs, k, -, -, -, hl, hq⟩ := DataW.trod_struct Tryz.underlying154 h2
  have hl : xs.length = 5 := hl
  have t0 := hq 0 _ rfl
  have t1 := hq 1 _ rfl
  have t2 := hq 2 _ rfl
  have t3 := hq 3 _ rfl
  have t4 := hq 4 _ rfl
  clear hq
  have some_of : ∀ {i : Nat} {z : Option (DataW H × List MemPlace)}, z = xs[i]? → i < xs.length → ∃ y, z = some y := fun {i} {z} h hi => ⟨xs[i], by rw [h, List.getElem?_eq_getElem hi]⟩
  obtain ⟨y0, e0⟩ := some_of t0 (by omega)
  obtain ⟨y1, e1⟩ := some_of t1 (by omega)
  obtain ⟨y2, e2⟩ := some_of t2 (by omega)
  obtain ⟨y3, e3⟩ := some_of t3 (by omega)
  obtain ⟨y4, e4⟩ := some_of t4 (by omega)
  obtain ⟨z0, f0, -, -⟩ := DataW.trod_int Tryz.underlying3 e0
  obtain ⟨z1, f1, -, -⟩ := DataW.trod_int Tryz.underlying3 e1
  obtain ⟨z2, f2, -, -⟩ := DataW.trod_int Tryz.underlying3 e2
  obtain ⟨z3, f3, -, hs3⟩ := DataW.trod_string Tryz.underlying9 e3
  have e4' : DataW.trod enc Tryz.prog W 0 (fun _ => true) true k 152 [c4] = some y4 := e4
  have hsl : ∃ sa sl sc, c4 = .slice sa sl sc := by
    rcases k with _ | k
    · simp [DataW.trod] at e4'
    · cases c4 <;> simp [DataW.trod, Tryz.underlying152] at e4'
      exact ⟨_, _, _, rfl⟩
  obtain ⟨sa, sl, sc, rfl⟩ := hsl
  obtain ⟨d, hd, hdl, hdn⟩ := ents_open e4'
  cases f0; cases f1; cases f2; cases f3
  unfold maxLen at hdl hdn hs3
  exact ⟨⟨z0, z1, z2, z3, d⟩, _, ⟨hcell 0 (by omega), hcell 1 (by omega), hcell 2 (by omega), hcell 3 (by omega), hcell 4 (by omega)⟩, hd, ⟨by omega, fun t ht => by have := hdn t ht; omega, by show z3.size ≤ _; omega⟩⟩

set_option maxRecDepth 100000 in
theorem inos_open {H : Type} {enc : TypeId × Value → H} {W : World} {fuel : Nat} {a : Option Addr} {len cap : Nat} {x : DataW H × List MemPlace}
    (hf : DataW.trod enc Tryz.prog W 0 (fun _ => true) true fuel 49 [.slice a len cap] = some x) :
    ∃ l : List Ino, InosAt W (.slice a len cap) l ∧ l.length ≤ maxLen ∧ ∀ y ∈ l, InoHeld y := by
  rcases open_slice Tryz.underlying49 hf with ⟨h0, -⟩ | ⟨ad, len', cap', m, n, D, Pl, h0, -, hl, hm, hmm, -, hx⟩
  · cases h0
    exact ⟨[], ⟨none, 0, rfl, fun _ => rfl, fun t ht => by simp at ht⟩, by simp, fun t ht => by simp at ht⟩
  · cases h0
    simp only [if_true] at hmm
    subst hmm
    rw [cellsLI] at hx
    obtain ⟨q, hq⟩ := choose_lt (α := Ino × Value) (p := fun i e => (W.cell? (ad.add (i * 5)) = some (.int .i64 e.1.id) ∧ W.cell? (ad.add (i * 5 + 1)) = some (.int .i64 e.1.kind) ∧ W.cell? (ad.add (i * 5 + 2)) = some (.int .i64 e.1.links) ∧ W.cell? (ad.add (i * 5 + 3)) = some (.string e.1.data) ∧ W.cell? (ad.add (i * 5 + 4)) = some e.2) ∧ EntsAt W e.2 e.1.ents ∧ InoHeld e.1) (fun i hi => by
      obtain ⟨cs', h1, h2⟩ := hx i hi
      obtain ⟨e, s, h3, h4, h5⟩ := ino_open h1 h2
      rw [add_add, add_add, add_add, add_add, add_add] at h3
      exact ⟨(e, s), by simpa using h3, h4, h5⟩)
    have hlen : ((List.range len).map fun t => (q t).1).length = len := by simp
    have hget : ∀ t, t < len → ((List.range len).map fun t => (q t).1)[t]! = (q t).1 := fun t ht => by
      rw [getElem!_pos _ t (by rw [hlen]; exact ht)]; simp
    refine ⟨(List.range len).map fun t => (q t).1, ⟨some ad, _, by rw [hlen], fun h => (by cases h), fun t ht => ?_⟩, by rw [hlen]; omega, fun y hy => ?_⟩
    · rw [hlen] at ht
      obtain ⟨⟨c0, c1, c2, c3, c4⟩, he, -⟩ := hq t (by omega)
      obtain ⟨b, off, spot⟩ := ad
      have hspot : spot = none := by
        have h00 := (hq 0 (by omega)).1.1
        simpa [Addr.add] using World.cell?_spot h00
      subst hspot
      rw [add_plain] at c0 c1 c2 c3 c4
      refine ⟨b, off, (q t).2, rfl, World.block_lt_of_cell? W _ c0, ?_, ?_⟩
      · rw [hget t ht]
        exact ⟨c0, by rw [Nat.add_assoc]; exact c1, by rw [Nat.add_assoc]; exact c2, by rw [Nat.add_assoc]; exact c3, by rw [Nat.add_assoc]; exact c4⟩
      · rw [hget t ht]; exact he
    · obtain ⟨t, ht, rfl⟩ := List.mem_map.1 hy
      exact (hq t (by have := List.mem_range.1 ht; omega)).2.2
theorem arr2 {cs : Array Value} (h : cs.size = 2) : ∃ a b, cs = #[a, b] := by
  obtain ⟨l⟩ := cs
  match l, h with
  | [a, b], _ => exact ⟨a, b, rfl⟩

set_option maxRecDepth 100000 in
theorem vol_open {H : Type} {enc : TypeId × Value → H} {W : World} {base : Nat} {r : Reach} {v : Value} {d : DataW H} {p : List MemPlace} (hv : Value.okWide Tryz.prog W r base 51 v)
    (h : DataW.Trod enc Tryz.prog W 0 (fun _ => true) true 51 v d p) : ∃ x : Vo, VolAt W v x ∧ x.ins.length ≤ maxLen ∧ ∀ y ∈ x.ins, InoHeld y := by
  obtain ⟨cs, rfl, hsz⟩ := okWide_struct Tryz.underlying51 hv
  obtain ⟨c0, c1, rfl⟩ := arr2 (hsz.trans cellsLV)
  obtain ⟨fuel, hf⟩ := h
  obtain ⟨xs, k, -, -, -, hl, hq⟩ := DataW.trod_struct Tryz.underlying51 hf
  have hl : xs.length = 2 := hl
  have t0 := hq 0 _ rfl
  have t1 := hq 1 _ rfl
  clear hq hf
  have some_of : ∀ {i : Nat} {z : Option (DataW H × List MemPlace)}, z = xs[i]? → i < xs.length → ∃ y, z = some y := fun {i} {z} h hi => ⟨xs[i], by rw [h, List.getElem?_eq_getElem hi]⟩
  obtain ⟨y0, e0⟩ := some_of t0 (by omega)
  obtain ⟨y1, e1⟩ := some_of t1 (by omega)
  obtain ⟨z0, f0, -, -⟩ := DataW.trod_int Tryz.underlying3 e0
  have e1' : DataW.trod enc Tryz.prog W 0 (fun _ => true) true k 49 [c1] = some y1 := e1
  have hsl : ∃ sa sl sc, c1 = .slice sa sl sc := by
    rcases k with _ | k
    · simp [DataW.trod] at e1'
    · cases c1 <;> simp [DataW.trod, Tryz.underlying49] at e1'
      exact ⟨_, _, _, rfl⟩
  obtain ⟨sa, sl, sc, rfl⟩ := hsl
  obtain ⟨l, hl1, hl2, hl3⟩ := inos_open e1'
  cases f0
  exact ⟨⟨z0, l⟩, ⟨_, rfl, hl1⟩, hl2, hl3⟩
end

end Go.Proofs.YtiolbmhikkcbdaaGreatDoor
