/- Names: a row of signs with their classes, a part of it put in order. -/
import Derived.Test.YtkgnlamlmnhleaaRows
import Derived.Test.YtkgnlamlmnhleaaTkb
import Derived.Test.YtkgnlamlmnhleaaRun
import Derived.Test.YtkgnlamlmnhleaaSta
import Derived.Test.YtkgnlamlmnhleaaSyE
namespace Go.Proofs.Ytkgnlamlmnhleaa
open Go.RowKit Go.Shelf Go.Lib Go.Sort

/-- the first ones of block g are x, each with its class -/
def PAt (w : World) (g cap : Nat) (x : List Int) : Prop :=
  ∃ cur, w.heap[g]? = some (.cells cur 60 (0, 0)) ∧ cur.size = cap * 2 ∧ x.length ≤ cap ∧ ∀ j, j < x.length → cur[j * 2]? = some (.int .i64 (x.getD j 0)) ∧ cur[j * 2 + 1]? = some (.int .i64 (clsN (x.getD j 0)))

theorem flatP_at : ∀ (x : List Int) (j : Nat), j < x.length → (flatP x)[j * 2]? = some (.int .i64 (x.getD j 0)) ∧ (flatP x)[j * 2 + 1]? = some (.int .i64 (clsN (x.getD j 0)))
  | [], j, h => by simp at h
  | c :: x, 0, _ => ⟨rfl, rfl⟩
  | c :: x, j + 1, h => by
    have ih := flatP_at x j (by simpa using h)
    have e : flatP (c :: x) = .int .i64 c :: .int .i64 (clsN c) :: flatP x := by simp [flatP, encP]
    rw [e, show (j + 1) * 2 = j * 2 + 1 + 1 by omega]
    simpa using ih

theorem PRow.at {w : World} {base g n cap : Nat} {x : List Int} (h : PRow w base (.slice (some ⟨g, 0, none⟩) n cap) x) : PAt w g cap x ∧ n = x.length ∧ base ≤ g ∧ n ≤ cap := by
  rcases h.2 with ⟨e, _⟩ | ⟨g', cap', cur, e, hg, hh, hnc, hcp, hcs, htake⟩
  · cases e
  · cases e
    refine ⟨⟨cur, hh, hcs, hnc, fun j hj => ?_⟩, rfl, hg, hnc⟩
    have h1 := flatP_at x j hj
    have key : ∀ t, t < x.length * 2 → cur[t]? = (flatP x)[t]? := fun t ht => by
      rw [← htake, List.getElem?_take_of_lt ht]; simp
    rw [key _ (by omega), key _ (by omega)]
    exact h1

theorem PAt.lt {w : World} {g cap : Nat} {x : List Int} (h : PAt w g cap x) : g < w.heap.size := by
  obtain ⟨cur, hh, _⟩ := h
  exact lt_of_block hh
theorem PAt.below {w w' : World} {g cap : Nat} {x : List Int} (h : PAt w g cap x) (b : Below w.heap.size w w') : PAt w' g cap x := by
  have hl := h.lt
  obtain ⟨cur, hh, r⟩ := h
  exact ⟨cur, (b.block g hl).trans hh, r⟩
theorem PAt.cells {w : World} {g cap : Nat} {x : List Int} (h : PAt w g cap x) (j : Nat) (hj : j < x.length) : w.cell? ⟨g, j * 2, none⟩ = some (.int .i64 (x.getD j 0)) ∧ w.cell? ⟨g, j * 2 + 1, none⟩ = some (.int .i64 (clsN (x.getD j 0))) := by
  obtain ⟨cur, hh, _, _, hc⟩ := h
  rw [cell_of_row w g _ _ _ (0, 0) hh, cell_of_row w g _ _ _ (0, 0) hh]
  exact hc j hj

/-- a part of it, as the sort takes it -/
theorem PAt.holds {w : World} {g cap : Nat} {x : List Int} (h : PAt w g cap x) (f n : Nat) (hn : f + n ≤ x.length) : HoldsK encP 2 w g (f * 2) ((x.drop f).take n).toArray ∧ ((x.drop f).take n).toArray.size = n := by
  have hsz : ((x.drop f).take n).toArray.size = n := by simp; omega
  refine ⟨fun j hj => ?_, hsz⟩
  rw [size_flatK, hsz] at hj
  have hd : ((x.drop f).take n).toArray[j / 2]! = x.getD (f + j / 2) 0 := by
    rw [getElem!_pos _ _ (by rw [hsz]; omega)]
    simp [List.getD, show f + j / 2 < x.length by omega]
  have hc := h.cells (f + j / 2) (by omega)
  obtain ⟨cur, hh, _⟩ := h
  refine ⟨?_, frozen_of_row w g _ _ _ hh⟩
  show _ = some ((flatK encP 2 _)[j]!)
  rw [get_flatK _ _ _ _ (by rw [hsz]; exact hj), hd]
  rcases Nat.mod_two_eq_zero_or_one j with h2 | h2
  · rw [h2, show f * 2 + j = (f + j / 2) * 2 by omega, hc.1]; rfl
  · rw [h2, show f * 2 + j = (f + j / 2) * 2 + 1 by omega, hc.2]; rfl

/-- and as it leaves it -/
theorem PAt.sorted {w W : World} {g cap : Nat} {x : List Int} (h : PAt w g cap x) (f n : Nat) (hn : f + n ≤ x.length) {dk : Array Int} (hs : SWp w g (f * 2) dk W) (hd : dk.size = n) :
    PAt W g cap (x.take f ++ (dk.toList ++ x.drop (f + n))) ∧ w.grownBy W (some g) := by
  obtain ⟨hb, _, m, os, rfl⟩ := hs
  obtain ⟨cur, hh, hcs, hxc, hc⟩ := h
  have hold : ∀ k, k < w.heap.size → k ≠ g → (sortWorldK encP 2 w g (f * 2) m dk os).heap[k]? = w.heap[k]? := fun k hk hne => by
    unfold sortWorldK
    rw [heap_grow_old _ _ (by rw [size_putRowK]; exact hk)]
    show (w.heap.modify g _)[k]? = _
    rw [Array.getElem?_modify, if_neg (Ne.symm hne)]
  have hnew : (sortWorldK encP 2 w g (f * 2) m dk os).heap[g]? = some (.cells (putCells id (f * 2) (flatK encP 2 dk) cur) 60 (0, 0)) := by
    unfold sortWorldK
    rw [heap_grow_old _ _ (by rw [size_putRowK]; exact hb)]
    show (w.heap.modify g _)[g]? = _
    rw [Array.getElem?_modify, if_pos rfl, hh]
    rfl
  have hlen : (x.take f ++ (dk.toList ++ x.drop (f + n))).length = x.length := by simp [hd]; omega
  refine ⟨⟨_, hnew, by simp [putCells, hcs], by rw [hlen]; exact hxc, fun j hj => ?_⟩, ⟨rfl, rfl, rfl, by unfold sortWorldK; rw [size_grow, size_putRowK]; exact Nat.le_add_right _ _, fun k hk hne => hold k hk (fun e => hne (by rw [e]))⟩⟩
  rw [hlen] at hj
  have hput : ∀ t, t < cap * 2 → (putCells id (f * 2) (flatK encP 2 dk) cur)[t]? = if f * 2 ≤ t ∧ t < f * 2 + n * 2 then some (flatK encP 2 dk)[t - f * 2]! else cur[t]? := fun t ht => by
    unfold putCells
    rw [Array.getElem?_mapIdx, size_flatK, hd]
    have : t < cur.size := by omega
    rw [Array.getElem?_eq_getElem this]
    by_cases hq : f * 2 ≤ t ∧ t < f * 2 + n * 2
    · simp [hq]
    · rw [if_neg hq]; simp [hq]
  rw [hput _ (by omega), hput _ (by omega)]
  have c0 := hc j hj
  by_cases h1 : j < f
  · rw [if_neg (by omega), if_neg (by omega)]
    have e : (x.take f ++ (dk.toList ++ x.drop (f + n))).getD j 0 = x.getD j 0 := by
      simp only [List.getD]
      rw [List.getElem?_append_left (by simp; omega), List.getElem?_take_of_lt h1]
    rw [e]; exact c0
  · by_cases h2 : j < f + n
    · rw [if_pos (by omega), if_pos (by omega)]
      have e : (x.take f ++ (dk.toList ++ x.drop (f + n))).getD j 0 = dk[j - f]! := by
        simp only [List.getD]
        rw [List.getElem?_append_right (by simp; omega), List.getElem?_append_left (by simp; omega)]
        have hk : j - min f x.length < dk.size := by omega
        rw [List.length_take, Array.getElem?_toList, Array.getElem?_eq_getElem hk, getElem!_pos dk (j - f) (by omega)]
        simp only [Option.getD_some]
        congr 1; omega
      rw [e, get_flatK _ _ _ _ (by omega), get_flatK _ _ _ _ (by omega), show (j * 2 - f * 2) / 2 = j - f by omega, show (j * 2 - f * 2) % 2 = 0 by omega, show (j * 2 + 1 - f * 2) / 2 = j - f by omega, show (j * 2 + 1 - f * 2) % 2 = 1 by omega]
      exact ⟨rfl, rfl⟩
    · rw [if_neg (by omega), if_neg (by omega)]
      have e : (x.take f ++ (dk.toList ++ x.drop (f + n))).getD j 0 = x.getD j 0 := by
        simp only [List.getD]
        rw [List.getElem?_append_right (by simp; omega), List.getElem?_append_right (by simp; omega), List.getElem?_drop]
        congr 2; simp; omega
      rw [e]; exact c0

end Go.Proofs.Ytkgnlamlmnhleaa
