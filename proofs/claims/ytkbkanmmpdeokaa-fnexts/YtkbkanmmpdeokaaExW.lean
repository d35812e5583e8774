/- Extents, pure: the blocks that go, as they are found file block by file block; which blocks there are. -/
import Derived.Test.YtkbkanmmpdeokaaRows
import Derived.Test.YtkbkanmmpdeokaaExV
namespace Go.Proofs.Ytkbkanmmpdeokaa
open Go.RowKit

theorem exM_mem {l : List Ex} (h : ExR l) (c : Int) (hc : 0 ≤ c) : c ∈ exM l ↔ ∃ i, ExAt l i c := by
  constructor
  · intro hm
    obtain ⟨j, hj, e⟩ := List.getElem_of_mem hm
    have hj12 : j < 12 := by rwa [exM_len] at hj
    exact ⟨j, (exM_iff h j hj12 c).2 ⟨by rw [getElem!_pos _ j hj, e], hc⟩⟩
  · rintro ⟨i, hi⟩
    have hb := h.bd hi
    have e : i = ((i.toNat : Nat) : Int) := by omega
    rw [e] at hi
    have h2 := (exM_iff h i.toNat (by omega) c).1 hi
    have hlt : i.toNat < (exM l).length := by rw [exM_len]; omega
    rw [getElem!_pos (exM l) i.toNat hlt] at h2
    rw [← h2.1]
    exact List.getElem_mem hlt
theorem gone_is {l : List Ex} (h : ExR l) (n : Int) : goneN l n = ((List.range 12).filter fun j : Nat => decide (n ≤ (j : Int)) && decide (0 ≤ (exM l)[j]!)).map fun j : Nat => (exM l)[j]! := by
  have key : ((pairsN l).filter fun x => decide (n ≤ x.1)) = ((List.range 12).filter fun j : Nat => decide (n ≤ (j : Int)) && decide (0 ≤ (exM l)[j]!)).map fun j : Nat => ((j : Int), (exM l)[j]!) := by
    refine rise_uniq (fun x y : Int × Int => x.1 < y.1) (fun x => by omega) (fun x y z h1 h2 => by omega) _ _ ((pairs_rise h.g).filter _) ?_ ?_
    · rw [List.pairwise_map]
      exact (List.pairwise_lt_range.filter _).imp fun h => by dsimp only; omega
    · rintro ⟨i, c⟩
      rw [List.mem_filter, pairs_mem, List.mem_map]
      constructor
      · rintro ⟨h1, h2⟩
        have h2 := of_decide_eq_true h2
        dsimp only at h2
        have hb := h.bd h1
        have e : i = ((i.toNat : Nat) : Int) := by omega
        rw [e] at h1
        obtain ⟨h3, h4⟩ := (exM_iff h i.toNat (by omega) c).1 h1
        refine ⟨i.toNat, List.mem_filter.2 ⟨List.mem_range.2 (by omega), ?_⟩, ?_⟩
        · rw [Bool.and_eq_true]
          exact ⟨decide_eq_true (by omega), decide_eq_true (by omega)⟩
        · rw [Prod.mk.injEq]
          exact ⟨e.symm, h3⟩
      · rintro ⟨j, hj, e⟩
        obtain ⟨hj1, hj2⟩ := List.mem_filter.1 hj
        rw [List.mem_range] at hj1
        rw [Bool.and_eq_true] at hj2
        have a := of_decide_eq_true hj2.1
        have b := of_decide_eq_true hj2.2
        cases e
        exact ⟨(exM_iff h j hj1 _).2 ⟨rfl, b⟩, decide_eq_true a⟩
  unfold goneN
  rw [key, List.map_map]
  rfl
/-- the blocks of an extent behind those ahead of it are all blocks; a block of a right row lies in one extent -/
theorem blocksE_mem {l : List Ex} (h : ExR l) (c : Int) : c ∈ blocksE l ↔ ∃ i, ExAt l i c := by
  unfold blocksE
  rw [List.mem_map]
  constructor
  · rintro ⟨k, hk, rfl⟩
    obtain ⟨-, h2⟩ := List.mem_filter.1 hk
    exact (exM_mem h k (by omega)).1 (List.contains_iff_mem.1 h2)
  · rintro ⟨i, hi⟩
    have hb := h.bd hi
    refine ⟨c.toNat, List.mem_filter.2 ⟨List.mem_range.2 (by omega), ?_⟩, by omega⟩
    rw [show ((c.toNat : Nat) : Int) = c by omega]
    exact List.contains_iff_mem.2 ((exM_mem h c (by omega)).2 ⟨i, hi⟩)
theorem blocksE_rise (l : List Ex) : (blocksE l).Pairwise (· < ·) := by
  unfold blocksE
  rw [List.pairwise_map]
  exact (List.pairwise_lt_range.filter _).imp fun h => by omega
/-- whoever gives rising blocks, just these, gives these -/
theorem blocksE_is {l : List Ex} (h : ExR l) {b : List Int} (hr : b.Pairwise (· < ·)) (hm : ∀ c, c ∈ b ↔ ∃ i, ExAt l i c) : b = blocksE l :=
  rise_uniq (fun x y : Int => x < y) (fun x => by omega) (fun x y z h1 h2 => by omega) _ _ hr (blocksE_rise l) fun c => by rw [hm, blocksE_mem h]
end Go.Proofs.Ytkbkanmmpdeokaa
