/- A bitmap in a word: impl.flagsOf, list. -/
import Derived.Test.YthnpjlnilkbamaaDoorRows
import Derived.Test.YthnpjlnilkbamaaDoorIBa
namespace Go.Proofs.YthnpjlnilkbamaaDoor
open Go.RowKit Go.Sort

set_option maxRecDepth 100000 in
set_option maxHeartbeats 1000000 in
theorem iFlagsOf (v : Value) (b : List Bool) (w : World) (hv : BosAt w v b) (hb : b.length = 24) :
    Calls Tryd.prog 29 #[v] w fun e w' => e = .returned (.int .u32 (fN b : Nat)) ∧ w = w' := by
  obtain ⟨a, ca, rfl, -, hva⟩ := hv
  have HS : Hid (∀ k, fN (b.take (k + 1)) = if b[k]! then fN (b.take k) ||| mskN k 1 else fN (b.take k)) := fN_step b
  have HL : Hid (∀ k, k ≤ 24 → fN (b.take k) < 16777216) := fun k hk => by
    have h1 := fN_lt (b.take k)
    rw [List.length_take, show min k b.length = k by omega] at h1
    have h2 : 2 ^ k ≤ 2 ^ 24 := Nat.pow_le_pow_right (by decide) hk
    omega
  have HE : Hid (fN (b.take 24) = fN b) := by show _ = _; rw [← hb, List.take_length]
  have H0 : Hid (fN (b.take 0) = 0) := rfl
  rw [hb] at hva ⊢
  generalize fN b = res at HE ⊢
  go_enter Tryd.func29, Tryd.ntmps29
  go_wp2
  go_loopw [3, 5] (fun fv iv wr => ∃ (k f : Nat), k ≤ 24 ∧ iv = .int .i64 k ∧ fv = .int .u32 f ∧ Hid (fN (b.take k) = f) ∧ wr = w) (fun _ iv _ => 24 - (intOf iv).toNat)
  case atStart => exact ⟨0, 0, by omega, rfl, rfl, H0, rfl⟩
  case round =>
    obtain ⟨k, f, hk, rfl, rfl, HF, rfl⟩ := hrel
    by_cases hlt : k < 24
    · obtain ⟨b1, o1, rfl, hb1, hc1⟩ := hva k hlt
      have c0 := hc1.c0
      rw [Nat.mul_one] at c0
      have h1 := HS.out k
      have h2 := HL.out k (by omega)
      rw [HF.out] at h1 h2
      have HN : Hid (fN (b.take (k + 1)) = if b[k]! then f ||| mskN k 1 else f) := h1
      generalize b[k]! = x at c0 HN
      clear h1 hva hc1
      cases x
      · have HN2 : Hid (fN (b.take (k + 1)) = f) := HN.out
        clear HN
        go_wp2
        go_roundw
        case rel => exact ⟨k + 1, f, by omega, by go_num, rfl, HN2, by first | rfl | trivial⟩
        case measure => simp [intOf]; omega
      · have HN2 : Hid (fN (b.take (k + 1)) = f ||| mskN k 1) := HN.out
        clear HN
        have HM := iFlagsAt k 1 (by omega) wr
        have hm := mskN_lt k 1 (by omega)
        generalize mskN k 1 = m at HM HN2 hm
        have e1 : bits .or .u32 (f : Int) (m : Int) = (f ||| m : Nat) := u32_or_nat f m (by omega) (by omega)
        generalize f ||| m = g at HN2 e1
        go_wp2_with (go_at_call 34; refine HM.mono ?_; rintro e w1 ⟨rfl, rfl⟩)
        go_roundw
        case rel => exact ⟨k + 1, g, by omega, by go_num, rfl, HN2, by first | rfl | trivial⟩
        case measure => simp [intOf]; omega
    · obtain rfl : k = 24 := by omega
      have hr : Hid (res = f) := by show res = f; rw [← HE.out, HF.out]
      clear hva
      go_wp2
      go_ret
      exact ⟨ret_int (by rw [hr.out]), rfl⟩

theorem fill_bl (f k : Nat) (hk : k < 24) : (fillBo k (blN f)).set k (f.testBit k) = fillBo (k + 1) (blN f) := by
  have h := fillBo_step k (blN f) (by rw [blN_len]; exact hk)
  rwa [blN_get f k hk] at h

set_option maxRecDepth 100000 in
set_option maxHeartbeats 1000000 in
theorem iList (f : Nat) (hf : f < 4294967296) (w : World) :
    Calls Tryd.prog 35 #[.int .u32 f] w fun e w' => ∃ u, e = .returned u ∧ BoRow w' w.heap.size u (blN f) ∧ Below w.heap.size w w' := by
  have HM : Hid (∀ j, j < 24 → (fillBo j (blN f)).set j (f.testBit j) = fillBo (j + 1) (blN f)) := fill_bl f
  have HE : Hid (fillBo 24 (blN f) = blN f) := by show _ = _; unfold fillBo; rw [blN_len, List.take_of_length_le (by rw [blN_len]; exact Nat.le_refl _)]; simp
  have HLE : Hid (∀ j, (fillBo j (blN f)).length = 24) := fun j => by rw [fillBo_len]; exact blN_len f
  have HR : Hid (∀ w' u, BoRow w' w.heap.size u (blN f) = w'.ownsRow w.heap.size 4 1 u 24 (flatBo (blN f))) := fun _ _ => by unfold BoRow; rw [blN_len]
  have HZ : Hid (fillBo 0 (blN f) = List.replicate 24 false) := by show _ = _; unfold fillBo; rw [blN_len]; rfl
  have HH : Hid (∀ (k : Nat) w', k < 24 → Calls Tryd.prog 39 #[.int .u32 f, .int .i64 k] w' fun e w2 => e = .returned (.bool (f.testBit k)) ∧ w' = w2) := fun k w' hk => iHas f k hf hk w'
  generalize blN f = l at *
  generalize f.testBit = tb at *
  obtain ⟨i0, hi, hz0, hz1, hz2⟩ := info_parts Tryd.infoBo
  go_enter Tryd.func35, Tryd.ntmps35
  go_wp2_with (at_make; refine wpList_make_full _ rfl _ _ 24 rfl w.heap.size 4 i0 (.bool false) 1 Tryd.underlying24 hi hz0 hz1 .i64 .i64 _ _ 24 rfl rfl rfl rfl (by rw [hz2]; omega) (by unfold maxLen; omega) (Nat.le_refl _) ?_; intro w1 hown1 hgrow1)
  have hown2 : w1.ownsRow w.heap.size 4 1 (.slice (some ⟨w.heap.size, 0, none⟩) 24 24) 24 (flatBo (fillBo 0 l)) := by
    rw [HZ.out]; exact make_Bos hown1
  have hbel2 : Below w.heap.size w w1 := (Below.refl _ _).grown hgrow1 (Nat.le_refl _) (fun _ h => by cases h)
  clear hown1 hgrow1
  go_wp2
  go_loopw [6] (fun i wr => ∃ k : Nat, k ≤ 24 ∧ i = .int .i64 k ∧ wr.ownsRow w.heap.size 4 1 (.slice (some ⟨w.heap.size, 0, none⟩) 24 24) 24 (flatBo (fillBo k l)) ∧ Below w.heap.size w wr) (fun i _ => 24 - (intOf i).toNat)
  case atStart => exact ⟨0, Nat.zero_le _, rfl, hown2, hbel2⟩
  case round =>
    obtain ⟨k, hk, rfl, hown, hbel⟩ := hrel
    by_cases hlt : k < 24
    · obtain ⟨⟨u0, d0⟩, f0⟩ := rowBo_cells hown k (by omega)
      have hst := (hown.stored k (.bool (tb k))).1
      have e := flatBo_put (fillBo k l) k (tb k) (by rw [HLE.out]; exact hlt)
      rw [Nat.mul_one] at e
      rw [e, HM.out k hlt] at hst
      have HC := HH.out k wr hlt
      generalize tb k = x0 at hst HC
      have HS : Hid ((wr.setCell ⟨w.heap.size, k, none⟩ (.bool x0)).ownsRow w.heap.size 4 1 (.slice (some ⟨w.heap.size, 0, none⟩) 24 24) 24 (flatBo (fillBo (k + 1) l))) := hst
      clear hown hst e
      go_wp2_with (go_at_call 39; refine HC.mono ?_; rintro e w1 ⟨rfl, rfl⟩)
      go_roundw
      case rel => exact ⟨k + 1, by omega, by go_num, HS.out, hbel.setCell (Nat.le_refl _) _⟩
      case measure => simp [intOf]; omega
    · obtain rfl : k = 24 := by omega
      rw [HE.out] at hown
      go_wp2
      go_ret
      exact ⟨_, rfl, by rw [HR.out]; exact hown, hbel⟩
end Go.Proofs.YthnpjlnilkbamaaDoor
