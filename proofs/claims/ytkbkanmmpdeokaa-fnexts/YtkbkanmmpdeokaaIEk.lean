/- Extents, program's side: BlocksOf. -/
import Derived.Test.YtkbkanmmpdeokaaRows
import Derived.Test.YtkbkanmmpdeokaaIEc
import Derived.Test.YtkbkanmmpdeokaaSEg
namespace Go.Proofs.Ytkbkanmmpdeokaa
open Go.RowKit Go.Sort

theorem used_blk {l : List Ex} (h : ExR l) (c : Nat) (hc : c < 24) : (fN (usedN l)).testBit c = (exM l).contains (c : Int) := by
  rw [fN_bit, Bool.eq_iff_iff, usedN_iff l c hc, List.contains_iff_mem, exM_mem h c (by omega)]

set_option maxRecDepth 100000 in
set_option maxHeartbeats 2000000 in
theorem iBlocksOf (v : Value) (l : List Ex) (w : World) (hl : l.length ≤ 1048576) (hv : ExsAt w v l) :
    Calls Try.prog 16 #[v] w fun e w' => ∃ u, e = .returned u ∧ IntRow w' w.heap.size u (blocksN l) ∧ Below w.heap.size w w' := by
  have HT := iTakenBy v l w hl hv
  by_cases h : ExR l
  · have ht : tkN l = fN (usedN l) := by unfold tkN; rw [if_pos (okE_yes h)]
    rw [okE_yes h, ht] at HT
    have hf24 := fN_lt24 (usedN_len l)
    have HH : Hid (∀ k : Nat, k < 24 → ∀ w', Calls Try.prog 35 #[.int .u32 (fN (usedN l) : Nat), .int .i64 k] w' fun e w'' => e = .returned (.bool ((exM l).contains (k : Int))) ∧ w' = w'') := fun k hk w' => by
      have := iHas (fN (usedN l)) k (by omega) hk w'
      rwa [used_blk h k hk] at this
    have HS : Hid (∀ k : Nat, blK l (k + 1) = blK l k ++ (if (exM l).contains (k : Int) = true then [(k : Int)] else [])) := fun k => blK_step l k
    have HB : Hid (blocksN l = blK l 24) := by show _ = _; unfold blocksN; rw [if_pos h]; rfl
    have H0 : Hid (blK l 0 = []) := rfl
    have HL : Hid (∀ k, (blK l k).length ≤ k) := blK_len l
    generalize blocksN l = B at HB ⊢
    generalize fN (usedN l) = f at *
    go_enter Try.func16, Try.ntmps16
    go_wp2_with (go_at_call 33; refine HT.mono ?_; rintro e w1 ⟨rfl, b1⟩)
    go_loopw [5, 14] (fun ov iv wr => ∃ k : Nat, k ≤ 24 ∧ iv = .int .i64 k ∧ IntRow wr w1.heap.size ov (blK l k) ∧ Below w1.heap.size w1 wr) (fun _ iv _ => 24 - (intOf iv).toNat)
    case atStart => exact ⟨0, Nat.zero_le _, rfl, by rw [H0.out]; exact World.ownsRow_nil _ _ _ _, Below.refl _ _⟩
    case round =>
      obtain ⟨k, hk, rfl, hrow, hbel⟩ := hrel
      by_cases hlt : k < 24
      · have hltz : (k : Int) < 24 := by omega
        have HH1 := HH.out k hlt
        have HS1 : Hid _ := HS.out k
        have hbl := HL.out k
        generalize (exM l).contains (k : Int) = c at *
        clear HH HS HL HB H0
        cases c with
        | true =>
          have HS2 : Hid (blK l (k + 1) = blK l k ++ [(k : Int)]) := HS1.out
          clear HS1
          go_wp2_with (first | (go_at_call 35; refine (HH1 _).mono ?_; rintro e w2 ⟨rfl, rfl⟩) | (at_builtin; refine append_int _ rfl (.tmp 20) (.tmp 22) rfl w1.heap.size _ (blK l k) k (by omega) hrow rfl rfl hbel.size ?_; intro v8 w8 row8 b8; have B8 := hbel.trans b8))
          go_roundw
          case rel => exact ⟨k + 1, by omega, by go_num, by rw [HS2.out]; exact row8, B8⟩
          case measure => simp [intOf]; omega
        | false =>
          have HS2 : Hid (blK l (k + 1) = blK l k) := by show _ = _; rw [HS1.out]; simp
          clear HS1
          go_wp2_with (first | (go_at_call 35; refine (HH1 _).mono ?_; rintro e w2 ⟨rfl, rfl⟩))
          go_roundw
          case rel => exact ⟨k + 1, by omega, by go_num, by rw [HS2.out]; exact hrow, hbel⟩
          case measure => simp [intOf]; omega
      · obtain rfl : k = 24 := by omega
        clear HH HS HL
        go_wp2
        go_ret
        exact ⟨_, rfl, by rw [HB.out]; exact hrow.mono b1.size, b1.trans (hbel.mono b1.size)⟩
  · have HN : Hid (blocksN l = []) := by show _ = _; unfold blocksN; rw [if_neg h]
    rw [okE_no h] at HT
    generalize tkN l = f at HT
    generalize blocksN l = B at HN ⊢
    go_enter Try.func16, Try.ntmps16
    go_wp2_with (go_at_call 33; refine HT.mono ?_; rintro e w1 ⟨rfl, b1⟩)
    go_ret
    exact ⟨_, rfl, by rw [HN.out]; exact World.ownsRow_nil _ _ _ _, b1⟩
end Go.Proofs.Ytkbkanmmpdeokaa
