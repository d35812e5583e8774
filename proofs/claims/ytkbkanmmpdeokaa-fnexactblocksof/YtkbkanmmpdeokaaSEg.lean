/- Extents, specification's side: BlocksOf. -/
import Derived.Test.YtkbkanmmpdeokaaRows
import Derived.Test.YtkbkanmmpdeokaaSEf
namespace Go.Proofs.Ytkbkanmmpdeokaa
open Go.RowKit Go.Sort

def blK (l : List Ex) (k : Nat) : List Int := ((List.range k).filter fun c : Nat => (exM l).contains (c : Int)).map fun c : Nat => (c : Int)
theorem blK_step (l : List Ex) (k : Nat) : blK l (k + 1) = blK l k ++ (if (exM l).contains (k : Int) = true then [(k : Int)] else []) := by
  unfold blK
  rw [List.range_succ, List.filter_append, List.map_append]
  congr 1
  by_cases e : (exM l).contains (k : Int) = true
  · rw [if_pos e]
    simp only [List.filter_cons, List.filter_nil, e, if_true, List.map_cons, List.map_nil]
  · rw [if_neg e]
    rw [Bool.not_eq_true] at e
    simp only [List.filter_cons, List.filter_nil, e, Bool.false_eq_true, if_false, List.map_nil]
theorem blK_len (l : List Ex) (k : Nat) : (blK l k).length ≤ k := by
  unfold blK
  rw [List.length_map]
  exact Nat.le_trans (List.length_filter_le _ _) (by simp)

set_option maxRecDepth 100000 in
set_option maxHeartbeats 4000000 in
theorem sBlocksOf (v : Value) (l : List Ex) (w : World) (hl : l.length ≤ 1048576) (hv : ExsAt w v l) :
    Calls Try.prog 17 #[v] w fun e w' => ∃ u, e = .returned u ∧ IntRow w' w.heap.size u (blocksN l) ∧ Below w.heap.size w w' := by
  have B0 := below_lit w (.cells #[] 3)
  have R0 : IntRow (w.alloc (.cells #[] 3)) w.heap.size (.slice (some ⟨w.heap.size, 0, none⟩) 0 0) [] := lit_at w #[] [] 0 rfl rfl (by omega)
  by_cases h : ExR l
  · have HK : Hid (∀ w', Below w.heap.size w w' → Calls Try.prog 13 #[v] w' fun e w'' => e = .returned (.bool true) ∧ Below w'.heap.size w' w'') := fun w' b => by
      have := sExtsOk v l w' hl (hv.below b)
      rwa [okE_yes h] at this
    have HM : Hid (∀ w', Below w.heap.size w w' → Calls Try.prog 41 #[v] w' fun e w'' => ∃ u, e = .returned u ∧ IntRow w'' w'.heap.size u (exM l) ∧ Below w'.heap.size w' w'') := fun w' b => l16Map_any v l w' h (hv.below b)
    have hml := exM_len l
    have HST : Hid (∀ k : Nat, blK l (k + 1) = blK l k ++ (if (exM l).contains (k : Int) = true then [(k : Int)] else [])) := blK_step l
    have HBL : Hid (∀ k : Nat, (blK l k).length ≤ k) := blK_len l
    have HE : Hid (blocksN l = blK l 24) := by show _ = _; unfold blocksN blocksE blK; rw [if_pos h]
    have RB : IntRow (w.alloc (.cells #[] 3)) w.heap.size (.slice (some ⟨w.heap.size, 0, none⟩) 0 0) (blK l 0) := R0
    generalize blocksN l = R at HE ⊢
    clear R0 h hv
    go_enter Try.func17, Try.ntmps17
    go_wp2
    go_loopw [3, 4] (fun ov iv wr => ∃ k : Nat, k ≤ 24 ∧ iv = .int .i64 k ∧ IntRow wr w.heap.size ov (blK l k) ∧ Below w.heap.size w wr) (fun _ iv _ => 24 - (intOf iv).toNat)
    case atStart => exact ⟨0, Nat.zero_le _, rfl, RB, B0⟩
    case round =>
      clear RB B0
      obtain ⟨k, hk, rfl, hrow, hbel⟩ := hrel
      by_cases hlt : k < 24
      · have hltz : (k : Int) < 24 := by omega
        have HK1 := HK.out _ hbel
        have HS1 : Hid _ := HST.out k
        have hbl := HBL.out k
        have HM1 := HM.out
        have HHAS := fun u w' => l16Has_any u (exM l) k w' (by omega)
        generalize (exM l).contains (k : Int) = c at *
        generalize exM l = m at *
        clear HM HK HST HBL HE
        cases c with
        | true =>
          have HS2 : Hid (blK l (k + 1) = blK l k ++ [(k : Int)]) := HS1.out
          clear HS1
          go_wp2_with (first | (go_at_call 13; refine HK1.mono ?_; rintro e w1 ⟨rfl, b1⟩; have B1 := hbel.trans (b1.mono hbel.size)) | (go_at_call 41; refine (HM1 _ B1).mono ?_; rintro e w2 ⟨u, rfl, r2, b2⟩; have B2 := B1.trans (b2.mono B1.size); have row2 := (hrow.below b1).below b2) | (go_at_call 43; refine (HHAS _ w2 r2.at).mono ?_; rintro e w' ⟨rfl, e2⟩; rw [e2]; clear e2 w') | (at_builtin; refine append_int w2 rfl (.tmp 18) (.tmp 20) rfl w.heap.size _ (blK l k) k (by omega) row2 rfl rfl B2.size ?_; intro v8 w8 row8 b8; have B8 := B2.trans b8))
          go_roundw
          case rel => exact ⟨k + 1, by omega, by go_num, by rw [HS2.out]; exact row8, B8⟩
          case measure => simp [intOf]; omega
        | false =>
          have HS2 : Hid (blK l (k + 1) = blK l k) := by show _ = _; rw [HS1.out]; simp
          clear HS1
          go_wp2_with (first | (go_at_call 13; refine HK1.mono ?_; rintro e w1 ⟨rfl, b1⟩; have B1 := hbel.trans (b1.mono hbel.size)) | (go_at_call 41; refine (HM1 _ B1).mono ?_; rintro e w2 ⟨u, rfl, r2, b2⟩; have B2 := B1.trans (b2.mono B1.size); have row2 := (hrow.below b1).below b2) | (go_at_call 43; refine (HHAS _ w2 r2.at).mono ?_; rintro e w' ⟨rfl, e2⟩; rw [e2]; clear e2 w'))
          go_roundw
          case rel => exact ⟨k + 1, by omega, by go_num, by rw [HS2.out]; exact row2, B2⟩
          case measure => simp [intOf]; omega
      · obtain rfl : k = 24 := by omega
        rw [← HE.out] at hrow
        clear HM HK HST HBL HE
        go_wp2
        go_ret
        exact ⟨_, rfl, hrow, hbel⟩
  · have HK := sExtsOk v l _ hl (hv.below B0)
    rw [okE_no h] at HK
    have e1 : blocksN l = [] := by unfold blocksN; rw [if_neg h]
    rw [e1]
    go_enter Try.func17, Try.ntmps17
    go_wp2
    go_loopw [3, 4] (fun ov iv wr => ov = .slice (some ⟨w.heap.size, 0, none⟩) 0 0 ∧ iv = .int .i64 0 ∧ wr = w.alloc (.cells #[] 3)) (fun _ _ _ => 0)
    case atStart => exact ⟨rfl, rfl, rfl⟩
    case round =>
      obtain ⟨rfl, rfl, rfl⟩ := hrel
      go_wp2_with (go_at_call 13; refine HK.mono ?_; rintro e w1 ⟨rfl, b1⟩)
      go_ret
      exact ⟨_, rfl, R0.below b1, B0.trans (b1.mono B0.size)⟩
end Go.Proofs.Ytkbkanmmpdeokaa
