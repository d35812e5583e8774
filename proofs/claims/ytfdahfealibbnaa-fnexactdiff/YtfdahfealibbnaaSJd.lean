/- Journals, spec: Diff. -/
import Derived.Test.YtfdahfealibbnaaRows
import Derived.Test.YtfdahfealibbnaaJdT
import Derived.Test.YtfdahfealibbnaaStS
import Derived.Deep.RegionHeld3
namespace Go.Proofs.Ytfdahfealibbnaa
open Go.RowKit Go.Sort

set_option maxRecDepth 100000 in
set_option maxHeartbeats 1000000 in
theorem sDiff (u v : Value) (a b : List ByteArray) (w : World) (hu : TxtsAt w u a) (hv : TxtsAt w v b) :
    Calls Try.prog 5 #[u, v] w fun e w' => ∃ r, e = .returned r ∧ WrRow w' w.heap.size r (diffN a b) ∧ Below w.heap.size w w' := by
  obtain ⟨aa, ca, rfl, -, hua⟩ := hu
  obtain ⟨bb, cb, rfl, -, hvb⟩ := hv
  have hlit := lit_wrs w
  have hb0 := below_lit w (.cells #[] 31)
  by_cases h1 : a.length = 17
  · by_cases h2 : b.length = 17
    · have HD : Hid (diffN a b = diffK a b 17) := by show _ = _; unfold diffN; rw [if_pos ⟨h1, h2⟩]
      rw [HD.out]
      rw [h1] at hua ⊢
      rw [h2] at hvb ⊢
      clear HD h1 h2
      go_enter Try.func5, Try.ntmps5
      go_wp2
      go_loopw [5, 6] (fun o i wr => ∃ k : Nat, k ≤ 17 ∧ i = .int .i64 k ∧ WrRow wr w.heap.size o (diffK a b k) ∧ Below w.heap.size w wr) (fun _ i _ => 17 - (intOf i).toNat)
      case atStart => exact ⟨0, Nat.zero_le _, rfl, hlit, hb0⟩
      case round =>
        obtain ⟨k, hk, rfl, hown, hbel⟩ := hrel
        by_cases hlt : k < 17
        · obtain ⟨b1, o1, rfl, hb1, hc1⟩ := hua k hlt
          obtain ⟨b2, o2, rfl, hb2, hc2⟩ := hvb k hlt
          have hc1' := (hbel.cell (p := ⟨b1, o1 + k, none⟩) hb1).trans hc1
          have hc2' := (hbel.cell (p := ⟨b2, o2 + k, none⟩) hb2).trans hc2
          have HE : Hid (a[k]! = b[k]! → diffK a b (k + 1) = diffK a b k) := diffK_eq
          have HN : Hid (¬ a[k]! = b[k]! → diffK a b (k + 1) = diffK a b k ++ [⟨k, b[k]!⟩]) := diffK_ne
          have hln := diffK_len a b k
          generalize a[k]! = x at hc1' HE HN
          generalize b[k]! = y at hc2' HE HN
          generalize diffK a b k = D at hown HE HN hln
          have hkn : (k : Int) < 17 := by omega
          have hk0 : (0 : Int) ≤ (k : Int) := by omega
          clear hc1 hc2
          by_cases hxy : x = y
          · have hf : (x.toList == y.toList) = true := by simp [hxy]
            have hr := HE.out hxy
            have HR : Hid (diffK a b (k + 1) = D) := hr
            clear HE HN hxy hr
            go_wp2
            go_quiet (fail)
            go_wp2
            go_roundw
            case rel => exact ⟨k + 1, by omega, by go_num, by rw [HR.out]; exact own_below hown (below_drewN (Below.refl _ _) _), below_drewN hbel _⟩
            case measure => simp [intOf]; omega
          · have hf : (x.toList == y.toList) = false := by rw [text_beq]; exact decide_eq_false hxy
            have hr := HN.out hxy
            have HR : Hid (diffK a b (k + 1) = D ++ [⟨k, y⟩]) := hr
            clear HE HN hxy hr
            go_wp2
            go_quiet (fail)
            have HW : Hid (∀ n, WrRow (wr.drewN n) w.heap.size _ D ∧ Below w.heap.size w (wr.drewN n)) := fun n => ⟨own_below hown (below_drewN (Below.refl _ _) _), below_drewN hbel _⟩
            go_wp2_with (at_builtin; refine append_wr1 _ rfl (.tmp 30) (.tmp 37) rfl w.heap.size _ D ⟨k, y⟩ (by omega) (HW.out _).1 rfl rfl (HW.out _).2.size ?_; intro v6 w6 hrow6 hb6)
            go_roundw
            case rel => exact ⟨k + 1, by omega, by go_num, by rw [HR.out]; exact hrow6, (HW.out _).2.trans hb6⟩
            case measure => simp [intOf]; omega
        · obtain rfl : k = 17 := by omega
          go_wp2
          go_ret
          exact ⟨_, rfl, hown, hbel⟩
    · have h2' : ((b.length : Int) != 17) = true := by simp; omega
      have h1' : ((a.length : Int) != 17) = false := by simp; omega
      have HD : Hid (diffN a b = []) := by show _ = _; unfold diffN; rw [if_neg (fun h => h2 h.2)]
      rw [HD.out]
      go_enter Try.func5, Try.ntmps5
      go_wp2
      go_ret
      exact ⟨_, rfl, hlit, hb0⟩
  · have h1' : ((a.length : Int) != 17) = true := by simp; omega
    have HD : Hid (diffN a b = []) := by show _ = _; unfold diffN; rw [if_neg (fun h => h1 h.1)]
    rw [HD.out]
    go_enter Try.func5, Try.ntmps5
    go_wp2
    go_ret
    exact ⟨_, rfl, hlit, hb0⟩

end Go.Proofs.Ytfdahfealibbnaa
