/- Names: impl.Fold: its contract. -/
import Derived.Test.YtalpeeaaaapijaaDoorRows
import Derived.Test.YtalpeeaaaapijaaDoorApt
import Derived.Test.YtalpeeaaaapijaaDoorICls
namespace Go.Proofs.YtalpeeaaaapijaaDoor
open Go.RowKit

theorem foldN_ne (c : Int) : foldN c ≠ [] ∧ (foldN c).length ≤ 2 := by
  unfold foldN
  split
  · simp
  · split
    · simp
    · split <;> simp
theorem folds_len (l : List Int) : (foldsN l).length ≤ 2 * l.length := by
  unfold foldsN
  induction l with
  | nil => simp
  | cons c l ih => rw [List.flatMap_cons, List.length_append, List.length_cons]; have := (foldN_ne c).2; omega

set_option maxRecDepth 100000 in
set_option maxHeartbeats 2000000 in
theorem iFold (v : Value) (l : List Int) (w : World) (hv : IntsAt w v l) (hl : l.length ≤ 16777216) :
    Calls Tryd.prog 18 #[v] w fun e w' => ∃ v', e = .returned v' ∧ IntRow w' w.heap.size v' (foldsN l) ∧ Below w.heap.size w w' := by
  obtain ⟨i0, hi, hz0, hz1, hz2⟩ := info_parts Tryd.infoInt
  obtain ⟨ad, cp, rfl, hc⟩ := hv
  have HC : Hid (∀ t, t < l.length → ∃ b off, ad = some ⟨b, off, none⟩ ∧ b < w.heap.size ∧ w.cell? ⟨b, off + t, none⟩ = some (.int .i64 (l.getD t 0))) := hc
  have hTL := folds_len
  have HA : Hid (foldsN l = l.flatMap foldN) := rfl
  obtain ⟨n, HN⟩ : ∃ n, Hid (n = l.length) := ⟨_, rfl⟩
  rw [← HN.out] at hl ⊢
  clear hc
  go_enter Tryd.func18, Tryd.ntmps18
  go_wp2_with (at_make; refine wpList_make_own _ rfl _ _ 30 rfl w.heap.size 3 i0 (.int .i64 0) 1 Tryd.underlying30 hi hz0 hz1 .i64 .i64 _ n rfl rfl (by omega) (by rw [hz2]; omega) (by unfold maxLen; omega) (Nat.le_refl _) ?_; intro w3 hown3 hgrow3)
  have hb3 : Below w.heap.size w w3 := (Below.refl _ _).grown hgrow3 (Nat.le_refl _) (fun _ h => by cases h)
  clear hgrow3 hi hz0 hz1 hz2
  go_loopw [3, 11] (fun u i wr => ∃ k : Nat, k ≤ n ∧ i = .int .i64 k ∧ IntRow wr w.heap.size u ((l.take k).flatMap foldN) ∧ Below w.heap.size w wr) (fun _ i _ => n - (intOf i).toNat)
  case atStart => exact ⟨0, Nat.zero_le _, rfl, by simpa [IntRow, intsV] using hown3, hb3⟩
  case round =>
    obtain ⟨k, hk, rfl, hrow, hbel⟩ := hrel
    by_cases hlt : k < n
    · have hltz : (k : Int) < (n : Int) := by omega
      have hkl : k < l.length := by have := HN.out; omega
      obtain ⟨b1, o1, rfl, hb1, hc1⟩ := HC.out k hkl
      have hc2 : wr.cell? ⟨b1, o1 + k, none⟩ = some (.int .i64 (l.getD k 0)) := (hbel.cell (p := ⟨b1, o1 + k, none⟩) hb1).trans hc1
      have HT : Hid ((l.take (k + 1)).flatMap foldN = (l.take k).flatMap foldN ++ foldN (l.getD k 0)) := flatMap_take l foldN k hkl
      have hFO := fun w' => iFoldOf (l.getD k 0) w'
      have hne := foldN_ne (l.getD k 0)
      have hlen : ((l.take k).flatMap foldN).length ≤ 33554432 := by have h1 := hTL (l.take k); rw [List.length_take] at h1; unfold foldsN at h1; omega
      clear hc1 HC
      generalize l.getD k 0 = x at *
      generalize foldN x = fx at *
      go_wp2_with (first | (go_at_call 32; refine (hFO _).mono ?_; rintro e w1 ⟨u1, rfl, hr1, hb4⟩; have hrow1 := hrow.below hb4; have hbel1 := hbel.trans (hb4.mono hbel.size)) | (at_builtin; refine append_ints w1 rfl (.tmp 15) (.tmp 17) rfl w.heap.size _ _ _ fx hne.1 (by omega) hrow1 hr1.at rfl rfl hbel1.size ?_; intro v' w4 hrow4 hbel4))
      have HB4 := hbel1.trans hbel4
      go_roundw
      case rel => exact ⟨k + 1, by omega, by go_num, by rw [HT.out]; exact hrow4, HB4⟩
      case measure => simp [intOf]; omega
    · obtain rfl : k = n := by omega
      have hrow' : IntRow wr w.heap.size u3 (foldsN l) := by rw [HA.out]; rw [HN.out, List.take_of_length_le (Nat.le_refl _)] at hrow; exact hrow
      go_wp2
      go_ret
      exact ⟨_, rfl, hrow', hbel⟩

end Go.Proofs.YtalpeeaaaapijaaDoor
