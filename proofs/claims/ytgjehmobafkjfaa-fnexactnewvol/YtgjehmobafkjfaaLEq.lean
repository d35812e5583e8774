/- Rows of entries: what laws.heldEntS does. -/
import Derived.Test.YtgjehmobafkjfaaRows
import Derived.Test.YtgjehmobafkjfaaLEp
namespace Go.Proofs.Ytgjehmobafkjfaa
open Go.RowKit Go.Sort

theorem marksE_get (k n t : Nat) (h : t < n) : (marksE k n)[t]! = mkE (k + 4 * t) := by
  induction n with
  | zero => omega
  | succ n ih =>
    rw [getElem!_pos _ _ (by rw [marksE_len]; exact h)]
    simp only [marksE]
    by_cases ht : t < n
    · rw [List.getElem_append_left (by rw [marksE_len]; exact ht), ← ih ht, getElem!_pos _ _ (by rw [marksE_len]; exact ht)]
    · obtain rfl : t = n := by omega
      rw [List.getElem_append_right (by rw [marksE_len]; exact Nat.le_refl _)]
      simp [marksE_len]

set_option maxRecDepth 100000 in
set_option maxHeartbeats 1000000 in
theorem heldEntS_marks (v : Value) (n k : Nat) (w : World) (hn : n ≤ 1048577) (hk0 : 0 < k) (hk1 : k ≤ 100000000) (hv : EntsAt w v (marksE k n)) :
    Calls Try.prog 23 #[v, .int .i64 k] w fun e w' => e = .returned (.int .i64 ((k + 4 * n : Nat) : Int)) ∧ Below w.heap.size w w' := by
  obtain ⟨a, cap, rfl, -, hva⟩ := hv
  rw [marksE_len] at hva ⊢
  have HV : Hid (∀ t, t < n → ∃ b off, a = some ⟨b, off, none⟩ ∧ b < w.heap.size ∧ CellsE w b (off + t * 4) (mkE (k + 4 * t))) := fun t ht => by
    obtain ⟨b, off, h1, h2, h3⟩ := hva t ht
    rw [marksE_get k n t ht] at h3
    exact ⟨b, off, h1, h2, h3⟩
  clear hva
  go_enter Try.func23, Try.ntmps23
  go_wp2
  go_loopw [1, 5] (fun q i wr => ∃ (j m : Nat), j ≤ n ∧ i = .int .i64 j ∧ q = .int .i64 m ∧ Hid (m = k + 4 * j) ∧ Below w.heap.size w wr) (fun _ i _ => n - (intOf i).toNat)
  case atStart => exact ⟨0, k, Nat.zero_le _, rfl, rfl, rfl, Below.refl _ _⟩
  case round =>
    obtain ⟨j, m, hj, rfl, rfl, HMM, hbel⟩ := hrel
    have hm0 : 0 < m := by have := HMM.out; omega
    have hm1 : m ≤ 200000000 := by have := HMM.out; omega
    by_cases hlt : j < n
    · obtain ⟨b, off, rfl, hb, hc⟩ := HV.out j hlt
      rw [← HMM.out] at hc
      have hc1 := hc.below hb hbel
      have k0 := hc1.c0
      have k1 := hc1.c1
      have k2 := hc1.c2
      have k3 := hc1.c3
      dsimp only [mkE] at k0 k1 k2 k3
      have HC : Hid (∀ w', Below wr.heap.size wr w' → w'.cell? ⟨b, off + j * 4 + 3, none⟩ = some (.int .i64 ((m : Int) + 3))) := fun w' hb' => (hc.below hb (hbel.trans (hb'.mono hbel.size))).c3
      have HT : ∀ (dd : Nat) (os : Array Obj), Calls Try.prog 21 #[.int .i64 ((m : Int) + 1 + 1)] (grow (redrawn wr dd) os) fun e w'' => e = .returned (.string (mkT (m + 2))) ∧ ∃ p : Regrown, w'' = grow (redrawn wr p.d) p.os := fun dd os => Calls.regrown_of (markText_at ((m : Int) + 1 + 1) (m + 2) (by omega) _ (by omega) (by omega))
      have q2 := cell_regrown k2
      generalize mkT (m + 2) = tx at k2 q2 HT
      have hj0 : (0 : Int) ≤ (j : Int) := by omega
      have hjn : (j : Int) < (n : Int) := by omega
      have h3 : ((m : Int) + 3 != (m : Int) + 1 + 1 + 1) = false := by simp; omega
      clear hc hc1
      go_wp2
      refine wp_region_quiet_below (by kernel_rfl) (by kernel_rfl) ?_
      repeat (go_big_quiet_step (exact HT _ _))
      refine wpQuiet_nil ?_
      rintro w' ⟨⟨dq, osq⟩, rfl⟩
      have hbq := below_regrown wr dq osq
      generalize grow (redrawn wr dq) osq = w3 at hbq ⊢
      have d3 := HC.out w3 hbq
      go_wp2
      go_roundw
      case rel => exact ⟨j + 1, m + 4, by omega, by go_num, by go_num, by show m + 4 = _; rw [HMM.out]; omega, hbel.trans (hbq.mono hbel.size)⟩
      case measure => simp [intOf]; omega
    · obtain rfl : n = j := by omega
      go_wp2
      go_ret
      exact ⟨by rw [HMM.out]; rfl, hbel⟩

end Go.Proofs.Ytgjehmobafkjfaa
