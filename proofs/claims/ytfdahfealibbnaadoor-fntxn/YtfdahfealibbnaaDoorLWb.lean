/- Rows of writes: what laws.markWriteS and heldWriteS do. -/
import Derived.Test.YtfdahfealibbnaaDoorRows
import Derived.Test.YtfdahfealibbnaaDoorLWa
namespace Go.Proofs.YtfdahfealibbnaaDoor
open Go.RowKit Go.Sort

/-- the marked write whose first number is m -/
def mkW (m : Nat) : Wr := ⟨m, mkT (m + 1)⟩
def marksW (k : Nat) : Nat → List Wr
  | 0 => []
  | n + 1 => marksW k n ++ [mkW (k + 2 * n)]
theorem marksW_len (k n : Nat) : (marksW k n).length = n := by
  induction n with
  | zero => rfl
  | succ n ih => simp [marksW, ih]
def markdW (k j : Nat) (l : List Wr) : List Wr := marksW k j ++ l.drop j
theorem markdW_len {k j : Nat} {l : List Wr} (h : j ≤ l.length) : (markdW k j l).length = l.length := by
  simp [markdW, marksW_len]; omega
theorem markdW_step {k j : Nat} {l : List Wr} (h : j < l.length) : (markdW k j l).set j (mkW (k + 2 * j)) = markdW k (j + 1) l := by
  unfold markdW
  rw [List.set_append_right _ _ (by rw [marksW_len]; exact Nat.le_refl _), marksW_len, Nat.sub_self, List.drop_eq_getElem_cons h, List.set_cons_zero]
  simp [marksW]
theorem markdW_all (k : Nat) (l : List Wr) : markdW k l.length l = marksW k l.length := by simp [markdW]
theorem marksW_get (k n t : Nat) (h : t < n) : (marksW k n)[t]! = mkW (k + 2 * t) := by
  induction n with
  | zero => omega
  | succ n ih =>
    rw [getElem!_pos _ _ (by rw [marksW_len]; exact h)]
    simp only [marksW]
    by_cases ht : t < n
    · rw [List.getElem_append_left (by rw [marksW_len]; exact ht), ← ih ht, getElem!_pos _ _ (by rw [marksW_len]; exact ht)]
    · obtain rfl : t = n := by omega
      rw [List.getElem_append_right (by rw [marksW_len]; exact Nat.le_refl _)]
      simp [marksW_len]

set_option maxRecDepth 100000 in
set_option maxHeartbeats 1000000 in
theorem markWrS_any (v : Value) (l : List Wr) (k : Nat) (base : Nat) (w : World) (hv : WrRow w base v l) (hl : l.length ≤ 1048577) (hk0 : 0 < k) (hk1 : k ≤ 100000000) :
    Calls Tryd.prog 36 #[v, .int .i64 k] w fun e w' => e = .returned (.int .i64 ((k + 2 * l.length : Nat) : Int)) ∧ WrRow w' base v (marksW k l.length) ∧ w.grownBy w' v.ownBlock := by
  rcases hv.2 with ⟨rfl, h0⟩ | ⟨g, cap, cur, rfl, hg, hh, hnc, hcp, hcs, htake⟩
  · obtain rfl : l = [] := List.length_eq_zero_iff.1 h0
    go_enter Tryd.func36, Tryd.ntmps36
    go_wp2
    refine wp_loop_rounds 1 ?_
    rw [rounds_succ]
    go_wp2
    go_ret
    exact ⟨by simp, hv, ⟨rfl, rfl, rfl, Nat.le_refl _, fun _ _ _ => rfl⟩⟩
  · obtain ⟨n, HN⟩ : ∃ n, Hid (n = l.length) := ⟨_, rfl⟩
    have hv1 : w.ownsRow base 43 2 (.slice (some ⟨g, 0, none⟩) n cap) n (flatW (markdW k 0 l)) := by
      have : markdW k 0 l = l := by simp [markdW, marksW]
      rw [this, HN.out]; exact hv
    have HM : Hid (∀ j, j < n → (markdW k j l).set j (mkW (k + 2 * j)) = markdW k (j + 1) l) := fun j hj => markdW_step (by rw [← HN.out]; exact hj)
    have HLN : Hid (∀ j, j ≤ n → (markdW k j l).length = n) := fun j hj => by rw [HN.out] at hj ⊢; exact markdW_len hj
    have HE : Hid (markdW k n l = marksW k l.length) := by show _ = _; rw [HN.out]; exact markdW_all k l
    clear hv hh hcs htake
    rw [← HN.out] at hl hnc ⊢
    go_enter Tryd.func36, Tryd.ntmps36
    go_wp2
    go_loopw [1, 5] (fun q i wr => ∃ (j m : Nat), j ≤ n ∧ i = .int .i64 j ∧ q = .int .i64 m ∧ Hid (m = k + 2 * j) ∧ wr.ownsRow base 43 2 (.slice (some ⟨g, 0, none⟩) n cap) n (flatW (markdW k j l)) ∧ w.grownBy wr (some g)) (fun _ i _ => n - (intOf i).toNat)
    case atStart => exact ⟨0, k, Nat.zero_le _, rfl, rfl, rfl, hv1, ⟨rfl, rfl, rfl, Nat.le_refl _, fun _ _ _ => rfl⟩⟩
    case round =>
      obtain ⟨j, m, hj, rfl, rfl, HMM, hown, hgb⟩ := hrel
      have hm0 : 0 < m := by have := HMM.out; omega
      have hm1 : m ≤ 200000000 := by have := HMM.out; omega
      by_cases hlt : j < n
      · obtain ⟨⟨u0, d0⟩, f0⟩ := rowW_cells hown (j * 2) (by omega)
        have hs0 := (hown.stored (j * 2) (.int .i64 (m : Int))).1
        have HP : Hid (∀ w3, Below _ (wr.setCell ⟨g, j * 2, none⟩ (.int .i64 (m : Int))) w3 → ((w3.setCell ⟨g, j * 2 + 1, none⟩ (.string (mkT (m + 1)))).ownsRow base 43 2 (.slice (some ⟨g, 0, none⟩) n cap) n (flatW (markdW k (j + 1) l))) ∧ (∀ t, t < n * 2 → (∃ u, w3.cell? ⟨g, t, none⟩ = some u) ∧ w3.frozen? ⟨g, t, none⟩ = false)) := fun w3 hb => by
          have h3 := own_below hs0 hb
          refine ⟨?_, fun t ht => rowW_cells h3 t ht⟩
          have h4 := (h3.stored (j * 2 + 1) (.string (mkT (m + 1)))).1
          have e := flatW_set (markdW k j l) j (mkW m) (by rw [HLN.out j hj]; exact hlt)
          rw [← HM.out j hlt, ← HMM.out, ← e]
          exact h4
        have HT := fun w' => markText_at ((m : Int) + 1) (m + 1) (by omega) w' (by omega) (by omega)
        have hgb2 := gbi_trans hgb (gbi_set wr g (j * 2) (.int .i64 (m : Int)))
        have HGB : Hid _ := hgb2
        clear hs0 hown hgb2
        go_wp2_with (go_at_call 55; refine (HT _).mono ?_; rintro e w3 ⟨rfl, b3⟩; obtain ⟨h3, hcc⟩ := HP.out w3 b3; obtain ⟨⟨u2, d2⟩, f2⟩ := hcc (j * 2 + 1) (by omega); have HS : Hid _ := h3; clear h3 hcc)
        go_roundw
        case rel => exact ⟨j + 1, m + 2, by omega, by go_num, by go_num, by show m + 2 = _; rw [HMM.out]; omega, HS.out, gbi_trans (gbi_trans HGB.out (gb_belowE b3)) (gbi_set _ _ _ _)⟩
        case measure => simp [intOf]; omega
      · obtain rfl : n = j := by omega
        rw [HE.out] at hown
        go_wp2
        go_ret
        refine ⟨by rw [HMM.out]; rfl, ?_, hgb⟩
        rw [← HN.out] at hown
        unfold WrRow
        rw [marksW_len]
        exact hown

set_option maxRecDepth 100000 in
set_option maxHeartbeats 1000000 in
theorem heldWrS_marks (v : Value) (n k : Nat) (w : World) (hn : n ≤ 1048577) (hk0 : 0 < k) (hk1 : k ≤ 100000000) (hv : WrsAt w v (marksW k n)) :
    Calls Tryd.prog 37 #[v, .int .i64 k] w fun e w' => e = .returned (.int .i64 ((k + 2 * n : Nat) : Int)) ∧ Below w.heap.size w w' := by
  obtain ⟨a, cap, rfl, -, hva⟩ := hv
  rw [marksW_len] at hva ⊢
  have HV : Hid (∀ t, t < n → ∃ b off, a = some ⟨b, off, none⟩ ∧ b < w.heap.size ∧ CellsW w b (off + t * 2) (mkW (k + 2 * t))) := fun t ht => by
    obtain ⟨b, off, h1, h2, h3⟩ := hva t ht
    rw [marksW_get k n t ht] at h3
    exact ⟨b, off, h1, h2, h3⟩
  clear hva
  go_enter Tryd.func37, Tryd.ntmps37
  go_wp2
  go_loopw [1, 5] (fun q i wr => ∃ (j m : Nat), j ≤ n ∧ i = .int .i64 j ∧ q = .int .i64 m ∧ Hid (m = k + 2 * j) ∧ Below w.heap.size w wr) (fun _ i _ => n - (intOf i).toNat)
  case atStart => exact ⟨0, k, Nat.zero_le _, rfl, rfl, rfl, Below.refl _ _⟩
  case round =>
    obtain ⟨j, m, hj, rfl, rfl, HMM, hbel⟩ := hrel
    have hm0 : 0 < m := by have := HMM.out; omega
    have hm1 : m ≤ 200000000 := by have := HMM.out; omega
    by_cases hlt : j < n
    · obtain ⟨b, off, rfl, hb, hc⟩ := HV.out j hlt
      rw [← HMM.out] at hc
      have hc1 := hc.below hb hbel
      have k0 := hc1.c0
      have k1 := hc1.c1
      dsimp only [mkW] at k0 k1
      have HT : ∀ (dd : Nat) (os : Array Obj), Calls Tryd.prog 55 #[.int .i64 ((m : Int) + 1)] (grow (redrawn wr dd) os) fun e w'' => e = .returned (.string (mkT (m + 1))) ∧ ∃ p : Regrown, w'' = grow (redrawn wr p.d) p.os := fun dd os => Calls.regrown_of (markText_at ((m : Int) + 1) (m + 1) (by omega) _ (by omega) (by omega))
      have q2 := cell_regrown k1
      generalize mkT (m + 1) = tx at k1 q2 HT
      have hj0 : (0 : Int) ≤ (j : Int) := by omega
      have hjn : (j : Int) < (n : Int) := by omega
      clear hc hc1
      go_wp2
      refine wp_region_quiet_below (by kernel_rfl) (by kernel_rfl) ?_
      repeat (go_big_quiet_step (exact HT _ _))
      refine wpQuiet_nil ?_
      rintro w' ⟨⟨dq, osq⟩, rfl⟩
      have hbq := below_regrown wr dq osq
      generalize grow (redrawn wr dq) osq = w3 at hbq ⊢
      go_wp2
      go_roundw
      case rel => exact ⟨j + 1, m + 2, by omega, by go_num, by go_num, by show m + 2 = _; rw [HMM.out]; omega, hbel.trans (hbq.mono hbel.size)⟩
      case measure => simp [intOf]; omega
    · obtain rfl : n = j := by omega
      go_wp2
      go_ret
      exact ⟨by rw [HMM.out]; rfl, hbel⟩

end Go.Proofs.YtfdahfealibbnaaDoor
