/- Rows of entries: what laws.markEntS does. -/
import Derived.Test.YtgjehmobafkjfaaRows
import Derived.Test.YtgjehmobafkjfaaLEk
namespace Go.Proofs.Ytgjehmobafkjfaa
open Go.RowKit

theorem markText_at (z : Int) (k : Nat) (hz : z = (k : Int)) (w : World) (h0 : 0 < k) (h1 : k ≤ 1000000000) :
    Calls Try.prog 21 #[.int .i64 z] w fun e w' => e = .returned (.string (mkT k)) ∧ Below w.heap.size w w' := by
  rw [hz]; exact markText_any k w h0 h1
theorem gb_belowE {w w' : World} {g : Nat} (b : Below w.heap.size w w') : w.grownBy w' (some g) := ⟨b.os, b.tape, b.output, b.size, fun k hk _ => b.block k hk⟩

/-- the marked entry whose first number is m -/
def mkE (m : Nat) : En := ⟨m, m + 1, mkT (m + 2), m + 3⟩
def marksE (k : Nat) : Nat → List En
  | 0 => []
  | n + 1 => marksE k n ++ [mkE (k + 4 * n)]
theorem marksE_len (k n : Nat) : (marksE k n).length = n := by
  induction n with
  | zero => rfl
  | succ n ih => simp [marksE, ih]
def markdE (k j : Nat) (l : List En) : List En := marksE k j ++ l.drop j
theorem markdE_len {k j : Nat} {l : List En} (h : j ≤ l.length) : (markdE k j l).length = l.length := by
  simp [markdE, marksE_len]; omega
theorem markdE_step {k j : Nat} {l : List En} (h : j < l.length) : (markdE k j l).set j (mkE (k + 4 * j)) = markdE k (j + 1) l := by
  unfold markdE
  rw [List.set_append_right _ _ (by rw [marksE_len]; exact Nat.le_refl _), marksE_len, Nat.sub_self, List.drop_eq_getElem_cons h, List.set_cons_zero]
  simp [marksE]
theorem markdE_all (k : Nat) (l : List En) : markdE k l.length l = marksE k l.length := by simp [markdE]

set_option maxRecDepth 100000 in
set_option maxHeartbeats 1000000 in
theorem markEntS_any (v : Value) (l : List En) (k : Nat) (base : Nat) (w : World) (hv : EntRow w base v l) (hl : l.length ≤ 1048577) (hk0 : 0 < k) (hk1 : k ≤ 100000000) :
    Calls Try.prog 22 #[v, .int .i64 k] w fun e w' => e = .returned (.int .i64 ((k + 4 * l.length : Nat) : Int)) ∧ EntRow w' base v (marksE k l.length) ∧ w.grownBy w' v.ownBlock := by
  rcases hv.2 with ⟨rfl, h0⟩ | ⟨g, cap, cur, rfl, hg, hh, hnc, hcp, hcs, htake⟩
  · obtain rfl : l = [] := List.length_eq_zero_iff.1 h0
    go_enter Try.func22, Try.ntmps22
    go_wp2
    refine wp_loop_rounds 1 ?_
    rw [rounds_succ]
    go_wp2
    go_ret
    exact ⟨by simp, hv, ⟨rfl, rfl, rfl, Nat.le_refl _, fun _ _ _ => rfl⟩⟩
  · obtain ⟨n, HN⟩ : ∃ n, Hid (n = l.length) := ⟨_, rfl⟩
    have hv1 : w.ownsRow base 49 4 (.slice (some ⟨g, 0, none⟩) n cap) n (flatE (markdE k 0 l)) := by
      have : markdE k 0 l = l := by simp [markdE, marksE]
      rw [this, HN.out]; exact hv
    have HM : Hid (∀ j, j < n → (markdE k j l).set j (mkE (k + 4 * j)) = markdE k (j + 1) l) := fun j hj => markdE_step (by rw [← HN.out]; exact hj)
    have HLN : Hid (∀ j, j ≤ n → (markdE k j l).length = n) := fun j hj => by rw [HN.out] at hj ⊢; exact markdE_len hj
    have HE : Hid (markdE k n l = marksE k l.length) := by show _ = _; rw [HN.out]; exact markdE_all k l
    clear hv hh hcs htake
    rw [← HN.out] at hl hnc ⊢
    go_enter Try.func22, Try.ntmps22
    go_wp2
    go_loopw [1, 5] (fun q i wr => ∃ (j m : Nat), j ≤ n ∧ i = .int .i64 j ∧ q = .int .i64 m ∧ Hid (m = k + 4 * j) ∧ wr.ownsRow base 49 4 (.slice (some ⟨g, 0, none⟩) n cap) n (flatE (markdE k j l)) ∧ w.grownBy wr (some g)) (fun _ i _ => n - (intOf i).toNat)
    case atStart => exact ⟨0, k, Nat.zero_le _, rfl, rfl, rfl, hv1, ⟨rfl, rfl, rfl, Nat.le_refl _, fun _ _ _ => rfl⟩⟩
    case round =>
      obtain ⟨j, m, hj, rfl, rfl, HMM, hown, hgb⟩ := hrel
      have hm0 : 0 < m := by have := HMM.out; omega
      have hm1 : m ≤ 200000000 := by have := HMM.out; omega
      by_cases hlt : j < n
      · obtain ⟨⟨u0, d0⟩, f0⟩ := row_cells hown (j * 4) (by omega)
        obtain ⟨⟨u1, d1⟩, f1⟩ := row_cells hown (j * 4 + 1) (by omega)
        have hs0 := (hown.stored (j * 4) (.int .i64 (m : Int))).1
        have hs1 := (hs0.stored (j * 4 + 1) (.int .i64 ((m : Int) + 1))).1
        have HP : Hid (∀ w3, Below _ ((wr.setCell ⟨g, j * 4, none⟩ (.int .i64 (m : Int))).setCell ⟨g, j * 4 + 1, none⟩ (.int .i64 ((m : Int) + 1))) w3 → (((w3.setCell ⟨g, j * 4 + 2, none⟩ (.string (mkT (m + 2)))).setCell ⟨g, j * 4 + 3, none⟩ (.int .i64 ((m : Int) + 1 + 1 + 1))).ownsRow base 49 4 (.slice (some ⟨g, 0, none⟩) n cap) n (flatE (markdE k (j + 1) l))) ∧ (∀ t, t < n * 4 → (∃ u, w3.cell? ⟨g, t, none⟩ = some u) ∧ w3.frozen? ⟨g, t, none⟩ = false)) := fun w3 hb => by
          have h3 := own_below hs1 hb
          refine ⟨?_, fun t ht => row_cells h3 t ht⟩
          have h4 := (h3.stored (j * 4 + 2) (.string (mkT (m + 2)))).1
          have h5 := (h4.stored (j * 4 + 3) (.int .i64 ((m : Int) + 3))).1
          have e := flatE_set (markdE k j l) j (mkE m) (by rw [HLN.out j hj]; exact hlt)
          rw [← HM.out j hlt, ← HMM.out, ← e, show (m : Int) + 1 + 1 + 1 = (m : Int) + 3 by omega]
          exact h5
        have hw1 : IntKind.i64.wrap ((m : Int) + 1) = (m : Int) + 1 := by rw [IntKind.wrap_i64]; omega
        have HT := fun w' => markText_at ((m : Int) + 1 + 1) (m + 2) (by omega) w' (by omega) (by omega)
        have hgb2 := gbi_trans (gbi_trans hgb (gbi_set wr g (j * 4) (.int .i64 (m : Int)))) (gbi_set _ g (j * 4 + 1) (.int .i64 ((m : Int) + 1)))
        have HGB : Hid _ := hgb2
        clear hs0 hs1 hown hgb2
        go_wp2_with (go_at_call 21; refine (HT _).mono ?_; rintro e w3 ⟨rfl, b3⟩; obtain ⟨h3, hcc⟩ := HP.out w3 b3; obtain ⟨⟨u2, d2⟩, f2⟩ := hcc (j * 4 + 2) (by omega); obtain ⟨⟨u3, d3⟩, f3⟩ := hcc (j * 4 + 3) (by omega); have HS : Hid _ := h3; clear h3 hcc)
        go_roundw
        case rel => exact ⟨j + 1, m + 4, by omega, by go_num, by go_num, by show m + 4 = _; rw [HMM.out]; omega, HS.out, gbi_trans (gbi_trans (gbi_trans HGB.out (gb_belowE b3)) (gbi_set _ _ _ _)) (gbi_set _ _ _ _)⟩
        case measure => simp [intOf]; omega
      · obtain rfl : n = j := by omega
        rw [HE.out] at hown
        go_wp2
        go_ret
        refine ⟨by rw [HMM.out]; rfl, ?_, hgb⟩
        rw [← HN.out] at hown
        unfold EntRow
        rw [marksE_len]
        exact hown

end Go.Proofs.Ytgjehmobafkjfaa
