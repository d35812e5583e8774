/- Names: slices.symMergeCmpFunc at signs with their classes, where the second part is of one. -/
import Derived.Test.YtkgnlamlmnhleaaDoorRows
import Derived.Test.YtkgnlamlmnhleaaDoorSyA
namespace Go.Proofs.YtkgnlamlmnhleaaDoor
open Go.RowKit Go.Shelf Go.Lib Go.Sort

set_option maxRecDepth 1000000 in
set_option maxHeartbeats 4000000 in
theorem symB (blk off cap a m : Nat) (d : Array Int) (w : World) (hH : HoldsK encP 2 w blk off d) (hblk : blk < w.heap.size) (ham : a + 1 < m) (hb : m < d.size) (hsz : d.size < 4611686018427387904) (hs : Hid (Srtd clsN a m d)) (b : Nat) (hbm : Hid (b = m + 1)) :
    Calls Tryd.prog 66 #[.slice (some ⟨blk, off, none⟩) d.size cap, .int .i64 a, .int .i64 m, .int .i64 b, .func (.func 42) #[] #[]] w fun e w' => e = .returned (.tuple #[]) ∧ ∃ d', SWp w blk off d' w' ∧ Merged clsN a b d d' := by
  have HST : Hid (SWp w blk off d w) := SWp.start hH hblk
  clear hH
  have mixed : Tryd.prog.follows Departure.mixedOrders = true := by kernel_rfl
  obtain ⟨ma, HMA⟩ : ∃ x : Nat, Hid (x = m - a) := ⟨_, rfl⟩
  have z0 : IntKind.i64.wrap ((m : Int) - (a : Int)) = (ma : Int) := by rw [HMA.out, IntKind.wrap_i64]; omega
  have z01 : ((ma : Int) == 1) = false := by have := HMA.out; rw [beq_eq_false_iff_ne]; omega
  have z1 : IntKind.i64.wrap ((b : Int) - (m : Int)) = 1 := by rw [hbm.out, IntKind.wrap_i64]; omega
  go_enter Tryd.func66, Tryd.ntmps66
  go_wp2
  go_loopw [14, 15] (fun vi vj wr => ∃ (i j : Nat), a ≤ i ∧ i ≤ j ∧ j ≤ m ∧ vi = .int .i64 i ∧ vj = .int .i64 j ∧ Hid (SWp w blk off d wr) ∧ Hid (∀ t, a ≤ t → t < i → clsN d[t]! ≤ clsN d[m]!) ∧ Hid (∀ t, j ≤ t → t < m → clsN d[m]! < clsN d[t]!)) (fun vi vj _ => (intOf vj).toNat - (intOf vi).toNat)
  case atStart => exact ⟨a, m, Nat.le_refl _, by omega, Nat.le_refl _, rfl, rfl, HST, fun t h1 h2 => by omega, fun t h1 h2 => by omega⟩
  case round =>
    obtain ⟨i, j, hi, hij, hj, rfl, rfl, HD, HL, HU⟩ := hrel
    by_cases hlt : i < j
    · have hltz : (i : Int) < (j : Int) := by omega
      obtain ⟨h, s, hse, hih, hhj, hhe, y1, y2, y3, y4, y5⟩ := mid_half i j hlt (by omega)
      clear hse hhe
      obtain ⟨lh0, lh1⟩ := HD.out.cells (p := h) (by omega)
      obtain ⟨la0, la1⟩ := HD.out.cells (p := m) (by omega)
      have hcg : ∀ n os, Calls Tryd.prog 42 #[.agg #[.int .i64 d[m]!, .int .i64 (clsN d[m]!)], .agg #[.int .i64 d[h]!, .int .i64 (clsN d[h]!)]] (grow (wr.drewN n) os) fun e w' => e = .returned (.int .i64 (clsN d[m]! - clsN d[h]!)) ∧ ∃ q os', w' = grow ((grow (wr.drewN n) os).drewN q) os' := fun n os => against_any _ _ _
      have jh : (h : Int) < (d.size : Int) := by omega
      have ja : (m : Int) < (d.size : Int) := by omega
      obtain ⟨kh, HKH⟩ : ∃ k, Hid (k = clsN d[h]!) := ⟨_, rfl⟩
      obtain ⟨ka, HKA⟩ : ∃ k, Hid (k = clsN d[m]!) := ⟨_, rfl⟩
      obtain ⟨xh, HXH⟩ : ∃ k, Hid (k = d[h]!) := ⟨_, rfl⟩
      obtain ⟨xa, HXA⟩ : ∃ k, Hid (k = d[m]!) := ⟨_, rfl⟩
      rw [← HKH.out, ← HKA.out] at hcg
      rw [← HXH.out, ← HXA.out] at hcg
      rw [← HKH.out] at lh1
      rw [← HKA.out] at la1
      rw [← HXH.out] at lh0
      rw [← HXA.out] at la0
      have KEY : Hid (ka - kh < 0 ↔ clsN d[m]! < clsN d[h]!) := by show _ ↔ _; rw [HKH.out, HKA.out]; omega
      by_cases hlv : ka - kh < 0
      · have HU2 : Hid (∀ t, h ≤ t → t < m → clsN d[m]! < clsN d[t]!) := fun t h1 h2 => by
          have q1 := KEY.out.1 hlv
          have q2 := hs.out.le clsN (show a ≤ h by omega) h1 h2
          omega
        go_wp2_with fail
        go_quiet_grown (first | (go_at_call 42; refine Calls.grown_of (hcg _ _)))
        have HD2 : Hid (SWp w blk off d (grow (wr.drewN nq) osq)) := HD.out.grown nq osq
        clear lh0 lh1 la0 la1 hcg
        generalize grow (wr.drewN nq) osq = W2 at *
        go_wp2
        go_roundw
        case rel => exact ⟨i, h, hi, hih, by omega, rfl, rfl, HD2, HL, HU2⟩
        case measure => simp [intOf]; omega
      · have HL2 : Hid (∀ t, a ≤ t → t < h + 1 → clsN d[t]! ≤ clsN d[m]!) := fun t h1 h2 => by
          have q1 : ¬ clsN d[m]! < clsN d[h]! := fun q => hlv (KEY.out.2 q)
          have q2 := hs.out.le clsN h1 (show t ≤ h by omega) (by omega)
          omega
        have hlb : decide (ka - kh < 0) = false := decide_eq_false hlv
        clear hlv
        go_wp2_with fail
        go_quiet_grown (first | (go_at_call 42; refine Calls.grown_of (hcg _ _)))
        have HD2 : Hid (SWp w blk off d (grow (wr.drewN nq) osq)) := HD.out.grown nq osq
        clear lh0 lh1 la0 la1 hcg
        generalize grow (wr.drewN nq) osq = W2 at *
        go_wp2
        go_roundw
        case rel => exact ⟨h + 1, j, by omega, by omega, hj, by go_num, rfl, HD2, HL2, HU⟩
        case measure => simp [intOf]; omega
    · obtain rfl : i = j := by omega
      go_wp2
      go_loopw [17] (fun vk W => ∃ (k : Nat) (dk : Array Int), i ≤ k ∧ k ≤ m ∧ vk = .int .i64 k ∧ Hid (SWp w blk off dk W) ∧ Hid (Rot k m (m + 1) d dk)) (fun vk _ => (intOf vk).toNat - i)
      case atStart => exact ⟨m, d, hj, Nat.le_refl _, rfl, HD, Rot.none_l m (m + 1) d⟩
      case round =>
        obtain ⟨k, dk, hak, hkl, rfl, HD3, HR⟩ := hrel
        by_cases hlt2 : i < k
        · have hltz2 : (i : Int) < (k : Int) := by omega
          have hsk : dk.size = d.size := HR.out.1
          obtain ⟨q, HQ⟩ : ∃ q, Hid (k = q + 1) := ⟨k - 1, show k = k - 1 + 1 by omega⟩
          have hq : q < d.size := by have := HQ.out; omega
          have hk : k < d.size := by omega
          obtain ⟨⟨la0, la1⟩, ⟨lb0, lb1⟩, ⟨f0, f1, f2, f3⟩, n1, n2, n3⟩ := swap_known HD3.out.holds (p := k) (q := q) (by omega) (by omega) (by have := HQ.out; omega)
          have HW : Hid _ := HD3.out.swap (p := k) (q := q) (by omega) (by omega)
          have HSW : Hid (Rot q m (m + 1) d (swp dk k q)) := by
            have hr := HR.out
            rw [HQ.out] at hr ⊢
            exact hr.bwd (by have := HQ.out; omega) hb
          generalize swp dk k q = dn at *
          generalize clsN dk[k]! = ka at *
          generalize clsN dk[q]! = kb at *
          generalize dk[k]! = xa at *
          generalize dk[q]! = xb at *
          have za : IntKind.i64.wrap ((k : Int) - 1) = (q : Int) := by rw [HQ.out, IntKind.wrap_i64]; omega
          have ja : (k : Int) < (d.size : Int) := by omega
          have jb : (q : Int) < (d.size : Int) := by omega
          go_wp2_with fail
          go_big_region_o
          all_goals go_wp2
          go_roundw
          case rel => exact ⟨q, dn, by have := HQ.out; omega, by have := HQ.out; omega, rfl, HW.out, HSW⟩
          case measure => have := HQ.out; simp [intOf]; omega
        · obtain rfl : i = k := by omega
          have HM : Hid (Merged clsN a b d dk) := by rw [hbm.out]; exact merged_last clsN hb hs.out hi hkl HL.out HU.out HR.out
          go_wp2
          (try simp only [Exit.inBlock, Exit.then])
          refine bodyPost_ret (results_none rfl _ _ _) rfl ?_
          exact ⟨rfl, dk, HD3.out, HM.out⟩

end Go.Proofs.YtkgnlamlmnhleaaDoor
