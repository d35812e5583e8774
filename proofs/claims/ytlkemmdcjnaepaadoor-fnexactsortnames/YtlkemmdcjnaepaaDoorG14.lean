/- Names: signs with their classes held against each other; slices.insertionSortCmpFunc over them. Names: slices.symMergeCmpFunc at signs with their classes, where the first part is of one. Names: slices.symMergeCmpFunc at signs with their classes, where the second part is of one. Names: what slices.symMergeCmpFunc says of parts that are shorter. -/
import Derived.Test.YtlkemmdcjnaepaaDoorRows
import Derived.Test.YtlkemmdcjnaepaaDoorG12
import Derived.Test.YtlkemmdcjnaepaaDoorG13
namespace Go.Proofs.YtlkemmdcjnaepaaDoor

section
open Go.RowKit Go.Shelf Go.Lib Go.Sort

theorem clsN_bd (c : Int) : 0 ≤ clsN c ∧ clsN c ≤ 230 := by
  unfold clsN
  split
  · omega
  · split
    · omega
    · split <;> omega

set_option maxRecDepth 100000 in
set_option maxHeartbeats 1000000 in
theorem against_any (x y : Int) (W : World) :
    Calls Tryd.prog 113 #[.agg #[.int .i64 x, .int .i64 (clsN x)], .agg #[.int .i64 y, .int .i64 (clsN y)]] W fun e w' => e = .returned (.int .i64 (clsN x - clsN y)) ∧ ∃ q os, w' = grow (W.drewN q) os := by
  have hx := clsN_bd x
  have hy := clsN_bd y
  generalize clsN x = a at *
  generalize clsN y = b at *
  go_enter Tryd.func113, Tryd.ntmps113
  go_wp2
  go_ret
  exact ⟨rfl, 0, _, by rw [alloc_eq_grow, alloc_eq_grow, grow_grow]; rfl⟩

theorem insert_any (blk off cap a b : Nat) (d : Array Int) (w : World) (hH : HoldsK encP 2 w blk off d) (hblk : blk < w.heap.size) (hab : a ≤ b) (hb : b ≤ d.size) (hsz : d.size < 4611686018427387904) :
    Calls Tryd.prog 124 #[.slice (some ⟨blk, off, none⟩) d.size cap, .int .i64 a, .int .i64 b, .func (.func 113) #[] #[]] w fun e w' => e = .returned (.tuple #[]) ∧ ∃ d', SWp w blk off d' w' ∧ Merged clsN a b d d' := by
  have h := AnyQ.insertionSortCmpFunc Tryd.laysIns 2 (fun w => Tryd.isAgg108 w) (fun w => Tryd.sizeOf108 w) encP encP_len encP_one (fun x y => clsN x - clsN y) 113 #[] blk off cap a b d w (enters_of Tryd.func113 (by kernel_rfl) rfl) (fun m os dk _ x y => against_any x y _) hH hblk hab hb hsz
  refine Calls.mono (f := 124) h ?_
  rintro e w' ⟨rfl, n, os, rfl⟩
  have hm := ins_merged clsN d a b hab hb
  exact ⟨rfl, _, ⟨hblk, ⟨d, hH, hm.size⟩, n, os, rfl⟩, hm⟩
end

section
open Go.RowKit Go.Shelf Go.Lib Go.Sort

/-- what is known of one of them in each world that a look passes through -/
theorem SWp.cells {w W : World} {blk off : Nat} {dk : Array Int} (h : SWp w blk off dk W) {p : Nat} (hp : p < dk.size) :
    (∀ n os, (grow (W.drewN n) os).cell? ⟨blk, off + p * 2, none⟩ = some (.int .i64 dk[p]!)) ∧ (∀ n os, (grow (W.drewN n) os).cell? ⟨blk, off + p * 2 + 1, none⟩ = some (.int .i64 (clsN dk[p]!))) :=
  ⟨fun n os => HoldsK.cells (h.grown n os).holds encP_len hp 0 _ rfl, fun n os => HoldsK.cells (h.grown n os).holds encP_len hp 1 _ rfl⟩

/-- the midst, as it is reckoned -/
theorem mid_half (i j : Nat) (hij : i < j) (hj : j < 4611686018427387904) : ∃ h s : Nat, s = i + j ∧ i ≤ h ∧ h < j ∧ h = (i + j) / 2 ∧ IntKind.i64.wrap ((i : Int) + (j : Int)) = (s : Int) ∧ IntKind.u64.wrap (s : Int) = (s : Int) ∧ (s : Int) / 2 = (h : Int) ∧ IntKind.u64.wrap (h : Int) = (h : Int) ∧ IntKind.i64.wrap (h : Int) = (h : Int) := by
  refine ⟨(i + j) / 2, i + j, rfl, by omega, by omega, rfl, ?_, ?_, ?_, ?_, ?_⟩
  · rw [IntKind.wrap_i64]; omega
  · rw [IntKind.wrap_u64]; omega
  · omega
  · rw [IntKind.wrap_u64]; omega
  · rw [IntKind.wrap_i64]; omega

set_option maxRecDepth 1000000 in
set_option maxHeartbeats 4000000 in
theorem symA (blk off cap a b : Nat) (d : Array Int) (w : World) (hH : HoldsK encP 2 w blk off d) (hblk : blk < w.heap.size) (hab : a + 1 < b) (hb : b ≤ d.size) (hsz : d.size < 4611686018427387904) (hs : Hid (Srtd clsN (a + 1) b d)) (m : Nat) (hm : Hid (m = a + 1)) :
    Calls Tryd.prog 125 #[.slice (some ⟨blk, off, none⟩) d.size cap, .int .i64 a, .int .i64 m, .int .i64 b, .func (.func 113) #[] #[]] w fun e w' => e = .returned (.tuple #[]) ∧ ∃ d', SWp w blk off d' w' ∧ Merged clsN a b d d' := by
  have HST : Hid (SWp w blk off d w) := SWp.start hH hblk
  clear hH
  have mixed : Tryd.prog.follows Departure.mixedOrders = true := by kernel_rfl
  have z1 : IntKind.i64.wrap ((m : Int) - (a : Int)) = 1 := by rw [hm.out, IntKind.wrap_i64]; omega
  obtain ⟨xa, HXA⟩ : ∃ x, Hid (x = d[a]!) := ⟨_, rfl⟩
  go_enter Tryd.func125, Tryd.ntmps125
  go_wp2
  go_loopw [10, 11] (fun vi vj wr => ∃ (i j : Nat), m ≤ i ∧ i ≤ j ∧ j ≤ b ∧ vi = .int .i64 i ∧ vj = .int .i64 j ∧ Hid (SWp w blk off d wr) ∧ Hid (∀ t, a + 1 ≤ t → t < i → clsN d[t]! < clsN d[a]!) ∧ Hid (∀ t, j ≤ t → t < b → clsN d[a]! ≤ clsN d[t]!)) (fun vi vj _ => (intOf vj).toNat - (intOf vi).toNat)
  case atStart => exact ⟨m, b, Nat.le_refl _, by have := hm.out; omega, Nat.le_refl _, rfl, rfl, HST, fun t h1 h2 => by have := hm.out; omega, fun t h1 h2 => by omega⟩
  case round =>
    obtain ⟨i, j, hi, hij, hj, rfl, rfl, HD, HL, HU⟩ := hrel
    by_cases hlt : i < j
    · have hltz : (i : Int) < (j : Int) := by omega
      obtain ⟨h, s, hse, hih, hhj, hhe, y1, y2, y3, y4, y5⟩ := mid_half i j hlt (by omega)
      have HHE : Hid (h = (i + j) / 2) := hhe
      clear hse hhe
      obtain ⟨lh0, lh1⟩ := HD.out.cells (p := h) (by omega)
      obtain ⟨la0, la1⟩ := HD.out.cells (p := a) (by omega)
      have hcg : ∀ n os, Calls Tryd.prog 113 #[.agg #[.int .i64 d[h]!, .int .i64 (clsN d[h]!)], .agg #[.int .i64 d[a]!, .int .i64 (clsN d[a]!)]] (grow (wr.drewN n) os) fun e w' => e = .returned (.int .i64 (clsN d[h]! - clsN d[a]!)) ∧ ∃ q os', w' = grow ((grow (wr.drewN n) os).drewN q) os' := fun n os => against_any _ _ _
      have jh : (h : Int) < (d.size : Int) := by omega
      have ja : (a : Int) < (d.size : Int) := by omega
      obtain ⟨kh, HKH⟩ : ∃ k, Hid (k = clsN d[h]!) := ⟨_, rfl⟩
      obtain ⟨ka, HKA⟩ : ∃ k, Hid (k = clsN d[a]!) := ⟨_, rfl⟩
      obtain ⟨xh, HXH⟩ : ∃ k, Hid (k = d[h]!) := ⟨_, rfl⟩
      obtain ⟨xa, HXA⟩ : ∃ k, Hid (k = d[a]!) := ⟨_, rfl⟩
      rw [← HKH.out, ← HKA.out] at hcg
      rw [← HXH.out, ← HXA.out] at hcg
      rw [← HKH.out] at lh1
      rw [← HKA.out] at la1
      rw [← HXH.out] at lh0
      rw [← HXA.out] at la0
      have KEY : Hid (kh - ka < 0 ↔ clsN d[h]! < clsN d[a]!) := by show _ ↔ _; rw [HKH.out, HKA.out]; omega
      by_cases hlv : kh - ka < 0
      · have HL2 : Hid (∀ t, a + 1 ≤ t → t < h + 1 → clsN d[t]! < clsN d[a]!) := fun t h1 h2 => by
          have q1 := KEY.out.1 hlv
          have q2 := hs.out.le clsN h1 (show t ≤ h by omega) (by omega)
          omega
        go_wp2_with fail
        go_quiet_grown (first | (go_at_call 113; refine Calls.grown_of (hcg _ _)))
        have HD2 : Hid (SWp w blk off d (grow (wr.drewN nq) osq)) := HD.out.grown nq osq
        clear lh0 lh1 la0 la1 hcg
        generalize grow (wr.drewN nq) osq = W2 at *
        go_wp2
        go_roundw
        case rel => exact ⟨h + 1, j, by omega, by omega, hj, by go_num, rfl, HD2, HL2, HU⟩
        case measure => simp [intOf]; omega
      · have HU2 : Hid (∀ t, h ≤ t → t < b → clsN d[a]! ≤ clsN d[t]!) := fun t h1 h2 => by
          have q1 : ¬ clsN d[h]! < clsN d[a]! := fun q => hlv (KEY.out.2 q)
          have q2 := hs.out.le clsN (show a + 1 ≤ h by have := hm.out; omega) h1 h2
          omega
        go_wp2_with fail
        go_quiet_grown (first | (go_at_call 113; refine Calls.grown_of (hcg _ _)))
        have HD2 : Hid (SWp w blk off d (grow (wr.drewN nq) osq)) := HD.out.grown nq osq
        clear lh0 lh1 la0 la1 hcg
        generalize grow (wr.drewN nq) osq = W2 at *
        go_wp2
        go_roundw
        case rel => exact ⟨i, h, hi, hih, by omega, rfl, rfl, HD2, HL, HU2⟩
        case measure => simp [intOf]; omega
    · obtain rfl : i = j := by omega
      have z2 : IntKind.i64.wrap ((i : Int) - 1) = ((i - 1 : Nat) : Int) := by have := hm.out; rw [IntKind.wrap_i64]; omega
      obtain ⟨l, HLi⟩ : ∃ l, Hid (l = i - 1) := ⟨_, rfl⟩
      rw [← HLi.out] at z2
      have hal : a ≤ l := by have := hm.out; have := HLi.out; omega
      have hli : l + 1 = i := by have := hm.out; have := HLi.out; omega
      have HLI : Hid (l + 1 = i) := hli
      have hlb : l < b := by omega
      clear hli
      go_wp2
      go_loopw [13] (fun vk W => ∃ (k : Nat) (dk : Array Int), a ≤ k ∧ k ≤ l ∧ vk = .int .i64 k ∧ Hid (SWp w blk off dk W) ∧ Hid (Rot a (a + 1) (k + 1) d dk)) (fun vk _ => l - (intOf vk).toNat)
      case atStart => exact ⟨a, d, Nat.le_refl _, hal, rfl, HD, Rot.none_r a (a + 1) d⟩
      case round =>
        obtain ⟨k, dk, hak, hkl, rfl, HD3, HR⟩ := hrel
        by_cases hlt2 : k < l
        · have hltz2 : (k : Int) < (l : Int) := by omega
          have hsk : dk.size = d.size := HR.out.1
          obtain ⟨q, HQ⟩ : ∃ q, Hid (q = k + 1) := ⟨_, rfl⟩
          have hq : q < d.size := by have := HQ.out; have := HLI.out; omega
          have hk : k < d.size := by omega
          obtain ⟨⟨la0, la1⟩, ⟨lb0, lb1⟩, ⟨f0, f1, f2, f3⟩, n1, n2, n3⟩ := swap_known HD3.out.holds (p := k) (q := q) (by omega) (by omega) (by have := HQ.out; omega)
          have HW : Hid _ := HD3.out.swap (p := k) (q := q) (by omega) (by omega)
          have HSW : Hid (Rot a (a + 1) (k + 1 + 1) d (swp dk k q)) := by rw [HQ.out]; exact HR.out.fwd hak (by have := HQ.out; omega)
          generalize swp dk k q = dn at *
          generalize clsN dk[k]! = ka at *
          generalize clsN dk[q]! = kb at *
          generalize dk[k]! = xa at *
          generalize dk[q]! = xb at *
          have za : IntKind.i64.wrap ((k : Int) + 1) = (q : Int) := by rw [HQ.out, IntKind.wrap_i64]; omega
          have ja : (k : Int) < (d.size : Int) := by omega
          have jb : (q : Int) < (d.size : Int) := by omega
          go_wp2_with fail
          go_big_region_o
          all_goals go_wp2
          go_roundw
          case rel => exact ⟨k + 1, dn, by omega, by omega, by rw [HQ.out], HW.out, HSW⟩
          case measure => have := HQ.out; simp [intOf]; omega
        · obtain rfl : k = l := by omega
          have HM : Hid (Merged clsN a b d dk) := merged_first clsN hb hs.out (by have := HLI.out; omega) (by have := HLI.out; omega) HL.out HU.out (by rw [← HLI.out]; exact HR.out)
          go_wp2
          (try simp only [Exit.inBlock, Exit.then])
          refine bodyPost_ret (results_none rfl _ _ _) rfl ?_
          exact ⟨rfl, dk, HD3.out, HM.out⟩
end

section
open Go.RowKit Go.Shelf Go.Lib Go.Sort

set_option maxRecDepth 1000000 in
set_option maxHeartbeats 4000000 in
theorem symB (blk off cap a m : Nat) (d : Array Int) (w : World) (hH : HoldsK encP 2 w blk off d) (hblk : blk < w.heap.size) (ham : a + 1 < m) (hb : m < d.size) (hsz : d.size < 4611686018427387904) (hs : Hid (Srtd clsN a m d)) (b : Nat) (hbm : Hid (b = m + 1)) :
    Calls Tryd.prog 125 #[.slice (some ⟨blk, off, none⟩) d.size cap, .int .i64 a, .int .i64 m, .int .i64 b, .func (.func 113) #[] #[]] w fun e w' => e = .returned (.tuple #[]) ∧ ∃ d', SWp w blk off d' w' ∧ Merged clsN a b d d' := by
  have HST : Hid (SWp w blk off d w) := SWp.start hH hblk
  clear hH
  have mixed : Tryd.prog.follows Departure.mixedOrders = true := by kernel_rfl
  obtain ⟨ma, HMA⟩ : ∃ x : Nat, Hid (x = m - a) := ⟨_, rfl⟩
  have z0 : IntKind.i64.wrap ((m : Int) - (a : Int)) = (ma : Int) := by rw [HMA.out, IntKind.wrap_i64]; omega
  have z01 : ((ma : Int) == 1) = false := by have := HMA.out; rw [beq_eq_false_iff_ne]; omega
  have z1 : IntKind.i64.wrap ((b : Int) - (m : Int)) = 1 := by rw [hbm.out, IntKind.wrap_i64]; omega
  go_enter Tryd.func125, Tryd.ntmps125
  go_wp2
  go_loopw [14, 15] (fun vi vj wr => ∃ (i j : Nat), a ≤ i ∧ i ≤ j ∧ j ≤ m ∧ vi = .int .i64 i ∧ vj = .int .i64 j ∧ Hid (SWp w blk off d wr) ∧ Hid (∀ t, a ≤ t → t < i → clsN d[t]! ≤ clsN d[m]!) ∧ Hid (∀ t, j ≤ t → t < m → clsN d[m]! < clsN d[t]!)) (fun vi vj _ => (intOf vj).toNat - (intOf vi).toNat)
  case atStart => exact ⟨a, m, Nat.le_refl _, by omega, Nat.le_refl _, rfl, rfl, HST, fun t h1 h2 => by omega, fun t h1 h2 => by omega⟩
  case round =>
    obtain ⟨i, j, hi, hij, hj, rfl, rfl, HD, HL, HU⟩ := hrel
    by_cases hlt : i < j
    · have hltz : (i : Int) < (j : Int) := by omega
      obtain ⟨h, s, hse, hih, hhj, hhe, y1, y2, y3, y4, y5⟩ := mid_half i j hlt (by omega)
      clear hse hhe
      obtain ⟨lh0, lh1⟩ := HD.out.cells (p := h) (by omega)
      obtain ⟨la0, la1⟩ := HD.out.cells (p := m) (by omega)
      have hcg : ∀ n os, Calls Tryd.prog 113 #[.agg #[.int .i64 d[m]!, .int .i64 (clsN d[m]!)], .agg #[.int .i64 d[h]!, .int .i64 (clsN d[h]!)]] (grow (wr.drewN n) os) fun e w' => e = .returned (.int .i64 (clsN d[m]! - clsN d[h]!)) ∧ ∃ q os', w' = grow ((grow (wr.drewN n) os).drewN q) os' := fun n os => against_any _ _ _
      have jh : (h : Int) < (d.size : Int) := by omega
      have ja : (m : Int) < (d.size : Int) := by omega
      obtain ⟨kh, HKH⟩ : ∃ k, Hid (k = clsN d[h]!) := ⟨_, rfl⟩
      obtain ⟨ka, HKA⟩ : ∃ k, Hid (k = clsN d[m]!) := ⟨_, rfl⟩
      obtain ⟨xh, HXH⟩ : ∃ k, Hid (k = d[h]!) := ⟨_, rfl⟩
      obtain ⟨xa, HXA⟩ : ∃ k, Hid (k = d[m]!) := ⟨_, rfl⟩
      rw [← HKH.out, ← HKA.out] at hcg
      rw [← HXH.out, ← HXA.out] at hcg
      rw [← HKH.out] at lh1
      rw [← HKA.out] at la1
      rw [← HXH.out] at lh0
      rw [← HXA.out] at la0
      have KEY : Hid (ka - kh < 0 ↔ clsN d[m]! < clsN d[h]!) := by show _ ↔ _; rw [HKH.out, HKA.out]; omega
      by_cases hlv : ka - kh < 0
      · have HU2 : Hid (∀ t, h ≤ t → t < m → clsN d[m]! < clsN d[t]!) := fun t h1 h2 => by
          have q1 := KEY.out.1 hlv
          have q2 := hs.out.le clsN (show a ≤ h by omega) h1 h2
          omega
        go_wp2_with fail
        go_quiet_grown (first | (go_at_call 113; refine Calls.grown_of (hcg _ _)))
        have HD2 : Hid (SWp w blk off d (grow (wr.drewN nq) osq)) := HD.out.grown nq osq
        clear lh0 lh1 la0 la1 hcg
        generalize grow (wr.drewN nq) osq = W2 at *
        go_wp2
        go_roundw
        case rel => exact ⟨i, h, hi, hih, by omega, rfl, rfl, HD2, HL, HU2⟩
        case measure => simp [intOf]; omega
      · have HL2 : Hid (∀ t, a ≤ t → t < h + 1 → clsN d[t]! ≤ clsN d[m]!) := fun t h1 h2 => by
          have q1 : ¬ clsN d[m]! < clsN d[h]! := fun q => hlv (KEY.out.2 q)
          have q2 := hs.out.le clsN h1 (show t ≤ h by omega) (by omega)
          omega
        have hlb : decide (ka - kh < 0) = false := decide_eq_false hlv
        clear hlv
        go_wp2_with fail
        go_quiet_grown (first | (go_at_call 113; refine Calls.grown_of (hcg _ _)))
        have HD2 : Hid (SWp w blk off d (grow (wr.drewN nq) osq)) := HD.out.grown nq osq
        clear lh0 lh1 la0 la1 hcg
        generalize grow (wr.drewN nq) osq = W2 at *
        go_wp2
        go_roundw
        case rel => exact ⟨h + 1, j, by omega, by omega, hj, by go_num, rfl, HD2, HL2, HU⟩
        case measure => simp [intOf]; omega
    · obtain rfl : i = j := by omega
      go_wp2
      go_loopw [17] (fun vk W => ∃ (k : Nat) (dk : Array Int), i ≤ k ∧ k ≤ m ∧ vk = .int .i64 k ∧ Hid (SWp w blk off dk W) ∧ Hid (Rot k m (m + 1) d dk)) (fun vk _ => (intOf vk).toNat - i)
      case atStart => exact ⟨m, d, hj, Nat.le_refl _, rfl, HD, Rot.none_l m (m + 1) d⟩
      case round =>
        obtain ⟨k, dk, hak, hkl, rfl, HD3, HR⟩ := hrel
        by_cases hlt2 : i < k
        · have hltz2 : (i : Int) < (k : Int) := by omega
          have hsk : dk.size = d.size := HR.out.1
          obtain ⟨q, HQ⟩ : ∃ q, Hid (k = q + 1) := ⟨k - 1, show k = k - 1 + 1 by omega⟩
          have hq : q < d.size := by have := HQ.out; omega
          have hk : k < d.size := by omega
          obtain ⟨⟨la0, la1⟩, ⟨lb0, lb1⟩, ⟨f0, f1, f2, f3⟩, n1, n2, n3⟩ := swap_known HD3.out.holds (p := k) (q := q) (by omega) (by omega) (by have := HQ.out; omega)
          have HW : Hid _ := HD3.out.swap (p := k) (q := q) (by omega) (by omega)
          have HSW : Hid (Rot q m (m + 1) d (swp dk k q)) := by
            have hr := HR.out
            rw [HQ.out] at hr ⊢
            exact hr.bwd (by have := HQ.out; omega) hb
          generalize swp dk k q = dn at *
          generalize clsN dk[k]! = ka at *
          generalize clsN dk[q]! = kb at *
          generalize dk[k]! = xa at *
          generalize dk[q]! = xb at *
          have za : IntKind.i64.wrap ((k : Int) - 1) = (q : Int) := by rw [HQ.out, IntKind.wrap_i64]; omega
          have ja : (k : Int) < (d.size : Int) := by omega
          have jb : (q : Int) < (d.size : Int) := by omega
          go_wp2_with fail
          go_big_region_o
          all_goals go_wp2
          go_roundw
          case rel => exact ⟨q, dn, by have := HQ.out; omega, by have := HQ.out; omega, rfl, HW.out, HSW⟩
          case measure => have := HQ.out; simp [intOf]; omega
        · obtain rfl : i = k := by omega
          have HM : Hid (Merged clsN a b d dk) := by rw [hbm.out]; exact merged_last clsN hb hs.out hi hkl HL.out HU.out HR.out
          go_wp2
          (try simp only [Exit.inBlock, Exit.then])
          refine bodyPost_ret (results_none rfl _ _ _) rfl ?_
          exact ⟨rfl, dk, HD3.out, HM.out⟩
end

section
open Go.RowKit Go.Shelf Go.Lib Go.Sort

/-- what merging says of parts shorter than N -/
def SymSays (blk off cap sz N : Nat) : Prop := ∀ (a m b : Nat) (d : Array Int) (w : World), b - a < N → d.size = sz → HoldsK encP 2 w blk off d → blk < w.heap.size → a < m → m < b → b ≤ sz → Srtd clsN a m d → Srtd clsN m b d →
  Calls Tryd.prog 125 #[.slice (some ⟨blk, off, none⟩) sz cap, .int .i64 a, .int .i64 m, .int .i64 b, .func (.func 113) #[] #[]] w fun e w' => e = .returned (.tuple #[]) ∧ ∃ d', SWp w blk off d' w' ∧ Merged clsN a b d d'
end

end Go.Proofs.YtlkemmdcjnaepaaDoor
