/- Names: slices.stableCmpFunc and slices.SortStableFunc at signs with their classes: they are put in order, and those of one class stay as they were. Names: slices.symMergeCmpFunc, where the midst lies in the first part. -/
import Derived.Test.YtlkemmdcjnaepaaDoorRows
import Derived.Test.YtlkemmdcjnaepaaDoorG14
namespace Go.Proofs.YtlkemmdcjnaepaaDoor

section
open Go.RowKit Go.Shelf Go.Lib Go.Sort

set_option maxRecDepth 1000000 in
set_option maxHeartbeats 4000000 in
theorem stable_of (blk off cap sz : Nat) (HSY : Hid (∀ N, SymSays blk off cap sz N)) (d : Array Int) (w : World) (HZ : Hid (d.size = sz)) (hH : HoldsK encP 2 w blk off d) (hblk : blk < w.heap.size) (hsz : sz < 1152921504606846976) :
    Calls Tryd.prog 122 #[.slice (some ⟨blk, off, none⟩) sz cap, .int .i64 sz, .func (.func 113) #[] #[]] w fun e w' => e = .returned (.tuple #[]) ∧ ∃ d', SWp w blk off d' w' ∧ Srtd clsN 0 sz d' ∧ Same clsN d d' ∧ d'.size = sz := by
  have HST : Hid (SWp w blk off d w) := SWp.start hH hblk
  have hdz : d.size = sz := HZ.out
  clear hH
  go_enter Tryd.func122, Tryd.ntmps122
  go_wp2
  go_loopw [7, 8] (fun va vb wr => ∃ (a b : Nat) (e : Array Int), a ≤ sz ∧ va = .int .i64 a ∧ vb = .int .i64 b ∧ Hid (b = a + 20) ∧ Hid (SWp w blk off e wr) ∧ Hid (Firsts clsN 20 a d e)) (fun va _ _ => sz - (intOf va).toNat)
  case atStart => exact ⟨0, 20, d, by omega, rfl, rfl, rfl, HST, Firsts.zero clsN 20 (by omega) d⟩
  case round =>
    obtain ⟨a, b, e, ha, rfl, rfl, HB, HD, HF⟩ := hrel
    have hez : e.size = sz := HF.out.size.trans hdz
    by_cases hlt : b ≤ sz
    · have hltz : (b : Int) ≤ (sz : Int) := by omega
      have hC := insert_any blk off cap a b e wr HD.out.holds HD.out.lt (by have := HB.out; omega) (by omega) (by omega)
      rw [hez] at hC
      have zb : IntKind.i64.wrap ((b : Int) + 20) = ((b + 20 : Nat) : Int) := by rw [IntKind.wrap_i64]; omega
      obtain ⟨b2, HB2⟩ : ∃ x : Nat, Hid (x = b + 20) := ⟨_, rfl⟩
      rw [← HB2.out] at zb
      go_wp2_with fail
      refine hC.mono ?_
      rintro _ w1 ⟨rfl, f, hD1, hM⟩
      have HD1 : Hid (SWp w blk off f w1) := HD.out.trans hD1 hM.size
      have HF1 : Hid (Firsts clsN 20 b d f) := by rw [HB.out] at hM ⊢; exact HF.out.step clsN (by omega) hM
      clear hC hD1 hM
      go_wp2
      go_roundw
      case rel => exact ⟨b, b2, f, hlt, rfl, by first | rfl | rw [zb], HB2, HD1, HF1⟩
      case measure => have := HB.out; simp [intOf]; omega
    · have hltz : decide ((b : Int) ≤ (sz : Int)) = false := decide_eq_false (by omega)
      have hC := insert_any blk off cap a sz e wr HD.out.holds HD.out.lt (by omega) (by omega) (by omega)
      rw [hez] at hC
      go_wp2_with fail
      refine hC.mono ?_
      rintro _ w1 ⟨rfl, f, hD1, hM⟩
      have HD1 : Hid (SWp w blk off f w1) := HD.out.trans hD1 hM.size
      have HBl : Hid (Blocks clsN 20 sz f ∧ Same clsN d f ∧ f.size = d.size) := HF.out.last clsN (by omega) ha (by have := HB.out; omega) hM
      clear hC hD1 hM hltz hlt
      go_wp2
      go_loopw [6] (fun vs wr => ∃ (s : Nat) (e : Array Int), 20 ≤ s ∧ s ≤ 2 * sz + 20 ∧ vs = .int .i64 s ∧ Hid (SWp w blk off e wr) ∧ Hid (Blocks clsN s sz e ∧ Same clsN d e ∧ e.size = d.size)) (fun vs _ => sz - (intOf vs).toNat)
      case atStart => exact ⟨20, f, Nat.le_refl _, by omega, rfl, HD1, HBl⟩
      case round =>
        obtain ⟨s, e1, hs1, hs2, rfl, HD2, HE⟩ := hrel
        by_cases hlt2 : s < sz
        · have hltz2 : (s : Int) < (sz : Int) := by omega
          obtain ⟨s2, HS2⟩ : ∃ x : Nat, Hid (x = 2 * s) := ⟨_, rfl⟩
          have zs : IntKind.i64.wrap (2 * (s : Int)) = (s2 : Int) := by rw [HS2.out, IntKind.wrap_i64]; omega
          have zs' : IntKind.i64.wrap ((s : Int) * 2) = (s2 : Int) := by rw [HS2.out, IntKind.wrap_i64]; omega
          go_wp2
          go_loopw [7, 8] (fun va vb wr => ∃ (a b : Nat) (e : Array Int), a ≤ sz ∧ va = .int .i64 a ∧ vb = .int .i64 b ∧ Hid (b = a + 2 * s) ∧ Hid (SWp w blk off e wr) ∧ Hid (Pairs clsN s sz a d e)) (fun va _ _ => sz - (intOf va).toNat)
          case atStart => exact ⟨0, s2, e1, by omega, rfl, rfl, by rw [HS2.out]; show _ = _; omega, HD2, Pairs.start clsN (by omega) HE.out.1 HE.out.2.1 HE.out.2.2⟩
          case round =>
            obtain ⟨a3, b3, e3, ha3, rfl, rfl, HB3, HD3, HP3⟩ := hrel
            have hez3 : e3.size = sz := HP3.out.fst.size.trans hdz
            obtain ⟨m3, HM3⟩ : ∃ x : Nat, Hid (x = a3 + s) := ⟨_, rfl⟩
            have zm : IntKind.i64.wrap ((a3 : Int) + (s : Int)) = (m3 : Int) := by rw [HM3.out, IntKind.wrap_i64]; omega
            have HT : Hid (Srtd clsN a3 (min (a3 + s) sz) e3 ∧ Srtd clsN (a3 + s) (min (a3 + s + s) sz) e3) := HP3.out.two clsN
            by_cases hlt3 : b3 ≤ sz
            · have hltz3 : (b3 : Int) ≤ (sz : Int) := by omega
              have hC3 := HSY.out (b3 - a3 + 1) a3 m3 b3 e3 wr (by omega) hez3 HD3.out.holds HD3.out.lt (by have := HM3.out; omega) (by have := HM3.out; have := HB3.out; omega) hlt3
                (by have h1 := HT.out.1; rw [Nat.min_eq_left (by have := HB3.out; omega)] at h1; rw [HM3.out]; exact h1) (by have h1 := HT.out.2; rw [Nat.min_eq_left (by have := HB3.out; omega), show a3 + s + s = b3 by have := HB3.out; omega] at h1; rw [HM3.out]; exact h1)
              obtain ⟨b4, HB4⟩ : ∃ x : Nat, Hid (x = b3 + 2 * s) := ⟨_, rfl⟩
              have zb : IntKind.i64.wrap ((b3 : Int) + (s2 : Int)) = (b4 : Int) := by rw [HB4.out, HS2.out, IntKind.wrap_i64]; omega
              go_wp2_with fail
              refine hC3.mono ?_
              rintro _ w4 ⟨rfl, f4, hD4, hM4⟩
              have HD4 : Hid (SWp w blk off f4 w4) := HD3.out.trans hD4 hM4.size
              have HP4 : Hid (Pairs clsN s sz b3 d f4) := by rw [HB3.out] at hM4 ⊢; exact HP3.out.step clsN (by omega) hM4
              clear hC3 hD4 hM4
              go_wp2
              go_roundw
              case rel => exact ⟨b3, b4, f4, hlt3, rfl, rfl, HB4, HD4, HP4⟩
              case measure => have := HB3.out; simp [intOf]; omega
            · have hltz3 : decide ((b3 : Int) ≤ (sz : Int)) = false := decide_eq_false (by omega)
              by_cases hm3 : m3 < sz
              · have hmz3 : (m3 : Int) < (sz : Int) := by omega
                have hC3 := HSY.out (sz - a3 + 1) a3 m3 sz e3 wr (by omega) hez3 HD3.out.holds HD3.out.lt (by have := HM3.out; omega) hm3 (Nat.le_refl _)
                  (by have h1 := HT.out.1; rw [Nat.min_eq_left (by have := HM3.out; omega)] at h1; rw [HM3.out]; exact h1) (by have h1 := HT.out.2; rw [Nat.min_eq_right (by have := HB3.out; omega)] at h1; rw [HM3.out]; exact h1)
                go_wp2_with fail
                refine hC3.mono ?_
                rintro _ w4 ⟨rfl, f4, hD4, hM4⟩
                have HD4 : Hid (SWp w blk off f4 w4) := HD3.out.trans hD4 hM4.size
                have HE4 : Hid (Blocks clsN s2 sz f4 ∧ Same clsN d f4 ∧ f4.size = d.size) := by rw [HS2.out]; exact HP3.out.last clsN (by omega) ha3 (by have := HB3.out; omega) hM4
                clear hC3 hD4 hM4
                go_wp2
                go_roundw
                case rel => exact ⟨s2, f4, by have := HS2.out; omega, by have := HS2.out; omega, rfl, HD4, HE4⟩
                case measure => have := HS2.out; simp [intOf]; omega
              · have hmz3 : decide ((m3 : Int) < (sz : Int)) = false := decide_eq_false (by omega)
                have HE4 : Hid (Blocks clsN s2 sz e3 ∧ Same clsN d e3 ∧ e3.size = d.size) := by
                  rw [HS2.out]
                  exact HP3.out.last clsN (by omega) ha3 (by have := HB3.out; omega) (Merged.refl clsN (by have h1 := HT.out.1; rwa [Nat.min_eq_right (by have := HM3.out; omega)] at h1))
                go_wp2
                go_roundw
                case rel => exact ⟨s2, e3, by have := HS2.out; omega, by have := HS2.out; omega, rfl, HD3, HE4⟩
                case measure => have := HS2.out; simp [intOf]; omega
        · have hltz2 : decide ((s : Int) < (sz : Int)) = false := decide_eq_false (by omega)
          have HA : Hid (Srtd clsN 0 sz e1) := HE.out.1.all clsN (by omega)
          go_wp2
          go_end0
          exact ⟨rfl, e1, HD2.out, HA.out, HE.out.2.1, HE.out.2.2.trans hdz⟩

set_option maxRecDepth 1000000 in
theorem sortStable_of (blk off cap sz : Nat) (HSY : Hid (∀ N, SymSays blk off cap sz N)) (d : Array Int) (w : World) (HZ : Hid (d.size = sz)) (hH : HoldsK encP 2 w blk off d) (hblk : blk < w.heap.size) (hsz : sz < 1152921504606846976) :
    Calls Tryd.prog 112 #[.slice (some ⟨blk, off, none⟩) sz cap, .func (.func 113) #[] #[]] w fun e w' => e = .returned (.tuple #[]) ∧ ∃ d', SWp w blk off d' w' ∧ Srtd clsN 0 sz d' ∧ Same clsN d d' ∧ d'.size = sz := by
  have hC := stable_of blk off cap sz HSY d w HZ hH hblk hsz
  clear hH
  go_enter Tryd.func112, Tryd.ntmps112
  go_wp2_with fail
  refine hC.mono ?_
  rintro _ w1 ⟨rfl, h⟩
  go_wp2
  go_end0
  exact ⟨rfl, h⟩
end

section
open Go.RowKit Go.Shelf Go.Lib Go.Sort

set_option maxRecDepth 1000000 in
set_option maxHeartbeats 8000000 in
theorem symC1 (blk off cap sz N : Nat) (IH : SymSays blk off cap sz N) (a m b : Nat) (d : Array Int) (w : World) (hN : b - a ≤ N) (HZ : Hid (d.size = sz)) (hH : HoldsK encP 2 w blk off d) (hblk : blk < w.heap.size) (ham : a + 1 < m) (hmb : m + 1 < b) (hb : b ≤ sz) (hsz : sz < 4611686018427387904) (hs1 : Hid (Srtd clsN a m d)) (hs2 : Hid (Srtd clsN m b d)) (hbr : (a + b) / 2 < m) :
    Calls Tryd.prog 125 #[.slice (some ⟨blk, off, none⟩) sz cap, .int .i64 a, .int .i64 m, .int .i64 b, .func (.func 113) #[] #[]] w fun e w' => e = .returned (.tuple #[]) ∧ ∃ d', SWp w blk off d' w' ∧ Merged clsN a b d d' := by
  have hdz : d.size = sz := HZ.out
  have HST : Hid (SWp w blk off d w) := SWp.start hH hblk
  clear hH
  have mixed : Tryd.prog.follows Departure.mixedOrders = true := by kernel_rfl
  obtain ⟨ma, HMA⟩ : ∃ x : Nat, Hid (x = m - a) := ⟨_, rfl⟩
  have z0 : IntKind.i64.wrap ((m : Int) - (a : Int)) = (ma : Int) := by rw [HMA.out, IntKind.wrap_i64]; omega
  have z01 : ((ma : Int) == 1) = false := by have := HMA.out; rw [beq_eq_false_iff_ne]; omega
  obtain ⟨bm, HBM⟩ : ∃ x : Nat, Hid (x = b - m) := ⟨_, rfl⟩
  have z2 : IntKind.i64.wrap ((b : Int) - (m : Int)) = (bm : Int) := by rw [HBM.out, IntKind.wrap_i64]; omega
  have z21 : ((bm : Int) == 1) = false := by have := HBM.out; rw [beq_eq_false_iff_ne]; omega
  obtain ⟨mid, ss, hse, hih, hhj, hhe, y1, y2, y3, y4, y5⟩ := mid_half a b (by omega) (by omega)
  have HMID : Hid (mid = (a + b) / 2) := hhe
  clear hse hhe
  obtain ⟨n, HN⟩ : ∃ x : Nat, Hid (x = mid + m) := ⟨_, rfl⟩
  have zn : IntKind.i64.wrap ((mid : Int) + (m : Int)) = (n : Int) := by rw [HN.out, IntKind.wrap_i64]; omega
  obtain ⟨p, HP⟩ : ∃ x : Nat, Hid (x = n - 1) := ⟨_, rfl⟩
  have zpp : IntKind.i64.wrap ((n : Int) - 1) = (p : Int) := by rw [HP.out, IntKind.wrap_i64]; have := HN.out; omega
  have hbig : mid < m := by have := HMID.out; omega
  have hbigz : mid < m := by omega
  clear hbr
  obtain ⟨st0, HS0⟩ : ∃ x : Nat, Hid (x = n - b) := ⟨_, rfl⟩
  have zs : IntKind.i64.wrap ((n : Int) - (b : Int)) = (st0 : Int) := by rw [HS0.out, HN.out, IntKind.wrap_i64]; have := HMID.out; omega
  have HB : Hid (∀ c, st0 ≤ c → c < mid → a ≤ c ∧ c < m ∧ m ≤ p - c ∧ p - c < b ∧ c ≤ p) := fun c h1 h2 => by have := HS0.out; have := HP.out; have := HN.out; have := HMID.out; omega
  obtain ⟨r0, HR0⟩ : ∃ x : Nat, Hid (x = mid) := ⟨_, rfl⟩
  have hast : a ≤ st0 := by have := HS0.out; have := HN.out; have := HMID.out; omega
  have hst : st0 ≤ mid := by have := HS0.out; have := HN.out; have := HMID.out; omega
  go_enter Tryd.func125, Tryd.ntmps125
  go_wp2
  go_loopw [20, 21] (fun vi vj wr => ∃ (i j : Nat), st0 ≤ i ∧ i ≤ j ∧ j ≤ mid ∧ vi = .int .i64 i ∧ vj = .int .i64 j ∧ Hid (SWp w blk off d wr) ∧ Hid (∀ t, st0 ≤ t → t < i → clsN d[t]! ≤ clsN d[p - t]!) ∧ Hid (∀ t, j ≤ t → t < mid → clsN d[p - t]! < clsN d[t]!)) (fun vi vj _ => (intOf vj).toNat - (intOf vi).toNat)
  case atStart => exact ⟨st0, mid, Nat.le_refl _, by omega, Nat.le_refl _, rfl, rfl, HST, fun t h1 h2 => by omega, fun t h1 h2 => by omega⟩
  case round =>
    obtain ⟨i, j, hi, hij, hj, rfl, rfl, HD, HL, HU⟩ := hrel
    by_cases hlt : i < j
    · have hltz : (i : Int) < (j : Int) := by omega
      obtain ⟨h, s, hse, hih, hhj, hhe, y1, y2, y3, y4, y5⟩ := mid_half i j hlt (by omega)
      clear hse hhe
      obtain ⟨b1, b2, b3, b4, b5⟩ := HB.out h (by omega) (by omega)
      obtain ⟨pc, HPC⟩ : ∃ x : Nat, Hid (x = p - h) := ⟨_, rfl⟩
      rw [← HPC.out] at b3 b4
      have zp : IntKind.i64.wrap ((p : Int) - (h : Int)) = (pc : Int) := by rw [HPC.out, IntKind.wrap_i64]; have := HP.out; have := HN.out; omega
      obtain ⟨lh0, lh1⟩ := HD.out.cells (p := h) (by omega)
      obtain ⟨la0, la1⟩ := HD.out.cells (p := pc) (by omega)
      have hcg : ∀ n os, Calls Tryd.prog 113 #[.agg #[.int .i64 d[pc]!, .int .i64 (clsN d[pc]!)], .agg #[.int .i64 d[h]!, .int .i64 (clsN d[h]!)]] (grow (wr.drewN n) os) fun e w' => e = .returned (.int .i64 (clsN d[pc]! - clsN d[h]!)) ∧ ∃ q os', w' = grow ((grow (wr.drewN n) os).drewN q) os' := fun n os => against_any _ _ _
      have jh : (h : Int) < (sz : Int) := by omega
      have ja : (pc : Int) < (sz : Int) := by omega
      obtain ⟨kh, HKH⟩ : ∃ k, Hid (k = clsN d[h]!) := ⟨_, rfl⟩
      obtain ⟨ka, HKA⟩ : ∃ k, Hid (k = clsN d[pc]!) := ⟨_, rfl⟩
      obtain ⟨xh, HXH⟩ : ∃ k, Hid (k = d[h]!) := ⟨_, rfl⟩
      obtain ⟨xa, HXA⟩ : ∃ k, Hid (k = d[pc]!) := ⟨_, rfl⟩
      rw [← HKH.out, ← HKA.out] at hcg
      rw [← HXH.out, ← HXA.out] at hcg
      rw [← HKH.out] at lh1
      rw [← HKA.out] at la1
      rw [← HXH.out] at lh0
      rw [← HXA.out] at la0
      have KEY : Hid (ka - kh < 0 ↔ clsN d[pc]! < clsN d[h]!) := by show _ ↔ _; rw [HKH.out, HKA.out]; omega
      by_cases hlv : ka - kh < 0
      · have HU2 : Hid (∀ t, h ≤ t → t < mid → clsN d[p - t]! < clsN d[t]!) := fun t h1 h2 => by
          have q1 := KEY.out.1 hlv
          have q3 := HB.out t (by omega) h2
          have q2 := hs1.out.le clsN b1 h1 q3.2.1
          have q4 := hs2.out.le clsN q3.2.2.1 (show p - t ≤ pc by have := HPC.out; omega) b4
          omega
        go_wp2_with fail
        go_quiet_grown (first | (go_at_call 113; refine Calls.grown_of (hcg _ _)))
        have HD2 : Hid (SWp w blk off d (grow (wr.drewN nq) osq)) := HD.out.grown nq osq
        clear lh0 lh1 la0 la1 hcg
        generalize grow (wr.drewN nq) osq = W2 at *
        go_wp2
        go_roundw
        case rel => exact ⟨i, h, hi, hih, by omega, rfl, rfl, HD2, HL, HU2⟩
        case measure => simp [intOf]; omega
      · have HL2 : Hid (∀ t, st0 ≤ t → t < h + 1 → clsN d[t]! ≤ clsN d[p - t]!) := fun t h1 h2 => by
          have q1 : ¬ clsN d[pc]! < clsN d[h]! := fun q => hlv (KEY.out.2 q)
          have q3 := HB.out t h1 (by omega)
          have q2 := hs1.out.le clsN q3.1 (show t ≤ h by omega) b2
          have q4 := hs2.out.le clsN b3 (show pc ≤ p - t by have := HPC.out; omega) q3.2.2.2.1
          omega
        have hlb : decide (ka - kh < 0) = false := decide_eq_false hlv
        clear hlv
        go_wp2_with fail
        go_quiet_grown (first | (go_at_call 113; refine Calls.grown_of (hcg _ _)))
        have HD2 : Hid (SWp w blk off d (grow (wr.drewN nq) osq)) := HD.out.grown nq osq
        clear lh0 lh1 la0 la1 hcg
        generalize grow (wr.drewN nq) osq = W2 at *
        go_wp2
        go_roundw
        case rel => exact ⟨h + 1, j, by omega, by omega, hj, by go_num, rfl, HD2, HL2, HU⟩
        case measure => simp [intOf]; omega
    · obtain rfl : i = j := by omega
      obtain ⟨s, HSI⟩ : ∃ s, s = i := ⟨_, rfl⟩
      subst HSI
      clear hij hlt
      obtain ⟨en, HEN⟩ : ∃ x : Nat, Hid (x + s = n) := ⟨n - s, show n - s + s = n by have := HN.out; omega⟩
      have ze : IntKind.i64.wrap ((n : Int) - (s : Int)) = (en : Int) := by rw [← HEN.out, IntKind.wrap_i64]; have := HEN.out; have := HN.out; omega
      have HPT : Hid (∀ t, p - t = mid + m - 1 - t) := fun t => by rw [HP.out, HN.out]
      have HHALF : Hid (∀ e1 : Array Int, Rot s m en d e1 → Halved clsN a mid b s en d e1) := fun e1 hR => halved clsN (st0 := st0) (r0 := mid) (by omega) hs1.out hs2.out (by omega) (by omega) (by omega) (by have := HEN.out; have := HN.out; omega) (by have := HEN.out; have := HN.out; have := HS0.out; omega) (by have := HEN.out; have := HN.out; omega)
        (fun c h1 h2 => by rw [← HPT.out c]; exact HL.out c h1 h2) (fun c h1 h2 => by rw [← HPT.out c]; exact HU.out c h1 h2) hi hj (.inr ⟨by have := HS0.out; have := HN.out; have := HMID.out; omega, rfl⟩) hR
      by_cases hc1 : s < m ∧ m < en
      · have c1a : s < m := by omega
        have c1b : m < en := by omega
        have hC := rotate_any blk off cap s m en (.func (.func 113) #[] #[]) d wr HD.out.holds HD.out.lt hc1.1 hc1.2 (by have := HEN.out; have := HN.out; have := HS0.out; omega) (by omega)
        rw [HZ.out] at hC
        go_wp2_with fail
        refine hC.mono ?_
        rintro e w1 ⟨rfl, e1, hD1, hR⟩
        have HD1 : Hid (SWp w blk off e1 w1) := HD.out.trans hD1 hR.1
        have HZ1 : Hid (e1.size = sz) := hR.1.trans HZ.out
        have HH : Hid (Halved clsN a mid b s en d e1) := HHALF.out e1 hR
        clear hC hD1 hR
        have m1 : s < mid := by have := HEN.out; have := HN.out; omega
        have m2 : mid < en := by have := HEN.out; have := HN.out; omega
        have c3a : mid < en := by omega
        have c2b : s < mid := by omega
        have hbe : en ≤ b := by have := HEN.out; have := HN.out; have := HS0.out; omega
        by_cases hc2 : a < s
        · have c2a : a < s := by omega
          have hI2 := IH a s mid e1 w1 (by omega) HZ1.out HD1.out.holds HD1.out.lt hc2 m1 (by omega) HH.out.s1 HH.out.s2
          go_wp2_with fail
          refine hI2.mono ?_
          rintro e w2 ⟨rfl, e2, hD2, hM2⟩
          have HD2 : Hid (SWp w blk off e2 w2) := HD1.out.trans hD2 hM2.size
          have HM2 : Hid (Merged clsN a mid e1 e2) := hM2
          have HZ2 : Hid (e2.size = sz) := hM2.size.trans HZ1.out
          clear hI2 hD2 hM2
          by_cases hc3 : en < b
          · have c3b : en < b := by omega
            have hI3 := IH mid en b e2 w2 (by omega) HZ2.out HD2.out.holds HD2.out.lt m2 hc3 (by omega) (HH.out.s3.congr clsN fun t _ _ => HM2.out.out t (by omega)) (HH.out.s4.congr clsN fun t _ _ => HM2.out.out t (by have := HEN.out; omega))
            go_wp2_with fail
            refine hI3.mono ?_
            rintro e w3 ⟨rfl, e3, hD3, hM3⟩
            have HD3 : Hid (SWp w blk off e3 w3) := HD2.out.trans hD3 hM3.size
            have HF : Hid (Merged clsN a b d e3) := HH.out.whole clsN (by omega) (by omega) HM2.out hM3
            clear hI3 hD3 hM3
            go_wp2
            go_end0
            exact ⟨rfl, e3, HD3.out, HF.out⟩
          · have c3b : ¬ en < b := by omega
            have heb : Hid (en = b) := by show en = b; omega
            have HF : Hid (Merged clsN a b d e2) := HH.out.whole clsN (by omega) (by omega) HM2.out (Merged.refl clsN ((heb.out ▸ HH.out.s3).congr clsN fun t _ _ => HM2.out.out t (by omega)))
            go_wp2
            go_end0
            exact ⟨rfl, e2, HD2.out, HF.out⟩
        · have c2a : ¬ a < s := by omega
          have hsa : Hid (s = a) := by show s = a; omega
          have HM2 : Hid (Merged clsN a mid e1 e1) := Merged.refl clsN (hsa.out ▸ HH.out.s2)
          have HD2 : Hid (SWp w blk off e1 w1) := HD1
          have HZ2 : Hid (e1.size = sz) := HZ1
          by_cases hc3 : en < b
          · have c3b : en < b := by omega
            have hI3 := IH mid en b e1 w1 (by omega) HZ2.out HD2.out.holds HD2.out.lt m2 hc3 (by omega) (HH.out.s3.congr clsN fun t _ _ => HM2.out.out t (by omega)) (HH.out.s4.congr clsN fun t _ _ => HM2.out.out t (by have := HEN.out; omega))
            go_wp2_with fail
            refine hI3.mono ?_
            rintro e w3 ⟨rfl, e3, hD3, hM3⟩
            have HD3 : Hid (SWp w blk off e3 w3) := HD2.out.trans hD3 hM3.size
            have HF : Hid (Merged clsN a b d e3) := HH.out.whole clsN (by omega) (by omega) HM2.out hM3
            clear hI3 hD3 hM3
            go_wp2
            go_end0
            exact ⟨rfl, e3, HD3.out, HF.out⟩
          · have c3b : ¬ en < b := by omega
            have heb : Hid (en = b) := by show en = b; omega
            have HF : Hid (Merged clsN a b d e1) := HH.out.whole clsN (by omega) (by omega) HM2.out (Merged.refl clsN ((heb.out ▸ HH.out.s3).congr clsN fun t _ _ => HM2.out.out t (by omega)))
            go_wp2
            go_end0
            exact ⟨rfl, e1, HD2.out, HF.out⟩
      · have hsm : Hid (s = mid) := by show s = mid; have := HEN.out; have := HN.out; omega
        have hem : Hid (en = m) := by show en = m; have := HEN.out; have := HN.out; have := hsm.out; omega
        have c1a : s < m := by have := hsm.out; omega
        have c1b : ¬ m < en := by have := hem.out; omega
        have HH : Hid (Halved clsN a mid b s en d d) := HHALF.out d (by rw [hem.out]; exact Rot.none_r s m d)
        have HD1 : Hid (SWp w blk off d wr) := HD
        have HZ1 : Hid (d.size = sz) := HZ
        obtain ⟨e1, HE1⟩ : ∃ e1, Hid (d = e1) := ⟨_, rfl⟩
        have HH1 : Hid (Halved clsN a mid b s en d e1) := by show Halved clsN a mid b s en d e1; rw [← HE1.out]; exact HH.out
        have HD2 : Hid (SWp w blk off e1 wr) := by rw [← HE1.out]; exact HD1.out
        have HZ2 : Hid (e1.size = sz) := by rw [← HE1.out]; exact HZ1.out
        have c2a : a < s := by have := HMID.out; have := hsm.out; omega
        have c2b : ¬ s < mid := by have := hsm.out; omega
        have c3a : mid < en := by have := hem.out; omega
        have c3b : en < b := by have := hem.out; omega
        have HM2 : Hid (Merged clsN a mid e1 e1) := Merged.refl clsN (hsm.out ▸ HH1.out.s1)
        have hI3 := IH mid en b e1 wr (by have := HMID.out; omega) HZ2.out HD2.out.holds HD2.out.lt (by have := hem.out; omega) (by have := hem.out; omega) (by omega) HH1.out.s3 HH1.out.s4
        go_wp2_with fail
        refine hI3.mono ?_
        rintro e w3 ⟨rfl, e3, hD3, hM3⟩
        have HD3 : Hid (SWp w blk off e3 w3) := HD2.out.trans hD3 hM3.size
        have HF : Hid (Merged clsN a b d e3) := HH1.out.whole clsN (by omega) (by omega) HM2.out hM3
        clear hI3 hD3 hM3
        go_wp2
        go_end0
        exact ⟨rfl, e3, HD3.out, HF.out⟩
end

end Go.Proofs.YtlkemmdcjnaepaaDoor
