/- Names: slices.stableCmpFunc and slices.SortStableFunc at signs with their classes: they are put in order, and those of one class stay as they were. -/
import Derived.Test.YtkgnlamlmnhleaaDoorRows
import Derived.Test.YtkgnlamlmnhleaaDoorSyS
namespace Go.Proofs.YtkgnlamlmnhleaaDoor
open Go.RowKit Go.Shelf Go.Lib Go.Sort

set_option maxRecDepth 1000000 in
set_option maxHeartbeats 4000000 in
theorem stable_of (blk off cap sz : Nat) (HSY : Hid (∀ N, SymSays blk off cap sz N)) (d : Array Int) (w : World) (HZ : Hid (d.size = sz)) (hH : HoldsK encP 2 w blk off d) (hblk : blk < w.heap.size) (hsz : sz < 1152921504606846976) :
    Calls Tryd.prog 58 #[.slice (some ⟨blk, off, none⟩) sz cap, .int .i64 sz, .func (.func 42) #[] #[]] w fun e w' => e = .returned (.tuple #[]) ∧ ∃ d', SWp w blk off d' w' ∧ Srtd clsN 0 sz d' ∧ Same clsN d d' ∧ d'.size = sz := by
  have HST : Hid (SWp w blk off d w) := SWp.start hH hblk
  have hdz : d.size = sz := HZ.out
  clear hH
  go_enter Tryd.func58, Tryd.ntmps58
  go_wp2
  go_loopw [7, 8] (fun va vb wr => ∃ (a b : Nat) (e : Array Int), a ≤ sz ∧ va = .int .i64 a ∧ vb = .int .i64 b ∧ Hid (b = a + 20) ∧ Hid (SWp w blk off e wr) ∧ Hid (Firsts clsN 20 a d e)) (fun va _ _ => sz - (intOf va).toNat)
  case atStart => exact ⟨0, 20, d, by omega, rfl, rfl, rfl, HST, Firsts.zero clsN 20 (by omega) d⟩
  case round =>
    obtain ⟨a, b, e, ha, rfl, rfl, HB, HD, HF⟩ := hrel
    have hez : e.size = sz := HF.out.size.trans hdz
    by_cases hlt : b ≤ sz
    · have hltz : (b : Int) ≤ (sz : Int) := by omega
      have hC := insert_any blk off cap a b e wr HD.out.holds HD.out.lt (by have := HB.out; omega) (by omega) (by omega)
      rw [hez] at hC
      have zb : IntKind.i64.wrap ((b : Int) + 20) = ((b + 20 : Nat) : Int) := by rw [IntKind.wrap_i64]; omega
      obtain ⟨b2, HB2⟩ : ∃ x : Nat, Hid (x = b + 20) := ⟨_, rfl⟩
      rw [← HB2.out] at zb
      go_wp2_with fail
      refine hC.mono ?_
      rintro _ w1 ⟨rfl, f, hD1, hM⟩
      have HD1 : Hid (SWp w blk off f w1) := HD.out.trans hD1 hM.size
      have HF1 : Hid (Firsts clsN 20 b d f) := by rw [HB.out] at hM ⊢; exact HF.out.step clsN (by omega) hM
      clear hC hD1 hM
      go_wp2
      go_roundw
      case rel => exact ⟨b, b2, f, hlt, rfl, by first | rfl | rw [zb], HB2, HD1, HF1⟩
      case measure => have := HB.out; simp [intOf]; omega
    · have hltz : decide ((b : Int) ≤ (sz : Int)) = false := decide_eq_false (by omega)
      have hC := insert_any blk off cap a sz e wr HD.out.holds HD.out.lt (by omega) (by omega) (by omega)
      rw [hez] at hC
      go_wp2_with fail
      refine hC.mono ?_
      rintro _ w1 ⟨rfl, f, hD1, hM⟩
      have HD1 : Hid (SWp w blk off f w1) := HD.out.trans hD1 hM.size
      have HBl : Hid (Blocks clsN 20 sz f ∧ Same clsN d f ∧ f.size = d.size) := HF.out.last clsN (by omega) ha (by have := HB.out; omega) hM
      clear hC hD1 hM hltz hlt
      go_wp2
      go_loopw [6] (fun vs wr => ∃ (s : Nat) (e : Array Int), 20 ≤ s ∧ s ≤ 2 * sz + 20 ∧ vs = .int .i64 s ∧ Hid (SWp w blk off e wr) ∧ Hid (Blocks clsN s sz e ∧ Same clsN d e ∧ e.size = d.size)) (fun vs _ => sz - (intOf vs).toNat)
      case atStart => exact ⟨20, f, Nat.le_refl _, by omega, rfl, HD1, HBl⟩
      case round =>
        obtain ⟨s, e1, hs1, hs2, rfl, HD2, HE⟩ := hrel
        by_cases hlt2 : s < sz
        · have hltz2 : (s : Int) < (sz : Int) := by omega
          obtain ⟨s2, HS2⟩ : ∃ x : Nat, Hid (x = 2 * s) := ⟨_, rfl⟩
          have zs : IntKind.i64.wrap (2 * (s : Int)) = (s2 : Int) := by rw [HS2.out, IntKind.wrap_i64]; omega
          have zs' : IntKind.i64.wrap ((s : Int) * 2) = (s2 : Int) := by rw [HS2.out, IntKind.wrap_i64]; omega
          go_wp2
          go_loopw [7, 8] (fun va vb wr => ∃ (a b : Nat) (e : Array Int), a ≤ sz ∧ va = .int .i64 a ∧ vb = .int .i64 b ∧ Hid (b = a + 2 * s) ∧ Hid (SWp w blk off e wr) ∧ Hid (Pairs clsN s sz a d e)) (fun va _ _ => sz - (intOf va).toNat)
          case atStart => exact ⟨0, s2, e1, by omega, rfl, rfl, by rw [HS2.out]; show _ = _; omega, HD2, Pairs.start clsN (by omega) HE.out.1 HE.out.2.1 HE.out.2.2⟩
          case round =>
            obtain ⟨a3, b3, e3, ha3, rfl, rfl, HB3, HD3, HP3⟩ := hrel
            have hez3 : e3.size = sz := HP3.out.fst.size.trans hdz
            obtain ⟨m3, HM3⟩ : ∃ x : Nat, Hid (x = a3 + s) := ⟨_, rfl⟩
            have zm : IntKind.i64.wrap ((a3 : Int) + (s : Int)) = (m3 : Int) := by rw [HM3.out, IntKind.wrap_i64]; omega
            have HT : Hid (Srtd clsN a3 (min (a3 + s) sz) e3 ∧ Srtd clsN (a3 + s) (min (a3 + s + s) sz) e3) := HP3.out.two clsN
            by_cases hlt3 : b3 ≤ sz
            · have hltz3 : (b3 : Int) ≤ (sz : Int) := by omega
              have hC3 := HSY.out (b3 - a3 + 1) a3 m3 b3 e3 wr (by omega) hez3 HD3.out.holds HD3.out.lt (by have := HM3.out; omega) (by have := HM3.out; have := HB3.out; omega) hlt3
                (by have h1 := HT.out.1; rw [Nat.min_eq_left (by have := HB3.out; omega)] at h1; rw [HM3.out]; exact h1) (by have h1 := HT.out.2; rw [Nat.min_eq_left (by have := HB3.out; omega), show a3 + s + s = b3 by have := HB3.out; omega] at h1; rw [HM3.out]; exact h1)
              obtain ⟨b4, HB4⟩ : ∃ x : Nat, Hid (x = b3 + 2 * s) := ⟨_, rfl⟩
              have zb : IntKind.i64.wrap ((b3 : Int) + (s2 : Int)) = (b4 : Int) := by rw [HB4.out, HS2.out, IntKind.wrap_i64]; omega
              go_wp2_with fail
              refine hC3.mono ?_
              rintro _ w4 ⟨rfl, f4, hD4, hM4⟩
              have HD4 : Hid (SWp w blk off f4 w4) := HD3.out.trans hD4 hM4.size
              have HP4 : Hid (Pairs clsN s sz b3 d f4) := by rw [HB3.out] at hM4 ⊢; exact HP3.out.step clsN (by omega) hM4
              clear hC3 hD4 hM4
              go_wp2
              go_roundw
              case rel => exact ⟨b3, b4, f4, hlt3, rfl, rfl, HB4, HD4, HP4⟩
              case measure => have := HB3.out; simp [intOf]; omega
            · have hltz3 : decide ((b3 : Int) ≤ (sz : Int)) = false := decide_eq_false (by omega)
              by_cases hm3 : m3 < sz
              · have hmz3 : (m3 : Int) < (sz : Int) := by omega
                have hC3 := HSY.out (sz - a3 + 1) a3 m3 sz e3 wr (by omega) hez3 HD3.out.holds HD3.out.lt (by have := HM3.out; omega) hm3 (Nat.le_refl _)
                  (by have h1 := HT.out.1; rw [Nat.min_eq_left (by have := HM3.out; omega)] at h1; rw [HM3.out]; exact h1) (by have h1 := HT.out.2; rw [Nat.min_eq_right (by have := HB3.out; omega)] at h1; rw [HM3.out]; exact h1)
                go_wp2_with fail
                refine hC3.mono ?_
                rintro _ w4 ⟨rfl, f4, hD4, hM4⟩
                have HD4 : Hid (SWp w blk off f4 w4) := HD3.out.trans hD4 hM4.size
                have HE4 : Hid (Blocks clsN s2 sz f4 ∧ Same clsN d f4 ∧ f4.size = d.size) := by rw [HS2.out]; exact HP3.out.last clsN (by omega) ha3 (by have := HB3.out; omega) hM4
                clear hC3 hD4 hM4
                go_wp2
                go_roundw
                case rel => exact ⟨s2, f4, by have := HS2.out; omega, by have := HS2.out; omega, rfl, HD4, HE4⟩
                case measure => have := HS2.out; simp [intOf]; omega
              · have hmz3 : decide ((m3 : Int) < (sz : Int)) = false := decide_eq_false (by omega)
                have HE4 : Hid (Blocks clsN s2 sz e3 ∧ Same clsN d e3 ∧ e3.size = d.size) := by
                  rw [HS2.out]
                  exact HP3.out.last clsN (by omega) ha3 (by have := HB3.out; omega) (Merged.refl clsN (by have h1 := HT.out.1; rwa [Nat.min_eq_right (by have := HM3.out; omega)] at h1))
                go_wp2
                go_roundw
                case rel => exact ⟨s2, e3, by have := HS2.out; omega, by have := HS2.out; omega, rfl, HD3, HE4⟩
                case measure => have := HS2.out; simp [intOf]; omega
        · have hltz2 : decide ((s : Int) < (sz : Int)) = false := decide_eq_false (by omega)
          have HA : Hid (Srtd clsN 0 sz e1) := HE.out.1.all clsN (by omega)
          go_wp2
          go_end0
          exact ⟨rfl, e1, HD2.out, HA.out, HE.out.2.1, HE.out.2.2.trans hdz⟩

set_option maxRecDepth 1000000 in
theorem sortStable_of (blk off cap sz : Nat) (HSY : Hid (∀ N, SymSays blk off cap sz N)) (d : Array Int) (w : World) (HZ : Hid (d.size = sz)) (hH : HoldsK encP 2 w blk off d) (hblk : blk < w.heap.size) (hsz : sz < 1152921504606846976) :
    Calls Tryd.prog 41 #[.slice (some ⟨blk, off, none⟩) sz cap, .func (.func 42) #[] #[]] w fun e w' => e = .returned (.tuple #[]) ∧ ∃ d', SWp w blk off d' w' ∧ Srtd clsN 0 sz d' ∧ Same clsN d d' ∧ d'.size = sz := by
  have hC := stable_of blk off cap sz HSY d w HZ hH hblk hsz
  clear hH
  go_enter Tryd.func41, Tryd.ntmps41
  go_wp2_with fail
  refine hC.mono ?_
  rintro _ w1 ⟨rfl, h⟩
  go_wp2
  go_end0
  exact ⟨rfl, h⟩

end Go.Proofs.YtkgnlamlmnhleaaDoor
