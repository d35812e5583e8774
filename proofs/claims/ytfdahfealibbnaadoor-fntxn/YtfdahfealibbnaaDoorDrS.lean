/- That spec.l1Spoil answers one and the same text wherever the cursor lies. -/
import Derived.Test.YtfdahfealibbnaaDoorRows
import Derived.Test.YtfdahfealibbnaaDoorDr2
import Derived.Test.YtfdahfealibbnaaDoorVtT
import Derived.WalkKit
import Derived.WalkSpells
import Derived.WalkLawsBesides
import Derived.Deep.RegionWith
namespace Go.Proofs.YtfdahfealibbnaaDoor
open Go.RowKit

theorem u8_wrap_bd (n : Int) : 0 ≤ IntKind.u8.wrap n ∧ IntKind.u8.wrap n < 256 := by rw [IntKind.wrap_u8]; omega

theorem At.drew {S : Src} {p : Nat} {s : Nat × Int} {w : World} (c : At S p s w) : At S p s w.drew := c

set_option maxRecDepth 100000 in
set_option maxHeartbeats 4000000 in
theorem spoilB_last (S : Src) (ok : S.ok) (u : ByteArray) (hu : u.size ≤ 5000) (s s1 s2 : Nat × Int) (k : Nat) (r : Int) (hku : k < u.size) (hz : ((u.size : Int) == 0) = false) (HB : Hid (bX S u.size s = k)) (HS1 : Hid (s1 = bS S u.size s)) (HR : Hid (r = bX S 4 s1)) (HS2 : Hid (s2 = bS S 4 s1)) (hr0 : (r == 0) = false) (hr1 : (r == 1) = false) (hr2 : (r == 2) = false) :
    ∃ v : ByteArray, v.size ≤ 5100 ∧ ∀ (p : Nat) (w : World), At S p s w → Calls Tryd.prog 41 #[.pointer (some ⟨p, 0, none⟩), .string u] w fun e w' => e = .returned (.string v) ∧ w.grownBy w' (some p) := by
  obtain ⟨q, HQ⟩ : ∃ q, Hid (q = bX S 255 s2) := ⟨_, rfl⟩
  have hq : 0 ≤ q ∧ q < 255 := by rw [HQ.out]; exact bX_bd S 255 s2 (by decide)
  have hc := u[k].toNat_lt
  have hw0 : IntKind.i64.wrap (u[k].toNat : Int) = (u[k].toNat : Int) := wraps_i64 _ (by omega) (by omega)
  have hw1 : IntKind.i64.wrap (1 + q) = 1 + q := wraps_i64 _ (by omega) (by omega)
  have hw2 : IntKind.i64.wrap ((k : Int) + 1) = (k : Int) + 1 := wraps_i64 _ (by omega) (by omega)
  have hk1 : (k : Int) + 1 ≤ (u.size : Int) := by omega
  have hk2 : k + 1 ≤ u.size := by omega
  have hk3 : (0 : Int) ≤ (k : Int) + 1 := by omega
  have hk4 : ((k : Int) + 1).toNat = k + 1 := by omega
  obtain ⟨y, hy0⟩ : ∃ y, y = IntKind.u8.wrap (bits .xor .i64 (u[k].toNat : Int) (1 + q)) := ⟨_, rfl⟩
  have HY : Hid (y = IntKind.u8.wrap (bits .xor .i64 (u[k].toNat : Int) (1 + q))) := hy0
  clear hy0
  have hwy : IntKind.u8.wrap (bits .xor .i64 (u[k].toNat : Int) (1 + q)) = y := HY.out.symm
  have hy : 0 ≤ y ∧ y < 256 := by rw [HY.out]; exact u8_wrap_bd _
  have hxs : (⟨#[UInt8.ofNat y.toNat]⟩ : ByteArray).size = 1 := rfl
  refine ⟨u.extract 0 k ++ ⟨#[UInt8.ofNat y.toNat]⟩ ++ u.extract (k + 1) u.size, ?_, fun p w c => ?_⟩
  · rw [app_size, app_size, ByteArray.size_extract, ByteArray.size_extract, hxs]; omega
  · go_enter Tryd.func41, Tryd.ntmps41
    go_wp2_with fail
    refine (below_any S ok u.size p s _ c).mono ?_
    rintro e w1 ⟨rfl, c1, b1⟩
    rw [HB.out]
    rw [← HS1.out] at c1
    go_wp2_with fail
    refine (below_any S ok 4 p s1 _ c1).mono ?_
    rintro e w2 ⟨rfl, c2, b2⟩
    rw [← HR.out]
    rw [← HS2.out] at c2
    have g2 := gb_trans b1 b2
    clear b1 b2 c1
    go_wp2
    go_region_with (go_at_call 40; refine (below_any S ok 255 p s2 _ ?_).mono ?_; exact c2; rintro e w3 ⟨rfl, c3, b3⟩; rw [← HQ.out]; have hcv := one_string (P := Tryd.prog) w3 (E := 5) (S := 37) (T := 9) y (by omega) (by omega) Tryd.underlying37 Tryd.underlying5 Tryd.underlying9)
    all_goals (go_wp2; go_ret; exact ⟨rfl, gb_trans (gb_trans (gb_drew g2) b3) (World.grownBy_alloc _ _ _)⟩)

set_option maxRecDepth 100000 in
set_option maxHeartbeats 800000 in
theorem spoilB_any (S : Src) (ok : S.ok) (u : ByteArray) (hu : u.size ≤ 5000) (s : Nat × Int) : ∃ v : ByteArray, v.size ≤ 5100 ∧ ∀ (p : Nat) (w : World), At S p s w →
    Calls Tryd.prog 41 #[.pointer (some ⟨p, 0, none⟩), .string u] w fun e w' => e = .returned (.string v) ∧ w.grownBy w' (some p) := by
  by_cases h0 : u.size = 0
  · refine ⟨⟨(tL S 3 s).toArray⟩, ?_, fun p w c => ?_⟩
    · have := tL_length S 3 s (by decide); simp [ByteArray.size]; omega
    · have hz : ((u.size : Int) == 0) = true := by rw [beq_iff_eq]; omega
      clear h0
      go_enter Tryd.func41, Tryd.ntmps41
      go_wp2_with fail
      refine (text_any S ok 3 (by decide) (by decide) p s _ c).mono ?_
      rintro e w1 ⟨rfl, c1, b1⟩
      go_wp2
      go_ret
      exact ⟨rfl, b1⟩
  · have hz : ((u.size : Int) == 0) = false := by rw [beq_eq_false_iff_ne]; omega
    have hb := bX_bd S u.size s (by omega)
    obtain ⟨k, hk⟩ := Int.eq_ofNat_of_zero_le hb.1
    have HB : Hid (bX S u.size s = k) := hk
    have hku : k < u.size := by omega
    obtain ⟨s1, HS1⟩ : ∃ s1, Hid (s1 = bS S u.size s) := ⟨_, rfl⟩
    obtain ⟨r, HR⟩ : ∃ r, Hid (r = bX S 4 s1) := ⟨_, rfl⟩
    obtain ⟨s2, HS2⟩ : ∃ s2, Hid (s2 = bS S 4 s1) := ⟨_, rfl⟩
    clear hk hb h0
    by_cases r0 : r = 0
    · have hr0 : (r == 0) = true := by rw [beq_iff_eq]; exact r0
      clear r0
      refine ⟨u.extract 0 k ++ u.extract (k + 1) u.size, ?_, fun p w c => ?_⟩
      · rw [app_size, ByteArray.size_extract, ByteArray.size_extract]; omega
      · go_enter Tryd.func41, Tryd.ntmps41
        go_wp2_with fail
        refine (below_any S ok u.size p s _ c).mono ?_
        rintro e w1 ⟨rfl, c1, b1⟩
        rw [HB.out]
        rw [← HS1.out] at c1
        go_wp2_with fail
        refine (below_any S ok 4 p s1 _ c1).mono ?_
        rintro e w2 ⟨rfl, c2, b2⟩
        rw [← HR.out]
        have g2 := gb_trans b1 b2
        clear b1 b2 c1 c2
        go_wp2
        go_quiet (fail)
        go_wp2
        go_ret
        exact ⟨rfl, gb_drewN g2 _⟩
    · have hr0 : (r == 0) = false := by rw [beq_eq_false_iff_ne]; exact r0
      by_cases r1 : r = 1
      · have hr1 : (r == 1) = true := by rw [beq_iff_eq]; exact r1
        clear r0 r1
        obtain ⟨x, HX⟩ : ∃ x, Hid (x = dX S s2) := ⟨_, rfl⟩
        have hx : 0 ≤ x ∧ x ≤ 255 := by rw [HX.out]; exact dX_bd S s2
        have hwx : IntKind.u8.wrap x = x := by rw [IntKind.wrap_u8]; omega
        have hxs : (⟨#[UInt8.ofNat x.toNat]⟩ : ByteArray).size = 1 := rfl
        refine ⟨u.extract 0 k ++ ⟨#[UInt8.ofNat x.toNat]⟩ ++ u.extract k u.size, ?_, fun p w c => ?_⟩
        · rw [app_size, app_size, ByteArray.size_extract, ByteArray.size_extract, hxs]; omega
        · go_enter Tryd.func41, Tryd.ntmps41
          go_wp2_with fail
          refine (below_any S ok u.size p s _ c).mono ?_
          rintro e w1 ⟨rfl, c1, b1⟩
          rw [HB.out]
          rw [← HS1.out] at c1
          go_wp2_with fail
          refine (below_any S ok 4 p s1 _ c1).mono ?_
          rintro e w2 ⟨rfl, c2, b2⟩
          rw [← HR.out]
          rw [← HS2.out] at c2
          have g2 := gb_trans b1 b2
          clear b1 b2 c1
          go_wp2
          go_region_with (go_at_call 59; refine (byte_any S ok p s2 _ ?_).mono ?_; exact c2; rintro e w3 ⟨rfl, c3, b3⟩; rw [← HX.out]; have hcv := one_string (P := Tryd.prog) w3 (E := 5) (S := 37) (T := 9) x (by omega) (by omega) Tryd.underlying37 Tryd.underlying5 Tryd.underlying9)
          all_goals (go_wp2; go_ret; exact ⟨rfl, gb_trans (gb_trans (gb_drew g2) b3) (World.grownBy_alloc _ _ _)⟩)
      · have hr1 : (r == 1) = false := by rw [beq_eq_false_iff_ne]; exact r1
        by_cases r2 : r = 2
        · have hr2 : (r == 2) = true := by rw [beq_iff_eq]; exact r2
          clear r0 r1 r2
          refine ⟨u.extract 0 k, ?_, fun p w c => ?_⟩
          · rw [ByteArray.size_extract]; omega
          · go_enter Tryd.func41, Tryd.ntmps41
            go_wp2_with fail
            refine (below_any S ok u.size p s _ c).mono ?_
            rintro e w1 ⟨rfl, c1, b1⟩
            rw [HB.out]
            rw [← HS1.out] at c1
            go_wp2_with fail
            refine (below_any S ok 4 p s1 _ c1).mono ?_
            rintro e w2 ⟨rfl, c2, b2⟩
            rw [← HR.out]
            have g2 := gb_trans b1 b2
            clear b1 b2 c1 c2
            go_wp2
            go_ret
            exact ⟨rfl, g2⟩
        · have hr2 : (r == 2) = false := by rw [beq_eq_false_iff_ne]; exact r2
          clear r0 r1 r2
          exact spoilB_last S ok u hu s s1 s2 k r hku hz HB HS1 HR HS2 hr0 hr1 hr2

end Go.Proofs.YtfdahfealibbnaaDoor
