/- Names: slices.rotateCmpFunc at signs with their classes: one part goes ahead of the other. -/
import Derived.Test.YtkgnlamlmnhleaaDoorRows
import Derived.Test.YtkgnlamlmnhleaaDoorSwp
namespace Go.Proofs.YtkgnlamlmnhleaaDoor
open Go.RowKit Go.Shelf Go.Lib Go.Sort

set_option maxRecDepth 1000000 in
set_option maxHeartbeats 4000000 in
theorem rotate_any (blk off cap a m b : Nat) (cb : Value) (d : Array Int) (w : World) (hH : HoldsK encP 2 w blk off d) (hblk : blk < w.heap.size) (ham : a < m) (hmb : m < b) (hb : b ≤ d.size) (hsz : d.size < 4611686018427387904) :
    Calls Tryd.prog 70 #[.slice (some ⟨blk, off, none⟩) d.size cap, .int .i64 a, .int .i64 m, .int .i64 b, cb] w fun e w' => e = .returned (.tuple #[]) ∧ ∃ d', SWp w blk off d' w' ∧ Rot a m b d d' := by
  have HST : Hid (SWp w blk off d w) := SWp.start hH hblk
  clear hH
  have z1 : IntKind.i64.wrap ((m : Int) - (a : Int)) = ((m - a : Nat) : Int) := by rw [IntKind.wrap_i64]; omega
  have z2 : IntKind.i64.wrap ((b : Int) - (m : Int)) = ((b - m : Nat) : Int) := by rw [IntKind.wrap_i64]; omega
  obtain ⟨i0, HI0⟩ : ∃ i0, Hid (i0 = m - a) := ⟨_, rfl⟩
  obtain ⟨j0, HJ0⟩ : ∃ j0, Hid (j0 = b - m) := ⟨_, rfl⟩
  rw [← HI0.out] at z1
  rw [← HJ0.out] at z2
  go_enter Tryd.func70, Tryd.ntmps70
  go_wp2
  go_loopw [10, 11] (fun vi vj wr => ∃ (i j : Nat) (dk : Array Int), 0 < i ∧ 0 < j ∧ i ≤ i0 ∧ j ≤ j0 ∧ vi = .int .i64 i ∧ vj = .int .i64 j ∧ Hid (SWp w blk off dk wr) ∧ Hid (RotTo a m b d i j dk)) (fun vi vj _ => (intOf vi).toNat + (intOf vj).toNat)
  case atStart => exact ⟨i0, j0, d, by have := HI0.out; omega, by have := HJ0.out; omega, Nat.le_refl _, Nat.le_refl _, rfl, rfl, HST, by rw [HI0.out, HJ0.out]; exact RotTo.start d (by omega) (by omega)⟩
  case round =>
    obtain ⟨i, j, dk, hi, hj, hi0, hj0, rfl, rfl, HD, HS⟩ := hrel
    have hsk : dk.size = d.size := HS.out.1
    have hi1 : i ≤ m := by have := HI0.out; omega
    have hj1 : m + j ≤ d.size := by have := HJ0.out; omega
    have z3 : IntKind.i64.wrap ((m : Int) - (i : Int)) = ((m - i : Nat) : Int) := by rw [IntKind.wrap_i64]; omega
    obtain ⟨p, HP⟩ : ∃ p, Hid (p = m - i) := ⟨_, rfl⟩
    rw [← HP.out] at z3
    rcases Nat.lt_trichotomy i j with hlt | heq | hgt
    · have hij : ¬ (i : Int) = (j : Int) := by omega
      have hij2 : ¬ (j : Int) < (i : Int) := by omega
      have z4 : IntKind.i64.wrap ((m : Int) + (j : Int)) = ((m + j : Nat) : Int) := by rw [IntKind.wrap_i64]; omega
      obtain ⟨r, HR⟩ : ∃ r, Hid (r = m + j) := ⟨_, rfl⟩
      rw [← HR.out] at z4
      have z5 : IntKind.i64.wrap ((r : Int) - (i : Int)) = ((m + j - i : Nat) : Int) := by rw [HR.out, IntKind.wrap_i64]; omega
      obtain ⟨s, HSS⟩ : ∃ s, Hid (s = m + j - i) := ⟨_, rfl⟩
      rw [← HSS.out] at z5
      have hC := swapRange_any blk off cap p s i cb dk wr HD.out.holds HD.out.lt (by have := HP.out; have := HSS.out; omega) (by have := HSS.out; omega) (by omega)
      rw [hsk] at hC
      have z6 : IntKind.i64.wrap ((j : Int) - (i : Int)) = ((j - i : Nat) : Int) := by rw [IntKind.wrap_i64]; omega
      go_wp2_with fail
      refine hC.mono ?_
      rintro e w1 ⟨rfl, dn, hD, hS⟩
      have HD1 : Hid (SWp w blk off dn w1) := HD.out.trans hD hS.1
      have HS1 : Hid (RotTo a m b d i (j - i) dn) := HS.out.right hi1 hlt hi (by rw [← HP.out, ← HSS.out]; exact hS)
      clear hD hS hC
      go_wp2
      go_roundw
      case rel => exact ⟨i, j - i, dn, hi, by omega, hi0, by omega, rfl, by first | rfl | rw [z6], HD1, HS1⟩
      case measure => simp [intOf]; omega
    · subst heq
      have hC := swapRange_any blk off cap p m i cb dk wr HD.out.holds HD.out.lt (by have := HP.out; omega) (by omega) (by omega)
      rw [hsk] at hC
      go_wp2_with fail
      refine hC.mono ?_
      rintro e w1 ⟨rfl, dn, hD, hS⟩
      have HD1 : Hid (SWp w blk off dn w1) := HD.out.trans hD hS.1
      have HS1 : Hid (Rot a m b d dn) := HS.out.last hi1 (by rw [← HP.out]; exact hS)
      clear hD hS hC
      go_wp2
      go_end0
      exact ⟨rfl, dn, HD1.out, HS1.out⟩
    · have hij : ¬ (i : Int) = (j : Int) := by omega
      have hij2 : (j : Int) < (i : Int) := by omega
      have hC := swapRange_any blk off cap p m j cb dk wr HD.out.holds HD.out.lt (by have := HP.out; omega) (by omega) (by omega)
      rw [hsk] at hC
      have z6 : IntKind.i64.wrap ((i : Int) - (j : Int)) = ((i - j : Nat) : Int) := by rw [IntKind.wrap_i64]; omega
      go_wp2_with fail
      refine hC.mono ?_
      rintro e w1 ⟨rfl, dn, hD, hS⟩
      have HD1 : Hid (SWp w blk off dn w1) := HD.out.trans hD hS.1
      have HS1 : Hid (RotTo a m b d (i - j) j dn) := HS.out.left hi1 hgt hj (by rw [← HP.out]; exact hS)
      clear hD hS hC
      go_wp2
      go_roundw
      case rel => exact ⟨i - j, j, dn, by omega, hj, by omega, hj0, by first | rfl | rw [z6], rfl, HD1, HS1⟩
      case measure => simp [intOf]; omega

end Go.Proofs.YtkgnlamlmnhleaaDoor
