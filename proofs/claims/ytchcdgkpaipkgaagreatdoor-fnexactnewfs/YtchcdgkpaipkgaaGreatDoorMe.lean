/- Names: slices.swapRangeCmpFunc at signs with their classes: two rows change places. Names: slices.rotateCmpFunc at signs with their classes: one part goes ahead of the other. The library's functions that the program calls, laid at this program's own numbers: slices.insertionSortCmpFunc at signs with their classes. Names: signs with their classes held against each other; slices.insertionSortCmpFunc over them. Names: slices.symMergeCmpFunc at signs with their classes, where the first part is of one. Names: slices.symMergeCmpFunc at signs with their classes, where the second part is of one. Names: what slices.symMergeCmpFunc says of parts that are shorter. -/
import Derived.Test.YtchcdgkpaipkgaaGreatDoorRows
import Derived.Test.YtchcdgkpaipkgaaGreatDoorMd
import Derived.Test.YtchcdgkpaipkgaaGreatDoorMa
import Derived.Test.YtchcdgkpaipkgaaGreatDoorProg
import Derived.Shelf.SlSortCmp.InsertionK
import Derived.Shelf.SlSortFuncK.ComposeK
import Derived.WalkKit
import Derived.WalkSpells
import Derived.WalkLawsBesides
namespace Go.Proofs.YtchcdgkpaipkgaaGreatDoor

section
open Go.RowKit Go.Shelf Go.Lib Go.Sort

/-- a sign and its class, as they lie -/
def encP (s : Int) : List Value := [.int .i64 s, .int .i64 (clsN s)]
theorem encP_len (s : Int) : (encP s).length = 2 := rfl
theorem encP_one (s : Int) : ∀ v ∈ encP s, v.oneCell' = true := by
  intro v hv
  simp only [encP, List.mem_cons, List.not_mem_nil, or_false] at hv
  rcases hv with rfl | rfl <;> rfl

/-- what is known while two of them change places -/
theorem swap_known {W : World} {blk off : Nat} {dk : Array Int} (hH : HoldsK encP 2 W blk off dk) {p q : Nat} (hp : p < dk.size) (hq : q < dk.size) (hne : p ≠ q) :
    (W.cell? ⟨blk, off + p * 2, none⟩ = some (.int .i64 dk[p]!) ∧ W.cell? ⟨blk, off + p * 2 + 1, none⟩ = some (.int .i64 (clsN dk[p]!))) ∧
    (W.cell? ⟨blk, off + q * 2, none⟩ = some (.int .i64 dk[q]!) ∧ W.cell? ⟨blk, off + q * 2 + 1, none⟩ = some (.int .i64 (clsN dk[q]!))) ∧
    (W.frozen? ⟨blk, off + p * 2, none⟩ = false ∧ W.frozen? ⟨blk, off + p * 2 + 1, none⟩ = false ∧ W.frozen? ⟨blk, off + q * 2, none⟩ = false ∧ W.frozen? ⟨blk, off + q * 2 + 1, none⟩ = false) ∧
    (∀ u, (W.setCell ⟨blk, off + p * 2, none⟩ u).cell? ⟨blk, off + p * 2 + 1, none⟩ = some (.int .i64 (clsN dk[p]!))) ∧
    (∀ u v, ((W.setCell ⟨blk, off + p * 2, none⟩ u).setCell ⟨blk, off + p * 2 + 1, none⟩ v).cell? ⟨blk, off + q * 2, none⟩ = some (.int .i64 dk[q]!)) ∧
    (∀ u v x, (((W.setCell ⟨blk, off + p * 2, none⟩ u).setCell ⟨blk, off + p * 2 + 1, none⟩ v).setCell ⟨blk, off + q * 2, none⟩ x).cell? ⟨blk, off + q * 2 + 1, none⟩ = some (.int .i64 (clsN dk[q]!))) := by
  have la := HoldsK.cells hH encP_len hp
  have lb := HoldsK.cells hH encP_len hq
  have la0 : W.cell? ⟨blk, off + p * 2, none⟩ = some (.int .i64 dk[p]!) := la 0 _ rfl
  have la1 : W.cell? ⟨blk, off + p * 2 + 1, none⟩ = some (.int .i64 (clsN dk[p]!)) := la 1 _ rfl
  have lb0 : W.cell? ⟨blk, off + q * 2, none⟩ = some (.int .i64 dk[q]!) := lb 0 _ rfl
  have lb1 : W.cell? ⟨blk, off + q * 2 + 1, none⟩ = some (.int .i64 (clsN dk[q]!)) := lb 1 _ rfl
  have ne : ∀ x y : Nat, x ≠ y → (⟨blk, x, none⟩ : Addr) ≠ ⟨blk, y, none⟩ := fun x y h e => h (by cases e; rfl)
  refine ⟨⟨la0, la1⟩, ⟨lb0, lb1⟩, ⟨?_, ?_, ?_, ?_⟩, fun u => ?_, fun u v => ?_, fun u v x => ?_⟩
  · exact (HoldsK.cell hH hp (show 0 < 2 by omega)).2
  · exact (HoldsK.cell hH hp (show 1 < 2 by omega)).2
  · exact (HoldsK.cell hH hq (show 0 < 2 by omega)).2
  · exact (HoldsK.cell hH hq (show 1 < 2 by omega)).2
  · rw [World.cell?_setCell_other (h := ne _ _ (by omega))]; exact la1
  · rw [World.cell?_setCell_other (h := ne _ _ (by omega)), World.cell?_setCell_other (h := ne _ _ (by omega))]; exact lb0
  · rw [World.cell?_setCell_other (h := ne _ _ (by omega)), World.cell?_setCell_other (h := ne _ _ (by omega)), World.cell?_setCell_other (h := ne _ _ (by omega))]; exact lb1

/-- W is w with dk in the row's place, some draws on, some blocks behind -/
def SWp (w : World) (blk off : Nat) (dk : Array Int) (W : World) : Prop := blk < w.heap.size ∧ (∃ d0, HoldsK encP 2 w blk off d0 ∧ dk.size = d0.size) ∧ ∃ n os, W = sortWorldK encP 2 w blk off n dk os
theorem SWp.start {w : World} {blk off : Nat} {d : Array Int} (hH : HoldsK encP 2 w blk off d) (hblk : blk < w.heap.size) : SWp w blk off d w :=
  ⟨hblk, ⟨d, hH, rfl⟩, 0, #[], (sortWorldK_start encP 2 w blk off d hH).symm⟩
theorem SWp.lt {w W : World} {blk off : Nat} {dk : Array Int} (h : SWp w blk off dk W) : blk < W.heap.size := by
  obtain ⟨hb, _, n, os, rfl⟩ := h
  exact lt_sortWorldK encP 2 w blk off n dk os hb
theorem SWp.holds {w W : World} {blk off : Nat} {dk : Array Int} (h : SWp w blk off dk W) : HoldsK encP 2 W blk off dk := by
  obtain ⟨hb, ⟨d0, h0, hs⟩, n, os, rfl⟩ := h
  exact holdsK_sortWorldK encP 2 w blk off n d0 dk os hb h0 hs
theorem SWp.trans {w W V : World} {blk off : Nat} {dk dn : Array Int} (h : SWp w blk off dk W) (g : SWp W blk off dn V) (hs : dn.size = dk.size) : SWp w blk off dn V := by
  obtain ⟨hb, ⟨d0, h0, hs0⟩, n, os, rfl⟩ := h
  obtain ⟨_, _, m, os', rfl⟩ := g
  exact ⟨hb, ⟨d0, h0, hs.trans hs0⟩, n + m, os ++ os', by rw [sortWorldK_on encP 2 w blk off n m dk dn os os' hb hs]⟩
theorem SWp.grown {w W : World} {blk off : Nat} {dk : Array Int} (h : SWp w blk off dk W) (m : Nat) (os' : Array Obj) : SWp w blk off dk (grow (W.drewN m) os') := by
  obtain ⟨hb, h0, n, os, rfl⟩ := h
  exact ⟨hb, h0, n + m, os ++ os', sortWorldK_grown_c encP 2 w blk off n m dk os os'⟩
theorem SWp.swap {w W : World} {blk off : Nat} {dk : Array Int} (h : SWp w blk off dk W) {p q : Nat} (hp : p < dk.size) (hq : q < dk.size) :
    SWp w blk off (swp dk p q) ((((W.drew.setCell ⟨blk, off + p * 2, none⟩ (.int .i64 dk[q]!)).setCell ⟨blk, off + p * 2 + 1, none⟩ (.int .i64 (clsN dk[q]!))).setCell ⟨blk, off + q * 2, none⟩ (.int .i64 dk[p]!)).setCell ⟨blk, off + q * 2 + 1, none⟩ (.int .i64 (clsN dk[p]!))) := by
  obtain ⟨hb, ⟨d0, h0, hs⟩, n, os, rfl⟩ := h
  exact ⟨hb, ⟨d0, h0, by rw [swp_size]; exact hs⟩, n + 1, os, sortWorldK_swp_c encP 2 w blk off encP_len n dk os hb p q hp hq⟩

set_option maxRecDepth 1000000 in
set_option maxHeartbeats 4000000 in
theorem swapRange_any (blk off cap a b n : Nat) (cb : Value) (d : Array Int) (w : World) (hH : HoldsK encP 2 w blk off d) (hblk : blk < w.heap.size) (hab : a + n ≤ b) (hb : b + n ≤ d.size) (hsz : d.size < 4611686018427387904) :
    Calls Tryz.prog 105 #[.slice (some ⟨blk, off, none⟩) d.size cap, .int .i64 a, .int .i64 b, .int .i64 n, cb] w fun e w' => e = .returned (.tuple #[]) ∧ ∃ d', SWp w blk off d' w' ∧ Swr a b n d d' := by
  have HST : Hid (SWp w blk off d w) := SWp.start hH hblk
  clear hH
  have mixed : Tryz.prog.follows Departure.mixedOrders = true := by kernel_rfl
  go_enter Tryz.func105, Tryz.ntmps105
  go_wp2
  go_loopw [10] (fun vi wr => ∃ (i : Nat) (dk : Array Int), i ≤ n ∧ vi = .int .i64 i ∧ Hid (SWp w blk off dk wr) ∧ Hid (Swr a b i d dk)) (fun vi _ => n - (intOf vi).toNat)
  case atStart => exact ⟨0, d, by omega, rfl, HST, Swr.zero a b d⟩
  case round =>
    obtain ⟨i, dk, hi, rfl, HD, HS⟩ := hrel
    by_cases hlt : i < n
    · have hltz : (i : Int) < (n : Int) := by omega
      have hsk : dk.size = d.size := HS.out.1
      obtain ⟨p, HP⟩ : ∃ p, Hid (p = a + i) := ⟨_, rfl⟩
      obtain ⟨q, HQ⟩ : ∃ q, Hid (q = b + i) := ⟨_, rfl⟩
      have hp : p < d.size := by have := HP.out; omega
      have hq : q < d.size := by have := HQ.out; omega
      obtain ⟨⟨la0, la1⟩, ⟨lb0, lb1⟩, ⟨f0, f1, f2, f3⟩, n1, n2, n3⟩ := swap_known HD.out.holds (p := p) (q := q) (by omega) (by omega) (by have := HP.out; have := HQ.out; omega)
      have HW : Hid _ := HD.out.swap (p := p) (q := q) (by omega) (by omega)
      have HSW : Hid (Swr a b (i + 1) d (swp dk p q)) := by rw [HP.out, HQ.out]; exact HS.out.step (by omega) (by omega)
      generalize swp dk p q = dn at *
      generalize clsN dk[p]! = ka at *
      generalize clsN dk[q]! = kb at *
      generalize dk[p]! = xa at *
      generalize dk[q]! = xb at *
      have za : IntKind.i64.wrap ((a : Int) + (i : Int)) = (p : Int) := by rw [HP.out, IntKind.wrap_i64]; omega
      have zb : IntKind.i64.wrap ((b : Int) + (i : Int)) = (q : Int) := by rw [HQ.out, IntKind.wrap_i64]; omega
      have ja : (p : Int) < (d.size : Int) := by omega
      have jb : (q : Int) < (d.size : Int) := by omega
      go_wp2_with fail
      go_big_region_o
      all_goals go_wp2
      go_roundw
      case rel => exact ⟨i + 1, dn, by omega, by go_num, HW.out, HSW⟩
      case measure => simp [intOf]; omega
    · obtain rfl : i = n := by omega
      go_wp2
      go_end0
      exact ⟨rfl, dk, HD.out, HS.out⟩
end

section
open Go.RowKit Go.Shelf Go.Lib Go.Sort

set_option maxRecDepth 1000000 in
set_option maxHeartbeats 4000000 in
theorem rotate_any (blk off cap a m b : Nat) (cb : Value) (d : Array Int) (w : World) (hH : HoldsK encP 2 w blk off d) (hblk : blk < w.heap.size) (ham : a < m) (hmb : m < b) (hb : b ≤ d.size) (hsz : d.size < 4611686018427387904) :
    Calls Tryz.prog 104 #[.slice (some ⟨blk, off, none⟩) d.size cap, .int .i64 a, .int .i64 m, .int .i64 b, cb] w fun e w' => e = .returned (.tuple #[]) ∧ ∃ d', SWp w blk off d' w' ∧ Rot a m b d d' := by
  have HST : Hid (SWp w blk off d w) := SWp.start hH hblk
  clear hH
  have z1 : IntKind.i64.wrap ((m : Int) - (a : Int)) = ((m - a : Nat) : Int) := by rw [IntKind.wrap_i64]; omega
  have z2 : IntKind.i64.wrap ((b : Int) - (m : Int)) = ((b - m : Nat) : Int) := by rw [IntKind.wrap_i64]; omega
  obtain ⟨i0, HI0⟩ : ∃ i0, Hid (i0 = m - a) := ⟨_, rfl⟩
  obtain ⟨j0, HJ0⟩ : ∃ j0, Hid (j0 = b - m) := ⟨_, rfl⟩
  rw [← HI0.out] at z1
  rw [← HJ0.out] at z2
  go_enter Tryz.func104, Tryz.ntmps104
  go_wp2
  go_loopw [10, 11] (fun vi vj wr => ∃ (i j : Nat) (dk : Array Int), 0 < i ∧ 0 < j ∧ i ≤ i0 ∧ j ≤ j0 ∧ vi = .int .i64 i ∧ vj = .int .i64 j ∧ Hid (SWp w blk off dk wr) ∧ Hid (RotTo a m b d i j dk)) (fun vi vj _ => (intOf vi).toNat + (intOf vj).toNat)
  case atStart => exact ⟨i0, j0, d, by have := HI0.out; omega, by have := HJ0.out; omega, Nat.le_refl _, Nat.le_refl _, rfl, rfl, HST, by rw [HI0.out, HJ0.out]; exact RotTo.start d (by omega) (by omega)⟩
  case round =>
    obtain ⟨i, j, dk, hi, hj, hi0, hj0, rfl, rfl, HD, HS⟩ := hrel
    have hsk : dk.size = d.size := HS.out.1
    have hi1 : i ≤ m := by have := HI0.out; omega
    have hj1 : m + j ≤ d.size := by have := HJ0.out; omega
    have z3 : IntKind.i64.wrap ((m : Int) - (i : Int)) = ((m - i : Nat) : Int) := by rw [IntKind.wrap_i64]; omega
    obtain ⟨p, HP⟩ : ∃ p, Hid (p = m - i) := ⟨_, rfl⟩
    rw [← HP.out] at z3
    rcases Nat.lt_trichotomy i j with hlt | heq | hgt
    · have hij : ¬ (i : Int) = (j : Int) := by omega
      have hij2 : ¬ (j : Int) < (i : Int) := by omega
      have z4 : IntKind.i64.wrap ((m : Int) + (j : Int)) = ((m + j : Nat) : Int) := by rw [IntKind.wrap_i64]; omega
      obtain ⟨r, HR⟩ : ∃ r, Hid (r = m + j) := ⟨_, rfl⟩
      rw [← HR.out] at z4
      have z5 : IntKind.i64.wrap ((r : Int) - (i : Int)) = ((m + j - i : Nat) : Int) := by rw [HR.out, IntKind.wrap_i64]; omega
      obtain ⟨s, HSS⟩ : ∃ s, Hid (s = m + j - i) := ⟨_, rfl⟩
      rw [← HSS.out] at z5
      have hC := swapRange_any blk off cap p s i cb dk wr HD.out.holds HD.out.lt (by have := HP.out; have := HSS.out; omega) (by have := HSS.out; omega) (by omega)
      rw [hsk] at hC
      have z6 : IntKind.i64.wrap ((j : Int) - (i : Int)) = ((j - i : Nat) : Int) := by rw [IntKind.wrap_i64]; omega
      go_wp2_with fail
      refine hC.mono ?_
      rintro e w1 ⟨rfl, dn, hD, hS⟩
      have HD1 : Hid (SWp w blk off dn w1) := HD.out.trans hD hS.1
      have HS1 : Hid (RotTo a m b d i (j - i) dn) := HS.out.right hi1 hlt hi (by rw [← HP.out, ← HSS.out]; exact hS)
      clear hD hS hC
      go_wp2
      go_roundw
      case rel => exact ⟨i, j - i, dn, hi, by omega, hi0, by omega, rfl, by first | rfl | rw [z6], HD1, HS1⟩
      case measure => simp [intOf]; omega
    · subst heq
      have hC := swapRange_any blk off cap p m i cb dk wr HD.out.holds HD.out.lt (by have := HP.out; omega) (by omega) (by omega)
      rw [hsk] at hC
      go_wp2_with fail
      refine hC.mono ?_
      rintro e w1 ⟨rfl, dn, hD, hS⟩
      have HD1 : Hid (SWp w blk off dn w1) := HD.out.trans hD hS.1
      have HS1 : Hid (Rot a m b d dn) := HS.out.last hi1 (by rw [← HP.out]; exact hS)
      clear hD hS hC
      go_wp2
      go_end0
      exact ⟨rfl, dn, HD1.out, HS1.out⟩
    · have hij : ¬ (i : Int) = (j : Int) := by omega
      have hij2 : (j : Int) < (i : Int) := by omega
      have hC := swapRange_any blk off cap p m j cb dk wr HD.out.holds HD.out.lt (by have := HP.out; omega) (by omega) (by omega)
      rw [hsk] at hC
      have z6 : IntKind.i64.wrap ((i : Int) - (j : Int)) = ((i - j : Nat) : Int) := by rw [IntKind.wrap_i64]; omega
      go_wp2_with fail
      refine hC.mono ?_
      rintro e w1 ⟨rfl, dn, hD, hS⟩
      have HD1 : Hid (SWp w blk off dn w1) := HD.out.trans hD hS.1
      have HS1 : Hid (RotTo a m b d (i - j) j dn) := HS.out.left hi1 hgt hj (by rw [← HP.out]; exact hS)
      clear hD hS hC
      go_wp2
      go_roundw
      case rel => exact ⟨i - j, j, dn, by omega, hj, by omega, hj0, by first | rfl | rw [z6], rfl, HD1, HS1⟩
      case measure => simp [intOf]; omega
end

section
open Go.Shelf
def Tryz.laysIns_ren : Go.Shelf.Ren := ⟨fun | 20 => 102 | n => n, fun | 24 => 108 | 22 => 104 | 3 => 3 | 25 => 118 | 4 => 4 | 0 => 0 | n => n, fun | n => n⟩
theorem Tryz.laysIns : Go.Proofs.SlLaysF0.n20 Tryz.prog Tryz.laysIns_ren := {
  mixed := by kernel_rfl
  f20 := ⟨Tryz.f102.name, by decide, Tryz.func102.trans (congrArg some (by kernel_rfl))⟩
  t0 := Tryz.underlying0
  a0 := Tryz.isAgg0
  z0 := Tryz.sizeOf0
  v0 := Tryz.zeroValue0
  t3 := Tryz.underlying3
  a3 := Tryz.isAgg3
  z3 := Tryz.sizeOf3
  v3 := Tryz.zeroValue3
  t4 := Tryz.underlying4
  a4 := Tryz.isAgg4
  z4 := Tryz.sizeOf4
  v4 := Tryz.zeroValue4
  t22 := Tryz.underlying104
  a22 := Tryz.isAgg104
  z22 := Tryz.sizeOf104
  v22 := Tryz.zeroValue104
  t25 := Tryz.underlying118
  a25 := Tryz.isAgg118
  z25 := Tryz.sizeOf118
  v25 := Tryz.zeroValue118 }
end

section
open Go.RowKit Go.Shelf Go.Lib Go.Sort

theorem clsN_bd (c : Int) : 0 ≤ clsN c ∧ clsN c ≤ 230 := by
  unfold clsN
  split
  · omega
  · split
    · omega
    · split <;> omega

set_option maxRecDepth 100000 in
set_option maxHeartbeats 1000000 in
theorem against_any (x y : Int) (W : World) :
    Calls Tryz.prog 87 #[.agg #[.int .i64 x, .int .i64 (clsN x)], .agg #[.int .i64 y, .int .i64 (clsN y)]] W fun e w' => e = .returned (.int .i64 (clsN x - clsN y)) ∧ ∃ q os, w' = grow (W.drewN q) os := by
  have hx := clsN_bd x
  have hy := clsN_bd y
  generalize clsN x = a at *
  generalize clsN y = b at *
  go_enter Tryz.func87, Tryz.ntmps87
  go_wp2
  go_ret
  exact ⟨rfl, 0, _, by rw [alloc_eq_grow, alloc_eq_grow, grow_grow]; rfl⟩

theorem insert_any (blk off cap a b : Nat) (d : Array Int) (w : World) (hH : HoldsK encP 2 w blk off d) (hblk : blk < w.heap.size) (hab : a ≤ b) (hb : b ≤ d.size) (hsz : d.size < 4611686018427387904) :
    Calls Tryz.prog 102 #[.slice (some ⟨blk, off, none⟩) d.size cap, .int .i64 a, .int .i64 b, .func (.func 87) #[] #[]] w fun e w' => e = .returned (.tuple #[]) ∧ ∃ d', SWp w blk off d' w' ∧ Merged clsN a b d d' := by
  have h := AnyQ.insertionSortCmpFunc Tryz.laysIns 2 (fun w => Tryz.isAgg108 w) (fun w => Tryz.sizeOf108 w) encP encP_len encP_one (fun x y => clsN x - clsN y) 87 #[] blk off cap a b d w (enters_of Tryz.func87 (by kernel_rfl) rfl) (fun m os dk _ x y => against_any x y _) hH hblk hab hb hsz
  refine Calls.mono (f := 102) h ?_
  rintro e w' ⟨rfl, n, os, rfl⟩
  have hm := ins_merged clsN d a b hab hb
  exact ⟨rfl, _, ⟨hblk, ⟨d, hH, hm.size⟩, n, os, rfl⟩, hm⟩
end

section
open Go.RowKit Go.Shelf Go.Lib Go.Sort

/-- what is known of one of them in each world that a look passes through -/
theorem SWp.cells {w W : World} {blk off : Nat} {dk : Array Int} (h : SWp w blk off dk W) {p : Nat} (hp : p < dk.size) :
    (∀ n os, (grow (W.drewN n) os).cell? ⟨blk, off + p * 2, none⟩ = some (.int .i64 dk[p]!)) ∧ (∀ n os, (grow (W.drewN n) os).cell? ⟨blk, off + p * 2 + 1, none⟩ = some (.int .i64 (clsN dk[p]!))) :=
  ⟨fun n os => HoldsK.cells (h.grown n os).holds encP_len hp 0 _ rfl, fun n os => HoldsK.cells (h.grown n os).holds encP_len hp 1 _ rfl⟩

/-- the midst, as it is reckoned -/
theorem mid_half (i j : Nat) (hij : i < j) (hj : j < 4611686018427387904) : ∃ h s : Nat, s = i + j ∧ i ≤ h ∧ h < j ∧ h = (i + j) / 2 ∧ IntKind.i64.wrap ((i : Int) + (j : Int)) = (s : Int) ∧ IntKind.u64.wrap (s : Int) = (s : Int) ∧ (s : Int) / 2 = (h : Int) ∧ IntKind.u64.wrap (h : Int) = (h : Int) ∧ IntKind.i64.wrap (h : Int) = (h : Int) := by
  refine ⟨(i + j) / 2, i + j, rfl, by omega, by omega, rfl, ?_, ?_, ?_, ?_, ?_⟩
  · rw [IntKind.wrap_i64]; omega
  · rw [IntKind.wrap_u64]; omega
  · omega
  · rw [IntKind.wrap_u64]; omega
  · rw [IntKind.wrap_i64]; omega

set_option maxRecDepth 1000000 in
set_option maxHeartbeats 4000000 in
theorem symA (blk off cap a b : Nat) (d : Array Int) (w : World) (hH : HoldsK encP 2 w blk off d) (hblk : blk < w.heap.size) (hab : a + 1 < b) (hb : b ≤ d.size) (hsz : d.size < 4611686018427387904) (hs : Hid (Srtd clsN (a + 1) b d)) (m : Nat) (hm : Hid (m = a + 1)) :
    Calls Tryz.prog 103 #[.slice (some ⟨blk, off, none⟩) d.size cap, .int .i64 a, .int .i64 m, .int .i64 b, .func (.func 87) #[] #[]] w fun e w' => e = .returned (.tuple #[]) ∧ ∃ d', SWp w blk off d' w' ∧ Merged clsN a b d d' := by
  have HST : Hid (SWp w blk off d w) := SWp.start hH hblk
  clear hH
  have mixed : Tryz.prog.follows Departure.mixedOrders = true := by kernel_rfl
  have z1 : IntKind.i64.wrap ((m : Int) - (a : Int)) = 1 := by rw [hm.out, IntKind.wrap_i64]; omega
  obtain ⟨xa, HXA⟩ : ∃ x, Hid (x = d[a]!) := ⟨_, rfl⟩
  go_enter Tryz.func103, Tryz.ntmps103
  go_wp2
  go_loopw [10, 11] (fun vi vj wr => ∃ (i j : Nat), m ≤ i ∧ i ≤ j ∧ j ≤ b ∧ vi = .int .i64 i ∧ vj = .int .i64 j ∧ Hid (SWp w blk off d wr) ∧ Hid (∀ t, a + 1 ≤ t → t < i → clsN d[t]! < clsN d[a]!) ∧ Hid (∀ t, j ≤ t → t < b → clsN d[a]! ≤ clsN d[t]!)) (fun vi vj _ => (intOf vj).toNat - (intOf vi).toNat)
  case atStart => exact ⟨m, b, Nat.le_refl _, by have := hm.out; omega, Nat.le_refl _, rfl, rfl, HST, fun t h1 h2 => by have := hm.out; omega, fun t h1 h2 => by omega⟩
  case round =>
    obtain ⟨i, j, hi, hij, hj, rfl, rfl, HD, HL, HU⟩ := hrel
    by_cases hlt : i < j
    · have hltz : (i : Int) < (j : Int) := by omega
      obtain ⟨h, s, hse, hih, hhj, hhe, y1, y2, y3, y4, y5⟩ := mid_half i j hlt (by omega)
      have HHE : Hid (h = (i + j) / 2) := hhe
      clear hse hhe
      obtain ⟨lh0, lh1⟩ := HD.out.cells (p := h) (by omega)
      obtain ⟨la0, la1⟩ := HD.out.cells (p := a) (by omega)
      have hcg : ∀ n os, Calls Tryz.prog 87 #[.agg #[.int .i64 d[h]!, .int .i64 (clsN d[h]!)], .agg #[.int .i64 d[a]!, .int .i64 (clsN d[a]!)]] (grow (wr.drewN n) os) fun e w' => e = .returned (.int .i64 (clsN d[h]! - clsN d[a]!)) ∧ ∃ q os', w' = grow ((grow (wr.drewN n) os).drewN q) os' := fun n os => against_any _ _ _
      have jh : (h : Int) < (d.size : Int) := by omega
      have ja : (a : Int) < (d.size : Int) := by omega
      obtain ⟨kh, HKH⟩ : ∃ k, Hid (k = clsN d[h]!) := ⟨_, rfl⟩
      obtain ⟨ka, HKA⟩ : ∃ k, Hid (k = clsN d[a]!) := ⟨_, rfl⟩
      obtain ⟨xh, HXH⟩ : ∃ k, Hid (k = d[h]!) := ⟨_, rfl⟩
      obtain ⟨xa, HXA⟩ : ∃ k, Hid (k = d[a]!) := ⟨_, rfl⟩
      rw [← HKH.out, ← HKA.out] at hcg
      rw [← HXH.out, ← HXA.out] at hcg
      rw [← HKH.out] at lh1
      rw [← HKA.out] at la1
      rw [← HXH.out] at lh0
      rw [← HXA.out] at la0
      have KEY : Hid (kh - ka < 0 ↔ clsN d[h]! < clsN d[a]!) := by show _ ↔ _; rw [HKH.out, HKA.out]; omega
      by_cases hlv : kh - ka < 0
      · have HL2 : Hid (∀ t, a + 1 ≤ t → t < h + 1 → clsN d[t]! < clsN d[a]!) := fun t h1 h2 => by
          have q1 := KEY.out.1 hlv
          have q2 := hs.out.le clsN h1 (show t ≤ h by omega) (by omega)
          omega
        go_wp2_with fail
        go_quiet_grown (first | (go_at_call 87; refine Calls.grown_of (hcg _ _)))
        have HD2 : Hid (SWp w blk off d (grow (wr.drewN nq) osq)) := HD.out.grown nq osq
        clear lh0 lh1 la0 la1 hcg
        generalize grow (wr.drewN nq) osq = W2 at *
        go_wp2
        go_roundw
        case rel => exact ⟨h + 1, j, by omega, by omega, hj, by go_num, rfl, HD2, HL2, HU⟩
        case measure => simp [intOf]; omega
      · have HU2 : Hid (∀ t, h ≤ t → t < b → clsN d[a]! ≤ clsN d[t]!) := fun t h1 h2 => by
          have q1 : ¬ clsN d[h]! < clsN d[a]! := fun q => hlv (KEY.out.2 q)
          have q2 := hs.out.le clsN (show a + 1 ≤ h by have := hm.out; omega) h1 h2
          omega
        go_wp2_with fail
        go_quiet_grown (first | (go_at_call 87; refine Calls.grown_of (hcg _ _)))
        have HD2 : Hid (SWp w blk off d (grow (wr.drewN nq) osq)) := HD.out.grown nq osq
        clear lh0 lh1 la0 la1 hcg
        generalize grow (wr.drewN nq) osq = W2 at *
        go_wp2
        go_roundw
        case rel => exact ⟨i, h, hi, hih, by omega, rfl, rfl, HD2, HL, HU2⟩
        case measure => simp [intOf]; omega
    · obtain rfl : i = j := by omega
      have z2 : IntKind.i64.wrap ((i : Int) - 1) = ((i - 1 : Nat) : Int) := by have := hm.out; rw [IntKind.wrap_i64]; omega
      obtain ⟨l, HLi⟩ : ∃ l, Hid (l = i - 1) := ⟨_, rfl⟩
      rw [← HLi.out] at z2
      have hal : a ≤ l := by have := hm.out; have := HLi.out; omega
      have hli : l + 1 = i := by have := hm.out; have := HLi.out; omega
      have HLI : Hid (l + 1 = i) := hli
      have hlb : l < b := by omega
      clear hli
      go_wp2
      go_loopw [13] (fun vk W => ∃ (k : Nat) (dk : Array Int), a ≤ k ∧ k ≤ l ∧ vk = .int .i64 k ∧ Hid (SWp w blk off dk W) ∧ Hid (Rot a (a + 1) (k + 1) d dk)) (fun vk _ => l - (intOf vk).toNat)
      case atStart => exact ⟨a, d, Nat.le_refl _, hal, rfl, HD, Rot.none_r a (a + 1) d⟩
      case round =>
        obtain ⟨k, dk, hak, hkl, rfl, HD3, HR⟩ := hrel
        by_cases hlt2 : k < l
        · have hltz2 : (k : Int) < (l : Int) := by omega
          have hsk : dk.size = d.size := HR.out.1
          obtain ⟨q, HQ⟩ : ∃ q, Hid (q = k + 1) := ⟨_, rfl⟩
          have hq : q < d.size := by have := HQ.out; have := HLI.out; omega
          have hk : k < d.size := by omega
          obtain ⟨⟨la0, la1⟩, ⟨lb0, lb1⟩, ⟨f0, f1, f2, f3⟩, n1, n2, n3⟩ := swap_known HD3.out.holds (p := k) (q := q) (by omega) (by omega) (by have := HQ.out; omega)
          have HW : Hid _ := HD3.out.swap (p := k) (q := q) (by omega) (by omega)
          have HSW : Hid (Rot a (a + 1) (k + 1 + 1) d (swp dk k q)) := by rw [HQ.out]; exact HR.out.fwd hak (by have := HQ.out; omega)
          generalize swp dk k q = dn at *
          generalize clsN dk[k]! = ka at *
          generalize clsN dk[q]! = kb at *
          generalize dk[k]! = xa at *
          generalize dk[q]! = xb at *
          have za : IntKind.i64.wrap ((k : Int) + 1) = (q : Int) := by rw [HQ.out, IntKind.wrap_i64]; omega
          have ja : (k : Int) < (d.size : Int) := by omega
          have jb : (q : Int) < (d.size : Int) := by omega
          go_wp2_with fail
          go_big_region_o
          all_goals go_wp2
          go_roundw
          case rel => exact ⟨k + 1, dn, by omega, by omega, by rw [HQ.out], HW.out, HSW⟩
          case measure => have := HQ.out; simp [intOf]; omega
        · obtain rfl : k = l := by omega
          have HM : Hid (Merged clsN a b d dk) := merged_first clsN hb hs.out (by have := HLI.out; omega) (by have := HLI.out; omega) HL.out HU.out (by rw [← HLI.out]; exact HR.out)
          go_wp2
          (try simp only [Exit.inBlock, Exit.then])
          refine bodyPost_ret (results_none rfl _ _ _) rfl ?_
          exact ⟨rfl, dk, HD3.out, HM.out⟩
end

section
open Go.RowKit Go.Shelf Go.Lib Go.Sort

set_option maxRecDepth 1000000 in
set_option maxHeartbeats 4000000 in
theorem symB (blk off cap a m : Nat) (d : Array Int) (w : World) (hH : HoldsK encP 2 w blk off d) (hblk : blk < w.heap.size) (ham : a + 1 < m) (hb : m < d.size) (hsz : d.size < 4611686018427387904) (hs : Hid (Srtd clsN a m d)) (b : Nat) (hbm : Hid (b = m + 1)) :
    Calls Tryz.prog 103 #[.slice (some ⟨blk, off, none⟩) d.size cap, .int .i64 a, .int .i64 m, .int .i64 b, .func (.func 87) #[] #[]] w fun e w' => e = .returned (.tuple #[]) ∧ ∃ d', SWp w blk off d' w' ∧ Merged clsN a b d d' := by
  have HST : Hid (SWp w blk off d w) := SWp.start hH hblk
  clear hH
  have mixed : Tryz.prog.follows Departure.mixedOrders = true := by kernel_rfl
  obtain ⟨ma, HMA⟩ : ∃ x : Nat, Hid (x = m - a) := ⟨_, rfl⟩
  have z0 : IntKind.i64.wrap ((m : Int) - (a : Int)) = (ma : Int) := by rw [HMA.out, IntKind.wrap_i64]; omega
  have z01 : ((ma : Int) == 1) = false := by have := HMA.out; rw [beq_eq_false_iff_ne]; omega
  have z1 : IntKind.i64.wrap ((b : Int) - (m : Int)) = 1 := by rw [hbm.out, IntKind.wrap_i64]; omega
  go_enter Tryz.func103, Tryz.ntmps103
  go_wp2
  go_loopw [14, 15] (fun vi vj wr => ∃ (i j : Nat), a ≤ i ∧ i ≤ j ∧ j ≤ m ∧ vi = .int .i64 i ∧ vj = .int .i64 j ∧ Hid (SWp w blk off d wr) ∧ Hid (∀ t, a ≤ t → t < i → clsN d[t]! ≤ clsN d[m]!) ∧ Hid (∀ t, j ≤ t → t < m → clsN d[m]! < clsN d[t]!)) (fun vi vj _ => (intOf vj).toNat - (intOf vi).toNat)
  case atStart => exact ⟨a, m, Nat.le_refl _, by omega, Nat.le_refl _, rfl, rfl, HST, fun t h1 h2 => by omega, fun t h1 h2 => by omega⟩
  case round =>
    obtain ⟨i, j, hi, hij, hj, rfl, rfl, HD, HL, HU⟩ := hrel
    by_cases hlt : i < j
    · have hltz : (i : Int) < (j : Int) := by omega
      obtain ⟨h, s, hse, hih, hhj, hhe, y1, y2, y3, y4, y5⟩ := mid_half i j hlt (by omega)
      clear hse hhe
      obtain ⟨lh0, lh1⟩ := HD.out.cells (p := h) (by omega)
      obtain ⟨la0, la1⟩ := HD.out.cells (p := m) (by omega)
      have hcg : ∀ n os, Calls Tryz.prog 87 #[.agg #[.int .i64 d[m]!, .int .i64 (clsN d[m]!)], .agg #[.int .i64 d[h]!, .int .i64 (clsN d[h]!)]] (grow (wr.drewN n) os) fun e w' => e = .returned (.int .i64 (clsN d[m]! - clsN d[h]!)) ∧ ∃ q os', w' = grow ((grow (wr.drewN n) os).drewN q) os' := fun n os => against_any _ _ _
      have jh : (h : Int) < (d.size : Int) := by omega
      have ja : (m : Int) < (d.size : Int) := by omega
      obtain ⟨kh, HKH⟩ : ∃ k, Hid (k = clsN d[h]!) := ⟨_, rfl⟩
      obtain ⟨ka, HKA⟩ : ∃ k, Hid (k = clsN d[m]!) := ⟨_, rfl⟩
      obtain ⟨xh, HXH⟩ : ∃ k, Hid (k = d[h]!) := ⟨_, rfl⟩
      obtain ⟨xa, HXA⟩ : ∃ k, Hid (k = d[m]!) := ⟨_, rfl⟩
      rw [← HKH.out, ← HKA.out] at hcg
      rw [← HXH.out, ← HXA.out] at hcg
      rw [← HKH.out] at lh1
      rw [← HKA.out] at la1
      rw [← HXH.out] at lh0
      rw [← HXA.out] at la0
      have KEY : Hid (ka - kh < 0 ↔ clsN d[m]! < clsN d[h]!) := by show _ ↔ _; rw [HKH.out, HKA.out]; omega
      by_cases hlv : ka - kh < 0
      · have HU2 : Hid (∀ t, h ≤ t → t < m → clsN d[m]! < clsN d[t]!) := fun t h1 h2 => by
          have q1 := KEY.out.1 hlv
          have q2 := hs.out.le clsN (show a ≤ h by omega) h1 h2
          omega
        go_wp2_with fail
        go_quiet_grown (first | (go_at_call 87; refine Calls.grown_of (hcg _ _)))
        have HD2 : Hid (SWp w blk off d (grow (wr.drewN nq) osq)) := HD.out.grown nq osq
        clear lh0 lh1 la0 la1 hcg
        generalize grow (wr.drewN nq) osq = W2 at *
        go_wp2
        go_roundw
        case rel => exact ⟨i, h, hi, hih, by omega, rfl, rfl, HD2, HL, HU2⟩
        case measure => simp [intOf]; omega
      · have HL2 : Hid (∀ t, a ≤ t → t < h + 1 → clsN d[t]! ≤ clsN d[m]!) := fun t h1 h2 => by
          have q1 : ¬ clsN d[m]! < clsN d[h]! := fun q => hlv (KEY.out.2 q)
          have q2 := hs.out.le clsN h1 (show t ≤ h by omega) (by omega)
          omega
        have hlb : decide (ka - kh < 0) = false := decide_eq_false hlv
        clear hlv
        go_wp2_with fail
        go_quiet_grown (first | (go_at_call 87; refine Calls.grown_of (hcg _ _)))
        have HD2 : Hid (SWp w blk off d (grow (wr.drewN nq) osq)) := HD.out.grown nq osq
        clear lh0 lh1 la0 la1 hcg
        generalize grow (wr.drewN nq) osq = W2 at *
        go_wp2
        go_roundw
        case rel => exact ⟨h + 1, j, by omega, by omega, hj, by go_num, rfl, HD2, HL2, HU⟩
        case measure => simp [intOf]; omega
    · obtain rfl : i = j := by omega
      go_wp2
      go_loopw [17] (fun vk W => ∃ (k : Nat) (dk : Array Int), i ≤ k ∧ k ≤ m ∧ vk = .int .i64 k ∧ Hid (SWp w blk off dk W) ∧ Hid (Rot k m (m + 1) d dk)) (fun vk _ => (intOf vk).toNat - i)
      case atStart => exact ⟨m, d, hj, Nat.le_refl _, rfl, HD, Rot.none_l m (m + 1) d⟩
      case round =>
        obtain ⟨k, dk, hak, hkl, rfl, HD3, HR⟩ := hrel
        by_cases hlt2 : i < k
        · have hltz2 : (i : Int) < (k : Int) := by omega
          have hsk : dk.size = d.size := HR.out.1
          obtain ⟨q, HQ⟩ : ∃ q, Hid (k = q + 1) := ⟨k - 1, show k = k - 1 + 1 by omega⟩
          have hq : q < d.size := by have := HQ.out; omega
          have hk : k < d.size := by omega
          obtain ⟨⟨la0, la1⟩, ⟨lb0, lb1⟩, ⟨f0, f1, f2, f3⟩, n1, n2, n3⟩ := swap_known HD3.out.holds (p := k) (q := q) (by omega) (by omega) (by have := HQ.out; omega)
          have HW : Hid _ := HD3.out.swap (p := k) (q := q) (by omega) (by omega)
          have HSW : Hid (Rot q m (m + 1) d (swp dk k q)) := by
            have hr := HR.out
            rw [HQ.out] at hr ⊢
            exact hr.bwd (by have := HQ.out; omega) hb
          generalize swp dk k q = dn at *
          generalize clsN dk[k]! = ka at *
          generalize clsN dk[q]! = kb at *
          generalize dk[k]! = xa at *
          generalize dk[q]! = xb at *
          have za : IntKind.i64.wrap ((k : Int) - 1) = (q : Int) := by rw [HQ.out, IntKind.wrap_i64]; omega
          have ja : (k : Int) < (d.size : Int) := by omega
          have jb : (q : Int) < (d.size : Int) := by omega
          go_wp2_with fail
          go_big_region_o
          all_goals go_wp2
          go_roundw
          case rel => exact ⟨q, dn, by have := HQ.out; omega, by have := HQ.out; omega, rfl, HW.out, HSW⟩
          case measure => have := HQ.out; simp [intOf]; omega
        · obtain rfl : i = k := by omega
          have HM : Hid (Merged clsN a b d dk) := by rw [hbm.out]; exact merged_last clsN hb hs.out hi hkl HL.out HU.out HR.out
          go_wp2
          (try simp only [Exit.inBlock, Exit.then])
          refine bodyPost_ret (results_none rfl _ _ _) rfl ?_
          exact ⟨rfl, dk, HD3.out, HM.out⟩
end

section
open Go.RowKit Go.Shelf Go.Lib Go.Sort

/-- what merging says of parts shorter than N -/
def SymSays (blk off cap sz N : Nat) : Prop := ∀ (a m b : Nat) (d : Array Int) (w : World), b - a < N → d.size = sz → HoldsK encP 2 w blk off d → blk < w.heap.size → a < m → m < b → b ≤ sz → Srtd clsN a m d → Srtd clsN m b d →
  Calls Tryz.prog 103 #[.slice (some ⟨blk, off, none⟩) sz cap, .int .i64 a, .int .i64 m, .int .i64 b, .func (.func 87) #[] #[]] w fun e w' => e = .returned (.tuple #[]) ∧ ∃ d', SWp w blk off d' w' ∧ Merged clsN a b d d'
end

end Go.Proofs.YtchcdgkpaipkgaaGreatDoor
