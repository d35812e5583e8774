/- Names: slices.swapRangeCmpFunc at signs with their classes: two rows change places. -/
import Derived.Test.YtkgnlamlmnhleaaDoorRows
import Derived.Test.YtkgnlamlmnhleaaDoorStb
import Derived.Test.YtkgnlamlmnhleaaDoorSgn
import Derived.Shelf.SlSortCmp.InsertionK
import Derived.Shelf.SlSortFuncK.ComposeK
import Derived.WalkKit
import Derived.WalkSpells
import Derived.WalkLawsBesides
namespace Go.Proofs.YtkgnlamlmnhleaaDoor
open Go.RowKit Go.Shelf Go.Lib Go.Sort

/-- a sign and its class, as they lie -/
def encP (s : Int) : List Value := [.int .i64 s, .int .i64 (clsN s)]
theorem encP_len (s : Int) : (encP s).length = 2 := rfl
theorem encP_one (s : Int) : ∀ v ∈ encP s, v.oneCell' = true := by
  intro v hv
  simp only [encP, List.mem_cons, List.not_mem_nil, or_false] at hv
  rcases hv with rfl | rfl <;> rfl

/-- what is known while two of them change places -/
theorem swap_known {W : World} {blk off : Nat} {dk : Array Int} (hH : HoldsK encP 2 W blk off dk) {p q : Nat} (hp : p < dk.size) (hq : q < dk.size) (hne : p ≠ q) :
    (W.cell? ⟨blk, off + p * 2, none⟩ = some (.int .i64 dk[p]!) ∧ W.cell? ⟨blk, off + p * 2 + 1, none⟩ = some (.int .i64 (clsN dk[p]!))) ∧
    (W.cell? ⟨blk, off + q * 2, none⟩ = some (.int .i64 dk[q]!) ∧ W.cell? ⟨blk, off + q * 2 + 1, none⟩ = some (.int .i64 (clsN dk[q]!))) ∧
    (W.frozen? ⟨blk, off + p * 2, none⟩ = false ∧ W.frozen? ⟨blk, off + p * 2 + 1, none⟩ = false ∧ W.frozen? ⟨blk, off + q * 2, none⟩ = false ∧ W.frozen? ⟨blk, off + q * 2 + 1, none⟩ = false) ∧
    (∀ u, (W.setCell ⟨blk, off + p * 2, none⟩ u).cell? ⟨blk, off + p * 2 + 1, none⟩ = some (.int .i64 (clsN dk[p]!))) ∧
    (∀ u v, ((W.setCell ⟨blk, off + p * 2, none⟩ u).setCell ⟨blk, off + p * 2 + 1, none⟩ v).cell? ⟨blk, off + q * 2, none⟩ = some (.int .i64 dk[q]!)) ∧
    (∀ u v x, (((W.setCell ⟨blk, off + p * 2, none⟩ u).setCell ⟨blk, off + p * 2 + 1, none⟩ v).setCell ⟨blk, off + q * 2, none⟩ x).cell? ⟨blk, off + q * 2 + 1, none⟩ = some (.int .i64 (clsN dk[q]!))) := by
  have la := HoldsK.cells hH encP_len hp
  have lb := HoldsK.cells hH encP_len hq
  have la0 : W.cell? ⟨blk, off + p * 2, none⟩ = some (.int .i64 dk[p]!) := la 0 _ rfl
  have la1 : W.cell? ⟨blk, off + p * 2 + 1, none⟩ = some (.int .i64 (clsN dk[p]!)) := la 1 _ rfl
  have lb0 : W.cell? ⟨blk, off + q * 2, none⟩ = some (.int .i64 dk[q]!) := lb 0 _ rfl
  have lb1 : W.cell? ⟨blk, off + q * 2 + 1, none⟩ = some (.int .i64 (clsN dk[q]!)) := lb 1 _ rfl
  have ne : ∀ x y : Nat, x ≠ y → (⟨blk, x, none⟩ : Addr) ≠ ⟨blk, y, none⟩ := fun x y h e => h (by cases e; rfl)
  refine ⟨⟨la0, la1⟩, ⟨lb0, lb1⟩, ⟨?_, ?_, ?_, ?_⟩, fun u => ?_, fun u v => ?_, fun u v x => ?_⟩
  · exact (HoldsK.cell hH hp (show 0 < 2 by omega)).2
  · exact (HoldsK.cell hH hp (show 1 < 2 by omega)).2
  · exact (HoldsK.cell hH hq (show 0 < 2 by omega)).2
  · exact (HoldsK.cell hH hq (show 1 < 2 by omega)).2
  · rw [World.cell?_setCell_other (h := ne _ _ (by omega))]; exact la1
  · rw [World.cell?_setCell_other (h := ne _ _ (by omega)), World.cell?_setCell_other (h := ne _ _ (by omega))]; exact lb0
  · rw [World.cell?_setCell_other (h := ne _ _ (by omega)), World.cell?_setCell_other (h := ne _ _ (by omega)), World.cell?_setCell_other (h := ne _ _ (by omega))]; exact lb1

/-- W is w with dk in the row's place, some draws on, some blocks behind -/
def SWp (w : World) (blk off : Nat) (dk : Array Int) (W : World) : Prop := blk < w.heap.size ∧ (∃ d0, HoldsK encP 2 w blk off d0 ∧ dk.size = d0.size) ∧ ∃ n os, W = sortWorldK encP 2 w blk off n dk os
theorem SWp.start {w : World} {blk off : Nat} {d : Array Int} (hH : HoldsK encP 2 w blk off d) (hblk : blk < w.heap.size) : SWp w blk off d w :=
  ⟨hblk, ⟨d, hH, rfl⟩, 0, #[], (sortWorldK_start encP 2 w blk off d hH).symm⟩
theorem SWp.lt {w W : World} {blk off : Nat} {dk : Array Int} (h : SWp w blk off dk W) : blk < W.heap.size := by
  obtain ⟨hb, _, n, os, rfl⟩ := h
  exact lt_sortWorldK encP 2 w blk off n dk os hb
theorem SWp.holds {w W : World} {blk off : Nat} {dk : Array Int} (h : SWp w blk off dk W) : HoldsK encP 2 W blk off dk := by
  obtain ⟨hb, ⟨d0, h0, hs⟩, n, os, rfl⟩ := h
  exact holdsK_sortWorldK encP 2 w blk off n d0 dk os hb h0 hs
theorem SWp.trans {w W V : World} {blk off : Nat} {dk dn : Array Int} (h : SWp w blk off dk W) (g : SWp W blk off dn V) (hs : dn.size = dk.size) : SWp w blk off dn V := by
  obtain ⟨hb, ⟨d0, h0, hs0⟩, n, os, rfl⟩ := h
  obtain ⟨_, _, m, os', rfl⟩ := g
  exact ⟨hb, ⟨d0, h0, hs.trans hs0⟩, n + m, os ++ os', by rw [sortWorldK_on encP 2 w blk off n m dk dn os os' hb hs]⟩
theorem SWp.grown {w W : World} {blk off : Nat} {dk : Array Int} (h : SWp w blk off dk W) (m : Nat) (os' : Array Obj) : SWp w blk off dk (grow (W.drewN m) os') := by
  obtain ⟨hb, h0, n, os, rfl⟩ := h
  exact ⟨hb, h0, n + m, os ++ os', sortWorldK_grown_c encP 2 w blk off n m dk os os'⟩
theorem SWp.swap {w W : World} {blk off : Nat} {dk : Array Int} (h : SWp w blk off dk W) {p q : Nat} (hp : p < dk.size) (hq : q < dk.size) :
    SWp w blk off (swp dk p q) ((((W.drew.setCell ⟨blk, off + p * 2, none⟩ (.int .i64 dk[q]!)).setCell ⟨blk, off + p * 2 + 1, none⟩ (.int .i64 (clsN dk[q]!))).setCell ⟨blk, off + q * 2, none⟩ (.int .i64 dk[p]!)).setCell ⟨blk, off + q * 2 + 1, none⟩ (.int .i64 (clsN dk[p]!))) := by
  obtain ⟨hb, ⟨d0, h0, hs⟩, n, os, rfl⟩ := h
  exact ⟨hb, ⟨d0, h0, by rw [swp_size]; exact hs⟩, n + 1, os, sortWorldK_swp_c encP 2 w blk off encP_len n dk os hb p q hp hq⟩

set_option maxRecDepth 1000000 in
set_option maxHeartbeats 4000000 in
theorem swapRange_any (blk off cap a b n : Nat) (cb : Value) (d : Array Int) (w : World) (hH : HoldsK encP 2 w blk off d) (hblk : blk < w.heap.size) (hab : a + n ≤ b) (hb : b + n ≤ d.size) (hsz : d.size < 4611686018427387904) :
    Calls Tryd.prog 72 #[.slice (some ⟨blk, off, none⟩) d.size cap, .int .i64 a, .int .i64 b, .int .i64 n, cb] w fun e w' => e = .returned (.tuple #[]) ∧ ∃ d', SWp w blk off d' w' ∧ Swr a b n d d' := by
  have HST : Hid (SWp w blk off d w) := SWp.start hH hblk
  clear hH
  have mixed : Tryd.prog.follows Departure.mixedOrders = true := by kernel_rfl
  go_enter Tryd.func72, Tryd.ntmps72
  go_wp2
  go_loopw [10] (fun vi wr => ∃ (i : Nat) (dk : Array Int), i ≤ n ∧ vi = .int .i64 i ∧ Hid (SWp w blk off dk wr) ∧ Hid (Swr a b i d dk)) (fun vi _ => n - (intOf vi).toNat)
  case atStart => exact ⟨0, d, by omega, rfl, HST, Swr.zero a b d⟩
  case round =>
    obtain ⟨i, dk, hi, rfl, HD, HS⟩ := hrel
    by_cases hlt : i < n
    · have hltz : (i : Int) < (n : Int) := by omega
      have hsk : dk.size = d.size := HS.out.1
      obtain ⟨p, HP⟩ : ∃ p, Hid (p = a + i) := ⟨_, rfl⟩
      obtain ⟨q, HQ⟩ : ∃ q, Hid (q = b + i) := ⟨_, rfl⟩
      have hp : p < d.size := by have := HP.out; omega
      have hq : q < d.size := by have := HQ.out; omega
      obtain ⟨⟨la0, la1⟩, ⟨lb0, lb1⟩, ⟨f0, f1, f2, f3⟩, n1, n2, n3⟩ := swap_known HD.out.holds (p := p) (q := q) (by omega) (by omega) (by have := HP.out; have := HQ.out; omega)
      have HW : Hid _ := HD.out.swap (p := p) (q := q) (by omega) (by omega)
      have HSW : Hid (Swr a b (i + 1) d (swp dk p q)) := by rw [HP.out, HQ.out]; exact HS.out.step (by omega) (by omega)
      generalize swp dk p q = dn at *
      generalize clsN dk[p]! = ka at *
      generalize clsN dk[q]! = kb at *
      generalize dk[p]! = xa at *
      generalize dk[q]! = xb at *
      have za : IntKind.i64.wrap ((a : Int) + (i : Int)) = (p : Int) := by rw [HP.out, IntKind.wrap_i64]; omega
      have zb : IntKind.i64.wrap ((b : Int) + (i : Int)) = (q : Int) := by rw [HQ.out, IntKind.wrap_i64]; omega
      have ja : (p : Int) < (d.size : Int) := by omega
      have jb : (q : Int) < (d.size : Int) := by omega
      go_wp2_with fail
      go_big_region_o
      all_goals go_wp2
      go_roundw
      case rel => exact ⟨i + 1, dn, by omega, by go_num, HW.out, HSW⟩
      case measure => simp [intOf]; omega
    · obtain rfl : i = n := by omega
      go_wp2
      go_end0
      exact ⟨rfl, dk, HD.out, HS.out⟩

end Go.Proofs.YtkgnlamlmnhleaaDoor
