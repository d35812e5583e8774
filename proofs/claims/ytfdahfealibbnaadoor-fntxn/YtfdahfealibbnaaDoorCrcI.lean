/- impl.Crc: the running sum behind a pointer, its two look-ups a byte, and its contract. -/
import Derived.Test.YtfdahfealibbnaaDoorRows
import Derived.Test.YtfdahfealibbnaaDoorCrcS
import Derived.WalkKit
import Derived.WalkSpells
import Derived.WalkLawsBesides
import Derived.RegionTactic
import Derived.ChangeAlike
import Derived.Deep.QuietTactic
import Derived.BigQuiet
namespace Go.Proofs.YtfdahfealibbnaaDoor
open Go.RowKit

theorem gb_refl (w : World) (r : Option Nat) : w.grownBy w r := ⟨rfl, rfl, rfl, Nat.le_refl _, fun _ _ _ => rfl⟩
theorem gb_trans {w w1 w2 : World} {r : Option Nat} (a : w.grownBy w1 r) (b : w1.grownBy w2 r) : w.grownBy w2 r :=
  ⟨b.os.trans a.os, b.tape.trans a.tape, b.output.trans a.output, Nat.le_trans a.size b.size, fun k hk hn => (b.block k (Nat.lt_of_lt_of_le hk a.size) hn).trans (a.block k hk hn)⟩
theorem gb_set (w : World) (p j : Nat) (v : Value) : w.grownBy (w.setCell ⟨p, j, none⟩ v) (some p) :=
  ⟨rfl, rfl, rfl, by simp [World.setCell], fun k _ hn => Below.heap_setCell _ _ _ _ (fun e => hn (by rw [e]))⟩
theorem gb_drewN {w w1 : World} {r : Option Nat} (a : w.grownBy w1 r) (n : Nat) : w.grownBy (w1.drewN n) r := ⟨a.os, a.tape, a.output, a.size, a.block⟩

theorem gb_drew {w w1 : World} {r : Option Nat} (a : w.grownBy w1 r) : w.grownBy w1.drew r := ⟨a.os, a.tape, a.output, a.size, a.block⟩
theorem below_gb {w w1 : World} {p B : Nat} (a : w.grownBy w1 (some p)) (hB : B ≤ p) (hp : p < w.heap.size) : Below B w w1 :=
  ⟨a.os, a.tape, a.output, a.size, fun k hk => a.block k (by omega) (fun e => by cases e; omega)⟩

/-- the running sum in block p has come to c; the table lies as it was laid -/
def SumAt (p c : Nat) (w : World) : Prop :=
  w.heap[p]? = some (.cells #[.int .u32 (c : Int)] 93 (0, 0)) ∧ c < 4294967296 ∧ 1 < p ∧
  ∀ i, i < 16 → w.cell? ⟨1, i, none⟩ = some (.int .u32 (tab16.getD i 0))

theorem SumAt.store {p c : Nat} {w : World} (h : SumAt p c w) (d : Nat) (hd : d < 4294967296) : SumAt p d (w.setCell ⟨p, 0, none⟩ (.int .u32 (d : Int))) :=
  ⟨heap_setCell_same w p 0 _ _ _ h.1, hd, h.2.2.1, fun i hi =>
    (((Below.refl p w).setCell (p := ⟨p, 0, none⟩) (Nat.le_refl _) (.int .u32 (d : Int))).cell (p := ⟨1, i, none⟩) h.2.2.1).trans (h.2.2.2 i hi)⟩

theorem SumAt.drewN {p c : Nat} {w : World} (h : SumAt p c w) (n : Nat) : SumAt p c (w.drewN n) := h

set_option maxRecDepth 100000 in
set_option maxHeartbeats 400000 in
theorem addHalf_any (p c : Nat) (w : World) (h : SumAt p c w) :
    Calls Tryd.prog 66 #[.pointer (some ⟨p, 0, none⟩)] w fun e w' => e = .returned (.tuple #[]) ∧ SumAt p (hvN 4 c) w' ∧ w.grownBy w' (some p) := by
  have c0 := cell_of_row w p 0 _ _ (0, 0) h.1
  have f0 := frozen_of_row w p 0 _ _ h.1
  simp at c0
  have hc := h.2.1
  have hT := h.2.2.2 (c % 16) (Nat.mod_lt _ (by decide))
  rw [tab16_all _ (Nat.mod_lt _ (by decide))] at hT
  have ht : hvN 4 (c % 16) < 4294967296 := hvN_lt _ _ (by omega)
  have HH : Hid (hvN 4 c = c / 16 ^^^ hvN 4 (c % 16)) := hvN_half c
  have HL : Hid (hvN 4 c < 4294967296) := hvN_lt _ _ hc
  obtain ⟨t, HT⟩ : ∃ t, Hid (t = hvN 4 (c % 16)) := ⟨_, rfl⟩
  rw [← HT.out] at hT ht HH
  obtain ⟨i, HI⟩ : ∃ i, Hid (i = c % 16) := ⟨_, rfl⟩
  have hi : (c : Int) % 16 = (i : Int) := by have := HI.out; omega
  have hi' : (c : Int).tmod 16 = (i : Int) := by rw [Int.tmod_eq_emod_of_nonneg (by omega)]; exact hi
  have h0i : (0 : Int) ≤ (i : Int) := by omega
  have h1i : (i : Int) < 16 := by have := HI.out; omega
  rw [← HI.out] at hT
  have hi16 : i < 16 := by have := HI.out; omega
  have hx : bits .xor .u32 ((c : Int) / 16) (t : Int) = ((c / 16 ^^^ t : Nat) : Int) := by
    have := u32_xor ((c / 16 : Nat) : Int) (t : Int) (by omega) (by omega) (by omega) (by omega)
    rw [show (((c / 16 : Nat) : Int)).toNat = c / 16 from Int.toNat_natCast _, Int.toNat_natCast] at this
    exact this
  go_enter Tryd.func66, Tryd.ntmps66
  go_wp2
  go_region
  go_end0
  exact ⟨rfl, by rw [HH.out]; exact h.store _ (by rw [← HH.out]; exact HL.out), gb_drew (gb_set _ _ _ _)⟩

set_option maxRecDepth 100000 in
set_option maxHeartbeats 400000 in
theorem add_any (p c b : Nat) (hb : b < 256) (w : World) (h : SumAt p c w) :
    Calls Tryd.prog 62 #[.pointer (some ⟨p, 0, none⟩), .int .u8 (b : Int)] w fun e w' => e = .returned (.tuple #[]) ∧ SumAt p (hvN 8 (c ^^^ b)) w' ∧ w.grownBy w' (some p) := by
  have c0 := cell_of_row w p 0 _ _ (0, 0) h.1
  have f0 := frozen_of_row w p 0 _ _ h.1
  simp at c0
  have hc := h.2.1
  have hx : bits .xor .u32 (c : Int) (b : Int) = ((c ^^^ b : Nat) : Int) := by
    have := u32_xor (c : Int) (b : Int) (by omega) (by omega) (by omega) (by omega)
    rw [Int.toNat_natCast, Int.toNat_natCast] at this
    exact this
  have hd := xor_byte_lt c b hc hb
  have HB : Hid (hvN 8 (c ^^^ b) = hvN 4 (hvN 4 (c ^^^ b))) := hvN_byte c b
  obtain ⟨d, HD⟩ : ∃ d, Hid (d = c ^^^ b) := ⟨_, rfl⟩
  rw [← HD.out] at hx hd HB ⊢
  have h1 := h.store d hd
  go_enter Tryd.func62, Tryd.ntmps62
  go_wp2_with fail
  refine (addHalf_any p d _ h1).mono ?_
  rintro e w1 ⟨rfl, h2, g2⟩
  go_wp2_with fail
  refine (addHalf_any p _ _ h2).mono ?_
  rintro e w2 ⟨rfl, h3, g3⟩
  go_wp2
  go_end0
  exact ⟨rfl, by rw [HB.out]; exact h3, gb_trans (gb_set _ _ _ _) (gb_trans g2 g3)⟩

set_option maxRecDepth 100000 in
theorem total_any (p c : Nat) (w : World) (h : SumAt p c w) :
    Calls Tryd.prog 63 #[.pointer (some ⟨p, 0, none⟩)] w fun e w' => e = .returned (.int .i64 (4294967295 - (c : Int))) ∧ w = w' := by
  have c0 := cell_of_row w p 0 _ _ (0, 0) h.1
  simp at c0
  have hc := h.2.1
  go_enter Tryd.func63, Tryd.ntmps63
  go_wp2
  go_ret
  exact ⟨rfl, rfl⟩

set_option maxRecDepth 100000 in
set_option maxHeartbeats 400000 in
theorem eachByte_any (s : ByteArray) (hs : s.size ≤ 1048576) (p : Nat) (w : World) (h : SumAt p 4294967295 w) :
    Calls Tryd.prog 61 #[.string s, .func (.func 62) #[.pointer (some ⟨p, 0, none⟩)] #[]] w fun e w' => e = .returned (.tuple #[]) ∧ SumAt p (crcN s s.size) w' ∧ w.grownBy w' (some p) := by
  go_enter Tryd.func61, Tryd.ntmps61
  go_wp2
  go_loopw [7] (fun i wr => ∃ k : Nat, k ≤ s.size ∧ i = .int .i64 k ∧ SumAt p (crcN s k) wr ∧ w.grownBy wr (some p)) (fun i _ => s.size - (intOf i).toNat)
  case atStart => exact ⟨0, Nat.zero_le _, rfl, h, gb_refl _ _⟩
  case round =>
    obtain ⟨k, hk, rfl, h1, g1⟩ := hrel
    by_cases hlt : k < s.size
    · have HS : Hid (crcN s (k + 1) = hvN 8 (crcN s k ^^^ s[k].toNat)) := crcN_succ s k hlt
      have hb := s[k].toNat_lt
      generalize hbe : s[k].toNat = b at hb HS
      go_wp2_with fail
      refine (add_any p _ b hb _ h1).mono ?_
      rintro e w1 ⟨rfl, h2, g2⟩
      go_wp2
      go_roundw
      case rel => exact ⟨k + 1, by omega, by go_num, by rw [HS.out]; exact h2, gb_trans g1 g2⟩
      case measure => simp [intOf]; omega
    · obtain rfl : k = s.size := by omega
      go_wp2
      go_end0
      exact ⟨rfl, h1, g1⟩

theorem heap_new (w : World) (o : Obj) : (w.alloc o).heap[w.heap.size]? = some o := by
  show (w.heap.push o)[w.heap.size]? = some o
  rw [Array.getElem?_push_size]

theorem alloc_sum (w : World) (hw : ∀ i, i < 16 → w.cell? ⟨1, i, none⟩ = some (.int .u32 (tab16.getD i 0))) (h0 : 1 < w.heap.size) :
    SumAt w.heap.size 4294967295 (w.alloc (.cells #[.int .u32 4294967295] 93)) :=
  ⟨heap_new _ _, by omega, h0, fun i hi => by
    rw [World.cell?_alloc_lt _ _ _ h0]; exact hw i hi⟩

set_option maxRecDepth 100000 in
set_option maxHeartbeats 400000 in
theorem iCrc (s : ByteArray) (hs : s.size ≤ 1048576) (w : World) (hw : ∀ i, i < 16 → w.cell? ⟨1, i, none⟩ = some (.int .u32 (tab16.getD i 0))) (h0 : 1 < w.heap.size) :
    Calls Tryd.prog 48 #[.string s] w fun e w' => e = .returned (.int .i64 (4294967295 - (crcN s s.size : Int))) ∧ Below w.heap.size w w' := by
  have hmf : ∀ (fn : Fn) (first cap : Array Value) (w : World), (Instr.makeFunc fn first cap).run Tryd.prog w = .ok (.func fn first cap) w := fun _ _ _ _ => rfl
  have hA := alloc_sum w hw h0
  go_enter Tryd.func48, Tryd.ntmps48
  go_wp2_with fail
  refine (eachByte_any s hs _ _ hA).mono ?_
  rintro e w1 ⟨rfl, h1, g1⟩
  go_wp2_with fail
  refine (total_any _ _ _ h1).mono ?_
  rintro e w2 ⟨rfl, rfl⟩
  go_wp2
  go_ret
  exact ⟨rfl, ((Below.refl w.heap.size w).alloc (Nat.le_refl _) _).trans (below_gb g1 (Nat.le_refl _) (by simp))⟩

end Go.Proofs.YtfdahfealibbnaaDoor
