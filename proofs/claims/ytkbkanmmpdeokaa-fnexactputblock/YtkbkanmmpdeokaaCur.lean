/- The cursor of the draws: what spec.l1Byte and spec.l1Below do to it. -/
import Derived.Test.YtkbkanmmpdeokaaRows
import Derived.Test.YtkbkanmmpdeokaaNum
import Derived.Test.YtkbkanmmpdeokaaSrcD
import Derived.WalkKit
import Derived.WalkSpells
import Derived.WalkLawsBesides
import Derived.Deep.QuietTactic
import Derived.BigQuiet
namespace Go.Proofs.Ytkbkanmmpdeokaa
open Go.RowKit

theorem and_bd (x : Int) (m : Nat) (hm : m < 9223372036854775808) : 0 ≤ bits .and .i64 x (m : Int) ∧ bits .and .i64 x (m : Int) ≤ m := by
  have e : (BitVec.ofInt 64 (m : Int)).toNat = m := by rw [BitVec.ofInt_natCast, BitVec.toNat_ofNat]; exact Nat.mod_eq_of_lt (by omega)
  have h : (BitVec.ofInt 64 x &&& BitVec.ofInt 64 (m : Int)).toNat ≤ m := by
    rw [BitVec.toNat_and, e]; exact Nat.and_le_right
  show 0 ≤ IntKind.i64.wrap (((BitVec.ofInt 64 x &&& BitVec.ofInt 64 (m : Int)).toNat : Nat) : Int) ∧ IntKind.i64.wrap (((BitVec.ofInt 64 x &&& BitVec.ofInt 64 (m : Int)).toNat : Nat) : Int) ≤ m
  rw [wraps_i64 _ (by omega) (by omega)]
  omega

/-- how the cursor's number goes on -/
def mixH (h : Int) : Int := wrap64 (wrap64 (h * 6364136223846793005) + 1442695040888963407)

/-- the byte that is drawn from the number alone -/
def mixB (m : Int) : Int := bits .and .i64 (bits .xor .i64 (m / 8589934592) (m / 35184372088832)) 255

theorem mixB_bd (m : Int) : 0 ≤ mixB m ∧ mixB m ≤ 255 := and_bd _ 255 (by decide)

/-- the byte that is drawn at i, and where the cursor stands then -/
def drawX (len : Nat) (zs : List Int) (i : Nat) (h : Int) : Int := if i < len then bits .and .i64 (mixB (mixH h) + zs.getD i 0) 255 else mixB (mixH h)
def drawI (len i : Nat) : Nat := if i < len then i + 1 else i

theorem drawX_bd (len : Nat) (zs : List Int) (i : Nat) (h : Int) : 0 ≤ drawX len zs i h ∧ drawX len zs i h ≤ 255 := by
  unfold drawX
  split
  · exact and_bd _ 255 (by decide)
  · exact mixB_bd _

theorem drawI_le (len i : Nat) (h : i ≤ len) : drawI len i ≤ len := by unfold drawI; split <;> omega

/-- the cursor lies in block p: it goes over the bytes zs (the first len of them), stands at i, and has come to h; the bytes lie below p -/
def Cur (p : Nat) (a : Option Addr) (len cap : Nat) (zs : List Int) (i : Nat) (h : Int) (w : World) : Prop :=
  w.heap[p]? = some (.cells #[.slice a len cap, .int .i64 i, .int .i64 h] 73 (0, 0)) ∧ i ≤ len ∧
  ∀ t, t < len → ∃ b off, a = some ⟨b, off, none⟩ ∧ b < p ∧ w.cell? ⟨b, off + t, none⟩ = some (.int .u8 (zs.getD t 0))


theorem Cur.size {p : Nat} {a : Option Addr} {len cap : Nat} {zs : List Int} {i : Nat} {h : Int} {w : World} (c : Cur p a len cap zs i h w) : p < w.heap.size := lt_of_block c.1

theorem Cur.below {p : Nat} {a : Option Addr} {len cap : Nat} {zs : List Int} {i : Nat} {h : Int} {w w' : World} (c : Cur p a len cap zs i h w) (b : Below (p + 1) w w') : Cur p a len cap zs i h w' :=
  ⟨(b.block p (by omega)).trans c.1, c.2.1, fun t ht => by
    obtain ⟨bb, off, h1, h2, h3⟩ := c.2.2 t ht
    exact ⟨bb, off, h1, h2, (b.cell (p := ⟨bb, off + t, none⟩) (by show bb < p + 1; omega)).trans h3⟩⟩

/-- one field stored -/
theorem Cur.store {p : Nat} {a : Option Addr} {len cap : Nat} {zs : List Int} {i : Nat} {h : Int} {w : World} (c : Cur p a len cap zs i h w) (m : Int) :
    Cur p a len cap zs i m (w.setCell ⟨p, 2, none⟩ (.int .i64 m)) :=
  ⟨heap_setCell_same w p 2 _ _ _ c.1, c.2.1, fun t ht => by
    obtain ⟨bb, off, h1, h2, h3⟩ := c.2.2 t ht
    exact ⟨bb, off, h1, h2, (((Below.refl p w).setCell (p := ⟨p, 2, none⟩) (Nat.le_refl _) (.int .i64 m)).cell (p := ⟨bb, off + t, none⟩) h2).trans h3⟩⟩

theorem Cur.step {p : Nat} {a : Option Addr} {len cap : Nat} {zs : List Int} {i : Nat} {h : Int} {w : World} (c : Cur p a len cap zs i h w) (j : Nat) (hj : j ≤ len) :
    Cur p a len cap zs j h (w.setCell ⟨p, 1, none⟩ (.int .i64 j)) :=
  ⟨heap_setCell_same w p 1 _ _ _ c.1, hj, fun t ht => by
    obtain ⟨bb, off, h1, h2, h3⟩ := c.2.2 t ht
    exact ⟨bb, off, h1, h2, (((Below.refl p w).setCell (p := ⟨p, 1, none⟩) (Nat.le_refl _) (.int .i64 j)).cell (p := ⟨bb, off + t, none⟩) h2).trans h3⟩⟩

theorem gb_refl (w : World) (r : Option Nat) : w.grownBy w r := ⟨rfl, rfl, rfl, Nat.le_refl _, fun _ _ _ => rfl⟩
theorem gb_trans {w w1 w2 : World} {r : Option Nat} (a : w.grownBy w1 r) (b : w1.grownBy w2 r) : w.grownBy w2 r :=
  ⟨b.os.trans a.os, b.tape.trans a.tape, b.output.trans a.output, Nat.le_trans a.size b.size, fun k hk hn => (b.block k (Nat.lt_of_lt_of_le hk a.size) hn).trans (a.block k hk hn)⟩
theorem gb_set (w : World) (p j : Nat) (v : Value) : w.grownBy (w.setCell ⟨p, j, none⟩ v) (some p) :=
  ⟨rfl, rfl, rfl, by simp [World.setCell], fun k _ hn => Below.heap_setCell _ _ _ _ (fun e => hn (by rw [e]))⟩
theorem gb_drewN {w w1 : World} {r : Option Nat} (a : w.grownBy w1 r) (n : Nat) : w.grownBy (w1.drewN n) r := ⟨a.os, a.tape, a.output, a.size, a.block⟩
theorem gb_drew {w w1 : World} {r : Option Nat} (a : w.grownBy w1 r) : w.grownBy w1.drew r := ⟨a.os, a.tape, a.output, a.size, a.block⟩
theorem gb_below {w w1 w2 : World} {r : Option Nat} (a : w.grownBy w1 r) (b : Below w.heap.size w1 w2) : w.grownBy w2 r :=
  ⟨b.os.trans a.os, b.tape.trans a.tape, b.output.trans a.output, Nat.le_trans a.size b.size, fun k hk hn => (b.block k hk).trans (a.block k hk hn)⟩
theorem below_gb {w w1 : World} {p B : Nat} (a : w.grownBy w1 (some p)) (hB : B ≤ p) (hp : p < w.heap.size) : Below B w w1 :=
  ⟨a.os, a.tape, a.output, a.size, fun k hk => a.block k (by omega) (fun e => by cases e; omega)⟩

theorem Cur.drewN {p : Nat} {a : Option Addr} {len cap : Nat} {zs : List Int} {i : Nat} {h : Int} {w : World} (c : Cur p a len cap zs i h w) (n : Nat) : Cur p a len cap zs i h (w.drewN n) := c

set_option maxRecDepth 100000 in
set_option maxHeartbeats 400000 in
theorem l1Byte_any (p : Nat) (a : Option Addr) (len cap : Nat) (zs : List Int) (i : Nat) (h : Int) (w : World) (ok : CodeOk len zs) (c : Cur p a len cap zs i h w) :
    Calls Try.prog 51 #[.pointer (some ⟨p, 0, none⟩)] w fun e w' => e = .returned (.int .i64 (drawX len zs i h)) ∧ Cur p a len cap zs (drawI len i) (mixH h) w' ∧ w.grownBy w' (some p) := by
  have hlen := ok.1
  have hi := c.2.1
  have c0 := cell_of_row w p 0 _ _ (0, 0) c.1
  have c1 := cell_of_row w p 1 _ _ (0, 0) c.1
  have c2 := cell_of_row w p 2 _ _ (0, 0) c.1
  have f2 := frozen_of_row w p 2 _ _ c.1
  have f1 := frozen_of_row w p 1 _ _ c.1
  simp at c0 c1 c2
  obtain ⟨m, HM⟩ : ∃ m, Hid (m = mixH h) := ⟨_, rfl⟩
  have hm : wrap64 (wrap64 (h * 6364136223846793005) + 1442695040888963407) = m := HM.out.symm
  obtain ⟨x, HX⟩ : ∃ x, Hid (x = mixB m) := ⟨_, rfl⟩
  have hx : bits .and .i64 (bits .xor .i64 (m / 8589934592) (m / 35184372088832)) 255 = x := HX.out.symm
  have hxb : 0 ≤ x ∧ x ≤ 255 := by rw [HX.out]; exact mixB_bd m
  by_cases hlt : i < len
  · obtain ⟨b, off, rfl, hbp, hcz⟩ := c.2.2 i hlt
    have hz := ok.2 i
    have HR : Hid (drawX len zs i h = bits .and .i64 (x + zs.getD i 0) 255 ∧ drawI len i = i + 1) := by
      unfold drawX drawI; rw [if_pos hlt, if_pos hlt, HX.out, HM.out]; exact ⟨rfl, rfl⟩
    obtain ⟨z, HZ⟩ : ∃ z, Hid (z = zs.getD i 0) := ⟨_, rfl⟩
    rw [← HZ.out] at hz hcz HR
    have hne : b ≠ p := by omega
    go_enter Try.func51, Try.ntmps51
    go_wp2
    go_quiet (fail)
    go_wp2
    go_quiet (fail)
    go_wp2
    go_quiet (fail)
    go_wp2
    go_ret
    refine ⟨ret_int (by rw [HR.out.1]), ?_, ?_⟩
    · rw [HR.out.2, ← HM.out]
      exact ((c.store m).drewN _).step (i + 1) (by omega)
    · exact gb_trans (gb_drewN (gb_set w p 2 _) _) (gb_set _ p 1 _)
  · have HR : Hid (drawX len zs i h = x ∧ drawI len i = i) := by
      unfold drawX drawI; rw [if_neg hlt, if_neg hlt, HX.out, HM.out]; exact ⟨rfl, rfl⟩
    go_enter Try.func51, Try.ntmps51
    go_wp2
    go_quiet (fail)
    go_wp2
    go_quiet (fail)
    go_wp2
    go_ret
    refine ⟨ret_int (by rw [HR.out.1]), ?_, ?_⟩
    · rw [HR.out.2, ← HM.out]
      exact ((c.store m).drewN _).drewN _
    · exact gb_drewN (gb_drewN (gb_set w p 2 _) _) _

/-- the cursor in block p stands at s -/
def At (S : Src) (p : Nat) (s : Nat × Int) (w : World) : Prop := Cur p S.a S.len S.cap S.zs s.1 s.2 w
def dX (S : Src) (s : Nat × Int) : Int := drawX S.len S.zs s.1 s.2
def dS (S : Src) (s : Nat × Int) : Nat × Int := (drawI S.len s.1, mixH s.2)

theorem dX_bd (S : Src) (s : Nat × Int) : 0 ≤ dX S s ∧ dX S s ≤ 255 := drawX_bd _ _ _ _

theorem At.below {S : Src} {p : Nat} {s : Nat × Int} {w w' : World} (c : At S p s w) (b : Below (p + 1) w w') : At S p s w' := Cur.below c b
theorem At.size {S : Src} {p : Nat} {s : Nat × Int} {w : World} (c : At S p s w) : p < w.heap.size := Cur.size c

theorem byte_any (S : Src) (ok : S.ok) (p : Nat) (s : Nat × Int) (w : World) (c : At S p s w) :
    Calls Try.prog 51 #[.pointer (some ⟨p, 0, none⟩)] w fun e w' => e = .returned (.int .i64 (dX S s)) ∧ At S p (dS S s) w' ∧ w.grownBy w' (some p) :=
  l1Byte_any p S.a S.len S.cap S.zs s.1 s.2 w ok c

/-- what l1Below draws, and where the cursor stands then -/
def bX (S : Src) (n : Int) (s : Nat × Int) : Int :=
  if n ≤ 0 then 0 else if n ≤ 256 then dX S s % n
  else (dX S s * 16777216 + dX S (dS S s) * 65536 + dX S (dS S (dS S s)) * 256 + dX S (dS S (dS S (dS S s)))) % n
def bS (S : Src) (n : Int) (s : Nat × Int) : Nat × Int :=
  if n ≤ 0 then s else if n ≤ 256 then dS S s else dS S (dS S (dS S (dS S s)))

theorem bX_bd (S : Src) (n : Int) (s : Nat × Int) (h : 0 < n) : 0 ≤ bX S n s ∧ bX S n s < n := by
  unfold bX
  rw [if_neg (by omega)]
  split
  · exact ⟨Int.emod_nonneg _ (by omega), Int.emod_lt_of_pos _ h⟩
  · exact ⟨Int.emod_nonneg _ (by omega), Int.emod_lt_of_pos _ h⟩

set_option maxRecDepth 100000 in
set_option maxHeartbeats 400000 in
theorem below_any (S : Src) (ok : S.ok) (n : Int) (p : Nat) (s : Nat × Int) (w : World) (c : At S p s w) :
    Calls Try.prog 31 #[.pointer (some ⟨p, 0, none⟩), .int .i64 n] w fun e w' => e = .returned (.int .i64 (bX S n s)) ∧ At S p (bS S n s) w' ∧ w.grownBy w' (some p) := by
  by_cases h0 : n ≤ 0
  · have HR : Hid (bX S n s = 0 ∧ bS S n s = s) := by unfold bX bS; rw [if_pos h0, if_pos h0]; exact ⟨rfl, rfl⟩
    go_enter Try.func31, Try.ntmps31
    go_wp2
    go_ret
    exact ⟨ret_int (by rw [HR.out.1]), by rw [HR.out.2]; exact c, gb_refl _ _⟩
  · have hx1 := dX_bd S s
    by_cases h1 : n ≤ 256
    · have HR : Hid (bX S n s = dX S s % n ∧ bS S n s = dS S s) := by unfold bX bS; rw [if_neg h0, if_neg h0, if_pos h1, if_pos h1]; exact ⟨rfl, rfl⟩
      go_enter Try.func31, Try.ntmps31
      go_wp2_with fail
      refine (byte_any S ok p s _ c).mono ?_
      rintro e w1 ⟨rfl, c1, b1⟩
      go_wp2
      go_ret
      exact ⟨ret_int (by rw [HR.out.1]), by rw [HR.out.2]; exact c1, b1⟩
    · have HR : Hid (bX S n s = (dX S s * 16777216 + dX S (dS S s) * 65536 + dX S (dS S (dS S s)) * 256 + dX S (dS S (dS S (dS S s)))) % n ∧ bS S n s = dS S (dS S (dS S (dS S s)))) := by
        unfold bX bS; rw [if_neg h0, if_neg h0, if_neg h1, if_neg h1]; exact ⟨rfl, rfl⟩
      have hx2 := dX_bd S (dS S s)
      have hx3 := dX_bd S (dS S (dS S s))
      have hx4 := dX_bd S (dS S (dS S (dS S s)))
      go_enter Try.func31, Try.ntmps31
      go_wp2_with fail
      refine (byte_any S ok p s _ c).mono ?_
      rintro e w1 ⟨rfl, c1, b1⟩
      go_wp2_with fail
      refine (byte_any S ok p (dS S s) _ c1).mono ?_
      rintro e w2 ⟨rfl, c2, b2⟩
      go_wp2_with fail
      refine (byte_any S ok p (dS S (dS S s)) _ c2).mono ?_
      rintro e w3 ⟨rfl, c3, b3⟩
      go_wp2_with fail
      refine (byte_any S ok p (dS S (dS S (dS S s))) _ c3).mono ?_
      rintro e w4 ⟨rfl, c4, b4⟩
      go_wp2
      go_ret
      exact ⟨ret_int (by rw [HR.out.1]), by rw [HR.out.2]; exact c4, gb_trans (gb_trans (gb_trans b1 b2) b3) b4⟩

end Go.Proofs.Ytkbkanmmpdeokaa
