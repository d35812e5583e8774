/- The bytes that a law is handed. The cursor of the draws: what spec.l1Byte and spec.l1Below do to it. What spec.l1Once, spec.l1PickInt, spec.l1Num and spec.l1Text draw. What spec.l1Text draws, and what spec.l1New makes. -/
import Derived.Test.YtlkemmdcjnaepaaDoorRows
import Derived.Test.YtlkemmdcjnaepaaDoorG00
import Derived.Test.YtlkemmdcjnaepaaDoorG01
import Derived.WalkKit
import Derived.WalkLawsBesides
import Derived.Below
import Derived.WalkSpells
import Derived.Deep.QuietTactic
import Derived.BigQuiet
namespace Go.Proofs.YtlkemmdcjnaepaaDoor

section
open Go.RowKit

/-- the bytes are few, and each is one -/
def CodeOk (len : Nat) (zs : List Int) : Prop := len ≤ 1048576 ∧ ∀ t, 0 ≤ zs.getD t 0 ∧ zs.getD t 0 ≤ 255
/-- the bytes that the cursor goes over -/
structure Src where
  a : Option Addr
  len : Nat
  cap : Nat
  zs : List Int

def Src.ok (S : Src) : Prop := CodeOk S.len S.zs
/-- the bytes lie in memory -/
def Lies (S : Src) (w : World) : Prop := ∀ t, t < S.len → ∃ b off, S.a = some ⟨b, off, none⟩ ∧ w.cell? ⟨b, off + t, none⟩ = some (.int .u8 (S.zs.getD t 0))

theorem Lies.below {S : Src} {w w' : World} (h : Lies S w) (b : Below w.heap.size w w') : Lies S w' := fun t ht => by
  obtain ⟨bb, off, h1, h2⟩ := h t ht
  exact ⟨bb, off, h1, (b.cell (p := ⟨bb, off + t, none⟩) (World.block_lt_of_cell? w _ h2)).trans h2⟩
end

section
open Go.RowKit

theorem and_bd (x : Int) (m : Nat) (hm : m < 9223372036854775808) : 0 ≤ bits .and .i64 x (m : Int) ∧ bits .and .i64 x (m : Int) ≤ m := by
  have e : (BitVec.ofInt 64 (m : Int)).toNat = m := by rw [BitVec.ofInt_natCast, BitVec.toNat_ofNat]; exact Nat.mod_eq_of_lt (by omega)
  have h : (BitVec.ofInt 64 x &&& BitVec.ofInt 64 (m : Int)).toNat ≤ m := by
    rw [BitVec.toNat_and, e]; exact Nat.and_le_right
  show 0 ≤ IntKind.i64.wrap (((BitVec.ofInt 64 x &&& BitVec.ofInt 64 (m : Int)).toNat : Nat) : Int) ∧ IntKind.i64.wrap (((BitVec.ofInt 64 x &&& BitVec.ofInt 64 (m : Int)).toNat : Nat) : Int) ≤ m
  rw [wraps_i64 _ (by omega) (by omega)]
  omega

/-- how the cursor's number goes on -/
def mixH (h : Int) : Int := wrap64 (wrap64 (h * 6364136223846793005) + 1442695040888963407)

/-- the byte that is drawn from the number alone -/
def mixB (m : Int) : Int := bits .and .i64 (bits .xor .i64 (m / 8589934592) (m / 35184372088832)) 255

theorem mixB_bd (m : Int) : 0 ≤ mixB m ∧ mixB m ≤ 255 := and_bd _ 255 (by decide)

/-- the byte that is drawn at i, and where the cursor stands then -/
def drawX (len : Nat) (zs : List Int) (i : Nat) (h : Int) : Int := if i < len then bits .and .i64 (mixB (mixH h) + zs.getD i 0) 255 else mixB (mixH h)
def drawI (len i : Nat) : Nat := if i < len then i + 1 else i

theorem drawX_bd (len : Nat) (zs : List Int) (i : Nat) (h : Int) : 0 ≤ drawX len zs i h ∧ drawX len zs i h ≤ 255 := by
  unfold drawX
  split
  · exact and_bd _ 255 (by decide)
  · exact mixB_bd _

theorem drawI_le (len i : Nat) (h : i ≤ len) : drawI len i ≤ len := by unfold drawI; split <;> omega

/-- the cursor lies in block p: it goes over the bytes zs (the first len of them), stands at i, and has come to h; the bytes lie below p -/
def Cur (p : Nat) (a : Option Addr) (len cap : Nat) (zs : List Int) (i : Nat) (h : Int) (w : World) : Prop :=
  w.heap[p]? = some (.cells #[.slice a len cap, .int .i64 i, .int .i64 h] 62 (0, 0)) ∧ i ≤ len ∧
  ∀ t, t < len → ∃ b off, a = some ⟨b, off, none⟩ ∧ b < p ∧ w.cell? ⟨b, off + t, none⟩ = some (.int .u8 (zs.getD t 0))


theorem Cur.size {p : Nat} {a : Option Addr} {len cap : Nat} {zs : List Int} {i : Nat} {h : Int} {w : World} (c : Cur p a len cap zs i h w) : p < w.heap.size := lt_of_block c.1

theorem Cur.below {p : Nat} {a : Option Addr} {len cap : Nat} {zs : List Int} {i : Nat} {h : Int} {w w' : World} (c : Cur p a len cap zs i h w) (b : Below (p + 1) w w') : Cur p a len cap zs i h w' :=
  ⟨(b.block p (by omega)).trans c.1, c.2.1, fun t ht => by
    obtain ⟨bb, off, h1, h2, h3⟩ := c.2.2 t ht
    exact ⟨bb, off, h1, h2, (b.cell (p := ⟨bb, off + t, none⟩) (by show bb < p + 1; omega)).trans h3⟩⟩

/-- one field stored -/
theorem Cur.store {p : Nat} {a : Option Addr} {len cap : Nat} {zs : List Int} {i : Nat} {h : Int} {w : World} (c : Cur p a len cap zs i h w) (m : Int) :
    Cur p a len cap zs i m (w.setCell ⟨p, 2, none⟩ (.int .i64 m)) :=
  ⟨heap_setCell_same w p 2 _ _ _ c.1, c.2.1, fun t ht => by
    obtain ⟨bb, off, h1, h2, h3⟩ := c.2.2 t ht
    exact ⟨bb, off, h1, h2, (((Below.refl p w).setCell (p := ⟨p, 2, none⟩) (Nat.le_refl _) (.int .i64 m)).cell (p := ⟨bb, off + t, none⟩) h2).trans h3⟩⟩

theorem Cur.step {p : Nat} {a : Option Addr} {len cap : Nat} {zs : List Int} {i : Nat} {h : Int} {w : World} (c : Cur p a len cap zs i h w) (j : Nat) (hj : j ≤ len) :
    Cur p a len cap zs j h (w.setCell ⟨p, 1, none⟩ (.int .i64 j)) :=
  ⟨heap_setCell_same w p 1 _ _ _ c.1, hj, fun t ht => by
    obtain ⟨bb, off, h1, h2, h3⟩ := c.2.2 t ht
    exact ⟨bb, off, h1, h2, (((Below.refl p w).setCell (p := ⟨p, 1, none⟩) (Nat.le_refl _) (.int .i64 j)).cell (p := ⟨bb, off + t, none⟩) h2).trans h3⟩⟩

theorem gb_refl (w : World) (r : Option Nat) : w.grownBy w r := ⟨rfl, rfl, rfl, Nat.le_refl _, fun _ _ _ => rfl⟩
theorem gb_trans {w w1 w2 : World} {r : Option Nat} (a : w.grownBy w1 r) (b : w1.grownBy w2 r) : w.grownBy w2 r :=
  ⟨b.os.trans a.os, b.tape.trans a.tape, b.output.trans a.output, Nat.le_trans a.size b.size, fun k hk hn => (b.block k (Nat.lt_of_lt_of_le hk a.size) hn).trans (a.block k hk hn)⟩
theorem gb_set (w : World) (p j : Nat) (v : Value) : w.grownBy (w.setCell ⟨p, j, none⟩ v) (some p) :=
  ⟨rfl, rfl, rfl, by simp [World.setCell], fun k _ hn => Below.heap_setCell _ _ _ _ (fun e => hn (by rw [e]))⟩
theorem gb_drewN {w w1 : World} {r : Option Nat} (a : w.grownBy w1 r) (n : Nat) : w.grownBy (w1.drewN n) r := ⟨a.os, a.tape, a.output, a.size, a.block⟩
theorem gb_drew {w w1 : World} {r : Option Nat} (a : w.grownBy w1 r) : w.grownBy w1.drew r := ⟨a.os, a.tape, a.output, a.size, a.block⟩
theorem gb_below {w w1 w2 : World} {r : Option Nat} (a : w.grownBy w1 r) (b : Below w.heap.size w1 w2) : w.grownBy w2 r :=
  ⟨b.os.trans a.os, b.tape.trans a.tape, b.output.trans a.output, Nat.le_trans a.size b.size, fun k hk hn => (b.block k hk).trans (a.block k hk hn)⟩
theorem below_gb {w w1 : World} {p B : Nat} (a : w.grownBy w1 (some p)) (hB : B ≤ p) (hp : p < w.heap.size) : Below B w w1 :=
  ⟨a.os, a.tape, a.output, a.size, fun k hk => a.block k (by omega) (fun e => by cases e; omega)⟩

theorem Cur.drewN {p : Nat} {a : Option Addr} {len cap : Nat} {zs : List Int} {i : Nat} {h : Int} {w : World} (c : Cur p a len cap zs i h w) (n : Nat) : Cur p a len cap zs i h (w.drewN n) := c

set_option maxRecDepth 100000 in
set_option maxHeartbeats 400000 in
theorem l1Byte_any (p : Nat) (a : Option Addr) (len cap : Nat) (zs : List Int) (i : Nat) (h : Int) (w : World) (ok : CodeOk len zs) (c : Cur p a len cap zs i h w) :
    Calls Tryd.prog 53 #[.pointer (some ⟨p, 0, none⟩)] w fun e w' => e = .returned (.int .i64 (drawX len zs i h)) ∧ Cur p a len cap zs (drawI len i) (mixH h) w' ∧ w.grownBy w' (some p) := by
  have hlen := ok.1
  have hi := c.2.1
  have c0 := cell_of_row w p 0 _ _ (0, 0) c.1
  have c1 := cell_of_row w p 1 _ _ (0, 0) c.1
  have c2 := cell_of_row w p 2 _ _ (0, 0) c.1
  have f2 := frozen_of_row w p 2 _ _ c.1
  have f1 := frozen_of_row w p 1 _ _ c.1
  simp at c0 c1 c2
  obtain ⟨m, HM⟩ : ∃ m, Hid (m = mixH h) := ⟨_, rfl⟩
  have hm : wrap64 (wrap64 (h * 6364136223846793005) + 1442695040888963407) = m := HM.out.symm
  obtain ⟨x, HX⟩ : ∃ x, Hid (x = mixB m) := ⟨_, rfl⟩
  have hx : bits .and .i64 (bits .xor .i64 (m / 8589934592) (m / 35184372088832)) 255 = x := HX.out.symm
  have hxb : 0 ≤ x ∧ x ≤ 255 := by rw [HX.out]; exact mixB_bd m
  by_cases hlt : i < len
  · obtain ⟨b, off, rfl, hbp, hcz⟩ := c.2.2 i hlt
    have hz := ok.2 i
    have HR : Hid (drawX len zs i h = bits .and .i64 (x + zs.getD i 0) 255 ∧ drawI len i = i + 1) := by
      unfold drawX drawI; rw [if_pos hlt, if_pos hlt, HX.out, HM.out]; exact ⟨rfl, rfl⟩
    obtain ⟨z, HZ⟩ : ∃ z, Hid (z = zs.getD i 0) := ⟨_, rfl⟩
    rw [← HZ.out] at hz hcz HR
    have hne : b ≠ p := by omega
    go_enter Tryd.func53, Tryd.ntmps53
    go_wp2
    go_quiet (fail)
    go_wp2
    go_quiet (fail)
    go_wp2
    go_quiet (fail)
    go_wp2
    go_ret
    refine ⟨ret_int (by rw [HR.out.1]), ?_, ?_⟩
    · rw [HR.out.2, ← HM.out]
      exact ((c.store m).drewN _).step (i + 1) (by omega)
    · exact gb_trans (gb_drewN (gb_set w p 2 _) _) (gb_set _ p 1 _)
  · have HR : Hid (drawX len zs i h = x ∧ drawI len i = i) := by
      unfold drawX drawI; rw [if_neg hlt, if_neg hlt, HX.out, HM.out]; exact ⟨rfl, rfl⟩
    go_enter Tryd.func53, Tryd.ntmps53
    go_wp2
    go_quiet (fail)
    go_wp2
    go_quiet (fail)
    go_wp2
    go_ret
    refine ⟨ret_int (by rw [HR.out.1]), ?_, ?_⟩
    · rw [HR.out.2, ← HM.out]
      exact ((c.store m).drewN _).drewN _
    · exact gb_drewN (gb_drewN (gb_set w p 2 _) _) _

/-- the cursor in block p stands at s -/
def At (S : Src) (p : Nat) (s : Nat × Int) (w : World) : Prop := Cur p S.a S.len S.cap S.zs s.1 s.2 w
def dX (S : Src) (s : Nat × Int) : Int := drawX S.len S.zs s.1 s.2
def dS (S : Src) (s : Nat × Int) : Nat × Int := (drawI S.len s.1, mixH s.2)

theorem dX_bd (S : Src) (s : Nat × Int) : 0 ≤ dX S s ∧ dX S s ≤ 255 := drawX_bd _ _ _ _

theorem At.below {S : Src} {p : Nat} {s : Nat × Int} {w w' : World} (c : At S p s w) (b : Below (p + 1) w w') : At S p s w' := Cur.below c b
theorem At.size {S : Src} {p : Nat} {s : Nat × Int} {w : World} (c : At S p s w) : p < w.heap.size := Cur.size c

theorem byte_any (S : Src) (ok : S.ok) (p : Nat) (s : Nat × Int) (w : World) (c : At S p s w) :
    Calls Tryd.prog 53 #[.pointer (some ⟨p, 0, none⟩)] w fun e w' => e = .returned (.int .i64 (dX S s)) ∧ At S p (dS S s) w' ∧ w.grownBy w' (some p) :=
  l1Byte_any p S.a S.len S.cap S.zs s.1 s.2 w ok c

/-- what l1Below draws, and where the cursor stands then -/
def bX (S : Src) (n : Int) (s : Nat × Int) : Int :=
  if n ≤ 0 then 0 else if n ≤ 256 then dX S s % n
  else (dX S s * 16777216 + dX S (dS S s) * 65536 + dX S (dS S (dS S s)) * 256 + dX S (dS S (dS S (dS S s)))) % n
def bS (S : Src) (n : Int) (s : Nat × Int) : Nat × Int :=
  if n ≤ 0 then s else if n ≤ 256 then dS S s else dS S (dS S (dS S (dS S s)))

theorem bX_bd (S : Src) (n : Int) (s : Nat × Int) (h : 0 < n) : 0 ≤ bX S n s ∧ bX S n s < n := by
  unfold bX
  rw [if_neg (by omega)]
  split
  · exact ⟨Int.emod_nonneg _ (by omega), Int.emod_lt_of_pos _ h⟩
  · exact ⟨Int.emod_nonneg _ (by omega), Int.emod_lt_of_pos _ h⟩

set_option maxRecDepth 100000 in
set_option maxHeartbeats 400000 in
theorem below_any (S : Src) (ok : S.ok) (n : Int) (p : Nat) (s : Nat × Int) (w : World) (c : At S p s w) :
    Calls Tryd.prog 33 #[.pointer (some ⟨p, 0, none⟩), .int .i64 n] w fun e w' => e = .returned (.int .i64 (bX S n s)) ∧ At S p (bS S n s) w' ∧ w.grownBy w' (some p) := by
  by_cases h0 : n ≤ 0
  · have HR : Hid (bX S n s = 0 ∧ bS S n s = s) := by unfold bX bS; rw [if_pos h0, if_pos h0]; exact ⟨rfl, rfl⟩
    go_enter Tryd.func33, Tryd.ntmps33
    go_wp2
    go_ret
    exact ⟨ret_int (by rw [HR.out.1]), by rw [HR.out.2]; exact c, gb_refl _ _⟩
  · have hx1 := dX_bd S s
    by_cases h1 : n ≤ 256
    · have HR : Hid (bX S n s = dX S s % n ∧ bS S n s = dS S s) := by unfold bX bS; rw [if_neg h0, if_neg h0, if_pos h1, if_pos h1]; exact ⟨rfl, rfl⟩
      go_enter Tryd.func33, Tryd.ntmps33
      go_wp2_with fail
      refine (byte_any S ok p s _ c).mono ?_
      rintro e w1 ⟨rfl, c1, b1⟩
      go_wp2
      go_ret
      exact ⟨ret_int (by rw [HR.out.1]), by rw [HR.out.2]; exact c1, b1⟩
    · have HR : Hid (bX S n s = (dX S s * 16777216 + dX S (dS S s) * 65536 + dX S (dS S (dS S s)) * 256 + dX S (dS S (dS S (dS S s)))) % n ∧ bS S n s = dS S (dS S (dS S (dS S s)))) := by
        unfold bX bS; rw [if_neg h0, if_neg h0, if_neg h1, if_neg h1]; exact ⟨rfl, rfl⟩
      have hx2 := dX_bd S (dS S s)
      have hx3 := dX_bd S (dS S (dS S s))
      have hx4 := dX_bd S (dS S (dS S (dS S s)))
      go_enter Tryd.func33, Tryd.ntmps33
      go_wp2_with fail
      refine (byte_any S ok p s _ c).mono ?_
      rintro e w1 ⟨rfl, c1, b1⟩
      go_wp2_with fail
      refine (byte_any S ok p (dS S s) _ c1).mono ?_
      rintro e w2 ⟨rfl, c2, b2⟩
      go_wp2_with fail
      refine (byte_any S ok p (dS S (dS S s)) _ c2).mono ?_
      rintro e w3 ⟨rfl, c3, b3⟩
      go_wp2_with fail
      refine (byte_any S ok p (dS S (dS S (dS S s))) _ c3).mono ?_
      rintro e w4 ⟨rfl, c4, b4⟩
      go_wp2
      go_ret
      exact ⟨ret_int (by rw [HR.out.1]), by rw [HR.out.2]; exact c4, gb_trans (gb_trans (gb_trans b1 b2) b3) b4⟩
end

section
open Go.RowKit

theorem Tryd.infoB : (Tryd.prog.info? 5).map (fun i => (i.zero, i.size, i.bytes)) = some (some (.int .u8 0), 1, 1) := by kernel_rfl

theorem once_any (S : Src) (ok : S.ok) (n : Int) (p : Nat) (s : Nat × Int) (w : World) (c : At S p s w) :
    Calls Tryd.prog 49 #[.pointer (some ⟨p, 0, none⟩), .int .i64 n] w fun e w' => e = .returned (.bool (bX S n s == 0)) ∧ At S p (bS S n s) w' ∧ w.grownBy w' (some p) := by
  go_enter Tryd.func49, Tryd.ntmps49
  go_wp2_with fail
  refine (below_any S ok n p s _ c).mono ?_
  rintro e w1 ⟨rfl, c1, b1⟩
  go_wp2
  go_ret
  exact ⟨rfl, c1, b1⟩

/-- what l1PickInt draws out of L -/
def pX (S : Src) (L : List Int) (s : Nat × Int) : Int := L.getD (bX S L.length s).toNat 0

set_option maxHeartbeats 400000 in
theorem pick_any (S : Src) (ok : S.ok) (L : List Int) (m : Nat) (hm : L.length = m) (g : Nat) (T : TypeId) (p : Nat) (s : Nat × Int) (w : World) (c : At S p s w) (hL : 0 < L.length) (hl : L.length ≤ 1000) (hg : g ≠ p)
    (hc : w.heap[g]? = some (.cells (L.map (Value.int .i64)).toArray T (0, 0))) :
    Calls Tryd.prog 93 #[.pointer (some ⟨p, 0, none⟩), .slice (some ⟨g, 0, none⟩) m m] w fun e w' => e = .returned (.int .i64 (pX S L s)) ∧ At S p (bS S L.length s) w' ∧ w.grownBy w' (some p) := by
  subst hm
  have hb := bX_bd S L.length s (by omega)
  obtain ⟨k, hk⟩ := Int.eq_ofNat_of_zero_le hb.1
  have HP : Hid (pX S L s = L.getD k 0) := by unfold pX; rw [hk, Int.toNat_natCast]; exact rfl
  have HB : Hid (bX S L.length s = k) := hk
  have hkl : k < L.length := by omega
  clear hk hb
  go_enter Tryd.func93, Tryd.ntmps93
  go_wp2_with fail
  refine (below_any S ok L.length p s _ c).mono ?_
  rintro e w1 ⟨rfl, c1, b1⟩
  rw [HB.out]
  have hc1 : w1.heap[g]? = some (.cells (L.map (Value.int .i64)).toArray T (0, 0)) := (b1.block g (lt_of_block hc) (fun e => hg (Option.some.inj e))).trans hc
  have hcell : w1.cell? ⟨g, k, none⟩ = some (.int .i64 (L.getD k 0)) := by
    rw [cell_of_row w1 g k _ _ (0, 0) hc1]
    simp [hkl]
  obtain ⟨z, HZ⟩ : ∃ z, Hid (z = L.getD k 0) := ⟨_, rfl⟩
  rw [← HZ.out] at hcell HP
  clear hc1 hc
  go_wp2
  go_ret
  exact ⟨ret_int (by rw [HP.out]), c1, b1⟩

theorem heap_new (w : World) (o : Obj) : (w.alloc o).heap[w.heap.size]? = some o := by
  show (w.heap.push o)[w.heap.size]? = some o
  rw [Array.getElem?_push_size]

def numList : List Int := [-1, 0, 127, 128, 255, 256, 16383, 16384, 65535, 65536, 562949953421311, 562949953421312, 999999999, 1000000000, -999999999, 9223372036854775807, -9223372036854775808]

/-- what l1Num draws, and where the cursor stands then -/
def nX (S : Src) (s : Nat × Int) : Int :=
  if bX S 8 s = 0 then pX S numList (bS S 8 s)
  else if bX S 8 s = 1 then bX S 1000000000 (bS S 8 s) * bX S 1000000000 (bS S 1000000000 (bS S 8 s))
  else if bX S 8 s = 2 then -bX S 100000 (bS S 8 s)
  else bX S 70000 (bS S 8 s)
def nS (S : Src) (s : Nat × Int) : Nat × Int :=
  if bX S 8 s = 0 then bS S 17 (bS S 8 s)
  else if bX S 8 s = 1 then bS S 1000000000 (bS S 1000000000 (bS S 8 s))
  else if bX S 8 s = 2 then bS S 100000 (bS S 8 s)
  else bS S 70000 (bS S 8 s)

theorem numList_bd : ∀ n ∈ numList, -9223372036854775808 ≤ n ∧ n ≤ 9223372036854775807 := by decide

theorem pX_bd (S : Src) (s : Nat × Int) : -9223372036854775808 ≤ pX S numList s ∧ pX S numList s ≤ 9223372036854775807 := by
  unfold pX
  rw [List.getD_eq_getElem?_getD]
  cases h : numList[(bX S numList.length s).toNat]? with
  | none => simp
  | some v => exact numList_bd v (List.mem_of_getElem? h)

theorem nX_bd (S : Src) (s : Nat × Int) : -9223372036854775808 ≤ nX S s ∧ nX S s ≤ 9223372036854775807 := by
  unfold nX
  have h1 := bX_bd S 1000000000 (bS S 8 s) (by decide)
  have h2 := bX_bd S 1000000000 (bS S 1000000000 (bS S 8 s)) (by decide)
  have h3 := bX_bd S 100000 (bS S 8 s) (by decide)
  have h4 := bX_bd S 70000 (bS S 8 s) (by decide)
  split
  · exact pX_bd S _
  · split
    · have h5 := Int.mul_nonneg h1.1 h2.1
      have h6 : bX S 1000000000 (bS S 8 s) * bX S 1000000000 (bS S 1000000000 (bS S 8 s)) ≤ 1000000000 * 1000000000 := Int.mul_le_mul (by omega) (by omega) h2.1 (by decide)
      omega
    · split <;> omega
end

section
open Go.RowKit

/-- a byte in its style -/
def sty (t b : Int) : Int := if t = 1 then b % 2 else if t = 2 then 97 + b % 4 else b

theorem sty_bd (t b : Int) (h : 0 ≤ b ∧ b ≤ 255) : 0 ≤ sty t b ∧ sty t b ≤ 255 := by unfold sty; split <;> (try split) <;> omega

/-- k bytes drawn in a style, and where the cursor stands then -/
def txL (S : Src) (t : Int) : Nat → Nat × Int → List UInt8
  | 0, _ => []
  | k + 1, s => UInt8.ofNat (sty t (dX S s)).toNat :: txL S t k (dS S s)
def txS (S : Src) : Nat → Nat × Int → Nat × Int
  | 0, s => s
  | k + 1, s => txS S k (dS S s)

theorem txL_length (S : Src) (t : Int) : ∀ k s, (txL S t k s).length = k
  | 0, _ => rfl
  | k + 1, s => by simp [txL, txL_length S t k]

/-- what l1Text draws, and where the cursor stands then -/
def tL (S : Src) (n : Int) (s : Nat × Int) : List UInt8 := txL S (bX S 4 s) (bX S (n + 1) (bS S 4 s)).toNat (bS S (n + 1) (bS S 4 s))
def tS (S : Src) (n : Int) (s : Nat × Int) : Nat × Int := txS S (bX S (n + 1) (bS S 4 s)).toNat (bS S (n + 1) (bS S 4 s))

theorem tL_length (S : Src) (n : Int) (s : Nat × Int) (h : 0 ≤ n) : ((tL S n s).length : Int) ≤ n := by
  unfold tL
  rw [txL_length]
  have := bX_bd S (n + 1) (bS S 4 s) (by omega)
  omega

theorem ownsRow_gb {w w' : World} {base : Nat} {e : TypeId} {size : Nat} {v : Value} {n : Nat} {xs : List Value} {p : Nat} (h : w.ownsRow base e size v n xs) (g : w.grownBy w' (some p)) (hp : p < base) : w'.ownsRow base e size v n xs := by
  refine ⟨h.1, ?_⟩
  rcases h.2 with h1 | ⟨b, cap, cur, h1, h2, h3, h4⟩
  · exact Or.inl h1
  · exact Or.inr ⟨b, cap, cur, h1, h2, (g.block b (lt_of_block h3) (fun e => by have := Option.some.inj e; omega)).trans h3, h4⟩


/-- the number that l1New comes to behind k bytes -/
def hK (len : Nat) (zs : List Int) : Nat → Int
  | 0 => 10101 + len
  | k + 1 => bits .and .i64 (hK len zs k * 131 + zs.getD k 0 + 7) 1073741823

theorem hK_bd (len : Nat) (zs : List Int) (hl : len ≤ 1048576) : ∀ k, 0 ≤ hK len zs k ∧ hK len zs k ≤ 1073741823
  | 0 => by unfold hK; omega
  | k + 1 => and_bd _ 1073741823 (by decide)

/-- where the cursor stands at first -/
def s0 (S : Src) : Nat × Int := (0, hK S.len S.zs (min S.len 4000))

set_option maxRecDepth 100000 in
set_option maxHeartbeats 400000 in
theorem new_any (S : Src) (ok : S.ok) (w : World) (hl : Lies S w) :
    Calls Tryd.prog 32 #[.slice S.a S.len S.cap] w fun e w' => e = .returned (.pointer (some ⟨w.heap.size, 0, none⟩)) ∧ At S w.heap.size (s0 S) w' ∧ Below w.heap.size w w' := by
  obtain ⟨a, len, cap, zs⟩ := S
  have hlen : len ≤ 1048576 := ok.1
  have hzs : ∀ t, 0 ≤ zs.getD t 0 ∧ zs.getD t 0 ≤ 255 := ok.2
  have HC : Hid (∀ t, t < len → ∃ b off, a = some ⟨b, off, none⟩ ∧ w.cell? ⟨b, off + t, none⟩ = some (.int .u8 (zs.getD t 0))) := hl
  have HK := hK_bd len zs hlen
  clear ok hl
  show Calls Tryd.prog 32 #[.slice a len cap] w _
  have hform : len = 0 ∨ ∃ b off, a = some ⟨b, off, none⟩ := by
    by_cases h : len = 0
    · exact Or.inl h
    · obtain ⟨b, off, h1, _⟩ := HC.out 0 (by omega)
      exact Or.inr ⟨b, off, h1⟩
  have fin : ∀ k : Nat, k ≤ len → k ≤ 4000 → ¬ (k < len ∧ k < 4000) → At ⟨a, len, cap, zs⟩ w.heap.size (s0 ⟨a, len, cap, zs⟩) (w.alloc (.cells #[.slice a len cap, .int .i64 0, .int .i64 (hK len zs k)] 62)) := by
    intro k h1 h2 h3
    obtain rfl : k = min len 4000 := by omega
    refine ⟨heap_new _ _, Nat.zero_le _, fun t ht => ?_⟩
    obtain ⟨b, off, h4, h5⟩ := HC.out t ht
    have hb := World.block_lt_of_cell? w _ h5
    exact ⟨b, off, h4, hb, ((Below.refl w.heap.size w).alloc (Nat.le_refl _) _).cell (p := ⟨b, off + t, none⟩) hb |>.trans h5⟩
  have FIN : Hid (∀ k : Nat, k ≤ len → k ≤ 4000 → ¬ (k < len ∧ k < 4000) → At ⟨a, len, cap, zs⟩ w.heap.size (s0 ⟨a, len, cap, zs⟩) (w.alloc (.cells #[.slice a len cap, .int .i64 0, .int .i64 (hK len zs k)] 62))) := fin
  clear fin
  go_enter Tryd.func32, Tryd.ntmps32
  go_wp2
  go_loop [3, 4] (fun v i => ∃ k : Nat, k ≤ len ∧ k ≤ 4000 ∧ i = .int .i64 k ∧ v = .int .i64 (hK len zs k)) (fun _ i => 4000 - (intOf i).toNat)
  case atStart => exact ⟨0, by omega, by omega, rfl, rfl⟩
  case round =>
    obtain ⟨k, hk, hk4, rfl, rfl⟩ := hrel
    by_cases hlt : k < len ∧ k < 4000
    · obtain ⟨h1, h2⟩ := hlt
      obtain ⟨b, off, rfl, hcell⟩ := HC.out k h1
      have hb := HK k
      have hz := hzs k
      have HN : Hid (hK len zs (k + 1) = bits .and .i64 (hK len zs k * 131 + zs.getD k 0 + 7) 1073741823) := rfl
      obtain ⟨z, HZ⟩ : ∃ z, Hid (z = zs.getD k 0) := ⟨_, rfl⟩
      rw [← HZ.out] at hcell hz HN
      clear HK hzs hform
      go_wp2
      go_round
      case rel => exact ⟨k + 1, by omega, by omega, by go_num, by rw [HN.out]⟩
      case measure => simp [intOf]; omega
    · have HF := FIN.out k hk hk4 hlt
      have HF2 : Hid (At ⟨a, len, cap, zs⟩ w.heap.size (s0 ⟨a, len, cap, zs⟩) (w.alloc (.cells #[.slice a len cap, .int .i64 0, .int .i64 (hK len zs k)] 62))) := HF
      have hex : ¬ k < len ∨ (k < len ∧ ¬ k < 4000) := by omega
      clear HF hlt HK hzs hform
      rcases hex with hx | ⟨hx, hx2⟩
      all_goals
        go_wp2
        go_ret
        exact ⟨rfl, HF2.out, (Below.refl _ _).alloc (Nat.le_refl _) _⟩
end

end Go.Proofs.YtlkemmdcjnaepaaDoor
