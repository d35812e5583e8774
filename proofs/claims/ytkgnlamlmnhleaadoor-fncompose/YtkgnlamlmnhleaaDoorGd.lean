/- Sums: what eight halvings of a number make, and two look-ups in a table of sixteen. No word of the program. spec.Crc: its contract. impl.Crc: the running sum behind a pointer, its two look-ups a byte, and its contract. The table of sums; the sum of a text. Names: what a name is known by: KeyOf, Alike, HashOf on both sides: what they answer. Names: what the program's own tables and the library's hold when a call begins: their cells. -/
import Derived.Test.YtkgnlamlmnhleaaDoorNum
import Derived.Test.YtkgnlamlmnhleaaDoorRows
import Derived.Test.YtkgnlamlmnhleaaDoorNmO
import Derived.Test.YtkgnlamlmnhleaaDoorEnc
import Derived.Test.YtkgnlamlmnhleaaDoorIEnc
import Derived.Test.YtkgnlamlmnhleaaDoorApt
import Derived.Test.YtkgnlamlmnhleaaDoorGc
import Derived.Test.YtkgnlamlmnhleaaDoorGa
import Derived.Laws.BitsAllLaws
import Derived.WalkKit
import Derived.WalkSpells
import Derived.WalkLawsBesides
import Derived.RegionTactic
import Derived.ChangeAlike
import Derived.Deep.QuietTactic
import Derived.BigQuiet
import Derived.Below
import Derived.Lib.LaidTab
import Derived.Lib.LaidU8
import Derived.Lib.LaidU8T
namespace Go.Proofs.YtkgnlamlmnhleaaDoor

section
open Go.RowKit

theorem xor_i64 (a b : Nat) (ha : a < 4294967296) (hb : b < 4294967296) : bits .xor .i64 (a : Int) (b : Int) = ((a ^^^ b : Nat) : Int) := by
  have hx : a ^^^ b < 2 ^ 32 := Nat.xor_lt_two_pow (by omega) (by omega)
  have e : ∀ m : Nat, m < 4294967296 → (BitVec.ofInt 64 (m : Int)).toNat = m := fun m hm => by
    rw [BitVec.ofInt_natCast, BitVec.toNat_ofNat]; exact Nat.mod_eq_of_lt (by omega)
  show IntKind.i64.wrap (((BitVec.ofInt 64 (a : Int) ^^^ BitVec.ofInt 64 (b : Int)).toNat : Nat) : Int) = _
  rw [BitVec.toNat_xor, e a ha, e b hb, wraps_i64 _ (by omega) (by omega)]

/-- one halving -/
def hv (c : Nat) : Nat := if c % 2 = 1 then c / 2 ^^^ 2197175160 else c / 2

theorem hv_lt (c : Nat) (h : c < 4294967296) : hv c < 4294967296 := by
  unfold hv
  split
  · have := Nat.xor_lt_two_pow (x := c / 2) (y := 2197175160) (n := 32) (by omega) (by omega)
    omega
  · omega

/-- k halvings -/
def hvN : Nat → Nat → Nat
  | 0, c => c
  | k + 1, c => hv (hvN k c)

theorem hvN_lt (k c : Nat) (h : c < 4294967296) : hvN k c < 4294967296 := by
  induction k with
  | zero => exact h
  | succ k ih => exact hv_lt _ ih

theorem hvN_add (j k c : Nat) : hvN (j + k) c = hvN j (hvN k c) := by
  induction j with
  | zero => rw [Nat.zero_add]; rfl
  | succ j ih => rw [Nat.succ_add]; show hv _ = hv _; rw [ih]

theorem xor_mod2 (a b : Nat) : (a ^^^ b) % 2 = (a % 2 ^^^ b % 2) := by
  have := Nat.xor_mod_two_pow (a := a) (b := b) (n := 1)
  simpa using this

theorem xor_div2 (a b : Nat) : (a ^^^ b) / 2 = (a / 2 ^^^ b / 2) := by
  have := Nat.xor_div_two_pow (a := a) (b := b) (n := 1)
  simpa using this

theorem hv_xor (a b : Nat) : hv (a ^^^ b) = hv a ^^^ hv b := by
  unfold hv
  rw [xor_mod2, xor_div2]
  rcases Nat.mod_two_eq_zero_or_one a with ha | ha <;> rcases Nat.mod_two_eq_zero_or_one b with hb | hb <;> rw [ha, hb]
  · rfl
  · simp [Nat.xor_assoc]
  · have : (a / 2 ^^^ b / 2) ^^^ 2197175160 = (a / 2 ^^^ 2197175160) ^^^ b / 2 := by rw [Nat.xor_assoc, Nat.xor_comm (b / 2), ← Nat.xor_assoc]
    simpa using this
  · have : (a / 2 ^^^ 2197175160 ^^^ (b / 2 ^^^ 2197175160)) = a / 2 ^^^ b / 2 := by
      rw [Nat.xor_comm (b / 2), ← Nat.xor_assoc, Nat.xor_assoc (a / 2), Nat.xor_self, Nat.xor_zero]
    simp [this]

theorem hvN_xor (k a b : Nat) : hvN k (a ^^^ b) = hvN k a ^^^ hvN k b := by
  induction k with
  | zero => rfl
  | succ k ih => show hv _ = hv _ ^^^ hv _; rw [ih, hv_xor]

theorem hv_two (q : Nat) : hv (2 * q) = q := by unfold hv; rw [if_neg (by omega)]; omega

theorem hvN_16 (q : Nat) : hvN 4 (16 * q) = q := by
  show hv (hv (hv (hv (16 * q)))) = q
  rw [show 16 * q = 2 * (2 * (2 * (2 * q))) by omega, hv_two, hv_two, hv_two, hv_two]

theorem split_16 (c : Nat) : c = (16 * (c / 16)) ^^^ (c % 16) := by
  have h1 : (16 * (c / 16) ^^^ c % 16) / 16 = c / 16 := by
    have := Nat.xor_div_two_pow (a := 16 * (c / 16)) (b := c % 16) (n := 4)
    simp only [Nat.reducePow] at this
    rw [this, Nat.mul_div_cancel_left _ (by decide), Nat.div_eq_of_lt (Nat.mod_lt c (by decide : 16 > 0)), Nat.xor_zero]
  have h2 : (16 * (c / 16) ^^^ c % 16) % 16 = c % 16 := by
    have := Nat.xor_mod_two_pow (a := 16 * (c / 16)) (b := c % 16) (n := 4)
    simp only [Nat.reducePow] at this
    rw [this, Nat.mul_mod_right, Nat.zero_xor, Nat.mod_mod]
  have := Nat.div_add_mod (16 * (c / 16) ^^^ c % 16) 16
  rw [h1, h2] at this
  omega

/-- the table of sixteen -/
def tab16 : List Int := [0, 274646895, 549293790, 820201905, 1098587580, 1361435347, 1640403810, 1905808397, 2197175160, 2460548119, 2722870694, 2987750089, 3280807620, 3553878443, 3811616794, 4084100981]

theorem tab16_all : ∀ i, i < 16 → tab16.getD i 0 = ((hvN 4 i : Nat) : Int) := by decide

theorem tab16_len : tab16.length = 16 := rfl

theorem hvN_half (c : Nat) : hvN 4 c = c / 16 ^^^ hvN 4 (c % 16) := by
  conv => lhs; rw [split_16 c]
  rw [hvN_xor, hvN_16]

theorem hvN_byte (c b : Nat) : hvN 8 (c ^^^ b) = hvN 4 (hvN 4 (c ^^^ b)) := hvN_add 4 4 _

/-- the sum over the first n bytes -/
def crcN (s : ByteArray) : Nat → Nat
  | 0 => 4294967295
  | n + 1 => hvN 8 (crcN s n ^^^ (s.data.getD n 0).toNat)

theorem xor_byte_lt (c b : Nat) (h : c < 4294967296) (hb : b < 256) : c ^^^ b < 4294967296 := by
  have := Nat.xor_lt_two_pow (x := c) (y := b) (n := 32) (by omega) (by omega)
  omega

theorem byte_lt (x : UInt8) : x.toNat < 256 := x.toNat_lt

theorem crcN_lt (s : ByteArray) (n : Nat) : crcN s n < 4294967296 := by
  induction n with
  | zero => show 4294967295 < 4294967296; omega
  | succ n ih => exact hvN_lt _ _ (xor_byte_lt _ _ ih (byte_lt _))
end

section
open Go.RowKit

theorem crcN_succ (s : ByteArray) (k : Nat) (h : k < s.size) : crcN s (k + 1) = hvN 8 (crcN s k ^^^ s[k].toNat) := by
  show hvN 8 (crcN s k ^^^ (s.data.getD k 0).toNat) = _
  have : s.data.getD k 0 = s[k] := by
    have h' : k < s.data.size := h
    rw [Array.getD, dif_pos h']; rfl
  rw [this]
end

section
open Go.RowKit

theorem gb_refl (w : World) (r : Option Nat) : w.grownBy w r := ⟨rfl, rfl, rfl, Nat.le_refl _, fun _ _ _ => rfl⟩
theorem gb_trans {w w1 w2 : World} {r : Option Nat} (a : w.grownBy w1 r) (b : w1.grownBy w2 r) : w.grownBy w2 r :=
  ⟨b.os.trans a.os, b.tape.trans a.tape, b.output.trans a.output, Nat.le_trans a.size b.size, fun k hk hn => (b.block k (Nat.lt_of_lt_of_le hk a.size) hn).trans (a.block k hk hn)⟩
theorem gb_set (w : World) (p j : Nat) (v : Value) : w.grownBy (w.setCell ⟨p, j, none⟩ v) (some p) :=
  ⟨rfl, rfl, rfl, by simp [World.setCell], fun k _ hn => Below.heap_setCell _ _ _ _ (fun e => hn (by rw [e]))⟩
theorem gb_drewN {w w1 : World} {r : Option Nat} (a : w.grownBy w1 r) (n : Nat) : w.grownBy (w1.drewN n) r := ⟨a.os, a.tape, a.output, a.size, a.block⟩

theorem gb_drew {w w1 : World} {r : Option Nat} (a : w.grownBy w1 r) : w.grownBy w1.drew r := ⟨a.os, a.tape, a.output, a.size, a.block⟩
theorem below_gb {w w1 : World} {p B : Nat} (a : w.grownBy w1 (some p)) (hB : B ≤ p) (hp : p < w.heap.size) : Below B w w1 :=
  ⟨a.os, a.tape, a.output, a.size, fun k hk => a.block k (by omega) (fun e => by cases e; omega)⟩








theorem heap_new (w : World) (o : Obj) : (w.alloc o).heap[w.heap.size]? = some o := by
  show (w.heap.push o)[w.heap.size]? = some o
  rw [Array.getElem?_push_size]
end

section
open Go.RowKit




def crcV (s : ByteArray) : Int := 4294967295 - (crcN s s.size : Int)
theorem crcV_in (s : ByteArray) : 0 ≤ crcV s ∧ crcV s ≤ 4294967295 := by unfold crcV; have := crcN_lt s s.size; omega
end

section
open Go.RowKit

theorem apart_len (l : List Int) : (apartN l).length ≤ 9 * l.length := by
  have := takes_len l
  unfold apartN srtN
  rw [List.length_reverse, srtR_len]
  simp only [List.length_nil]; omega
theorem nameL_some {s : ByteArray} {l : List Int} (h : nameL s = some l) : decN s = some l ∧ l.length ≤ 24 ∧ l.all knB = true := by
  unfold nameL at h
  split at h
  · rename_i hc
    simp only [Bool.and_eq_true] at hc
    have hb := inB_le hc.1.1
    have hd := decN_len s
    cases hd' : decN s with
    | none => rw [hd'] at h; cases h
    | some m =>
      rw [hd'] at h hd
      cases hk : m.all knB
      · simp [hk] at h
      · simp [hk] at h
        subst h
        refine ⟨rfl, ?_, hk⟩
        simp at hd; omega
  · cases h

/-- what a name is known by -/
def keyN (s : ByteArray) : ByteArray × Bool := match nameL s with
  | some l => (⟨(encN (keyL l)).toArray⟩, true)
  | none => (⟨#[]⟩, false)
theorem keyN_none {s : ByteArray} (h : nameL s = none) : keyN s = (⟨#[]⟩, false) := by unfold keyN; rw [h]
theorem keyN_some {s : ByteArray} {l : List Int} (h : nameL s = some l) : keyN s = (⟨(encN (keyL l)).toArray⟩, true) := by unfold keyN; rw [h]
theorem keyN_is (s : ByteArray) : (keyN s).2 = (nameL s).isSome := by
  cases h : nameL s with
  | none => rw [keyN_none h]; rfl
  | some l => rw [keyN_some h]; rfl
theorem keyN_size (s : ByteArray) : (keyN s).1.size ≤ 1048576 := by
  cases h : nameL s with
  | none => rw [keyN_none h]; show (#[] : Array UInt8).size ≤ _; simp
  | some l =>
    rw [keyN_some h]
    have hl := (nameL_some h).2.1
    show (encN (keyL l)).toArray.size ≤ _
    have h1 := encs_len (keyL l)
    have h2 := apart_len (foldsN (apartN l))
    have h3 := folds_len (apartN l)
    have h4 := apart_len l
    unfold encN
    split
    · simp only [List.size_toArray]
      unfold keyL at h1 ⊢
      omega
    · simp

set_option maxRecDepth 100000 in
set_option maxHeartbeats 1000000 in
theorem iKeyOf (s : ByteArray) (w : World) (hT : Tabs w) (hs : s.size ≤ 1048576) :
    Calls Tryd.prog 33 #[.string s] w fun e w' => e = .returned (.tuple #[.string (keyN s).1, .bool (keyN s).2]) ∧ Below w.heap.size w w' := by
  have HS := nameSigns_any s w hT hs
  cases hn : nameL s with
  | none =>
    rw [keyN_none hn]
    rw [hn] at HS
    go_enter Tryd.func33, Tryd.ntmps33
    go_wp2_with (go_at_call 46; refine HS.mono ?_; rintro e w1 ⟨v, rfl, r1, b1⟩)
    go_ret2
    exact ⟨rfl, b1⟩
  | some l =>
    rw [keyN_some hn]
    rw [hn] at HS
    obtain ⟨_, hl, _⟩ := nameL_some hn
    have h4 := apart_len l
    have h3 := folds_len (apartN l)
    have h2 := apart_len (foldsN (apartN l))
    have A1 := fun v w' h => iApart v l w' h (by omega)
    have F1 := fun v w' h => iFold v (apartN l) w' h (by omega)
    have A2 := fun v w' h => iApart v (foldsN (apartN l)) w' h (by omega)
    have E1 := fun v w' h => iEncode v (keyL l) w' (by unfold keyL; omega) h
    have HK : Hid (apartN (foldsN (apartN l)) = keyL l) := rfl
    rw [HK.out] at A2
    generalize (⟨(encN (keyL l)).toArray⟩ : ByteArray) = key at E1 ⊢
    generalize keyL l = kl at A2 E1
    generalize foldsN (apartN l) = fl at F1 A2
    generalize apartN l = al at A1 F1
    clear h2 h3 h4 HK
    go_enter Tryd.func33, Tryd.ntmps33
    go_wp2_with fail
    refine HS.mono ?_
    rintro e w1 ⟨v1, rfl, r1, b1⟩
    go_wp2_with fail
    refine (A1 v1 w1 r1.at).mono ?_
    rintro e w2 ⟨v2, rfl, r2, b2⟩
    have D2 : Below w.heap.size w w2 := b1.trans (b2.mono b1.size)
    go_wp2_with fail
    refine (F1 v2 w2 r2.at).mono ?_
    rintro e w3 ⟨v3, rfl, r3, b3⟩
    have D3 : Below w.heap.size w w3 := D2.trans (b3.mono D2.size)
    go_wp2_with fail
    refine (A2 v3 w3 r3.at).mono ?_
    rintro e w4 ⟨v4, rfl, r4, b4⟩
    have D4 : Below w.heap.size w w4 := D3.trans (b4.mono D3.size)
    go_wp2_with fail
    refine (E1 v4 w4 r4.at).mono ?_
    rintro e w5 ⟨rfl, b5⟩
    go_wp2
    go_ret2
    exact ⟨rfl, D4.trans (b5.mono D4.size)⟩


/-- are two names one? -/
def alikeB (a b : ByteArray) : Bool := (keyN a).2 && (keyN b).2 && ((keyN a).1.toList == (keyN b).1.toList)

set_option maxRecDepth 100000 in
set_option maxHeartbeats 1000000 in
theorem iAlike (a b : ByteArray) (w : World) (hT : Tabs w) (ha : a.size ≤ 1048576) (hb : b.size ≤ 1048576) :
    Calls Tryd.prog 16 #[.string a, .string b] w fun e w' => e = .returned (.bool (alikeB a b)) ∧ Below w.heap.size w w' := by
  have K1 := iKeyOf a w hT ha
  have K2 : ∀ w', Below w.heap.size w w' → _ := fun w' hb' => iKeyOf b w' (hT.below hb') hb
  have HR : Hid (alikeB a b = ((keyN a).2 && (keyN b).2 && ((keyN a).1.toList == (keyN b).1.toList))) := rfl
  generalize alikeB a b = r at HR ⊢
  generalize (keyN a).2 = p at *
  generalize (keyN b).2 = q at *
  generalize (keyN a).1 = x at *
  generalize (keyN b).1 = y at *
  clear hT
  go_enter Tryd.func16, Tryd.ntmps16
  go_wp2_with fail
  refine K1.mono ?_
  rintro e w1 ⟨rfl, b1⟩
  go_wp2_with fail
  refine (K2 w1 b1).mono ?_
  rintro e w2 ⟨rfl, b2⟩
  have D2 : Below w.heap.size w w2 := b1.trans (b2.mono b1.size)
  cases p
  · go_wp2
    go_ret
    exact ⟨by rw [HR.out]; rfl, D2⟩
  · cases q
    · go_wp2
      go_ret
      exact ⟨by rw [HR.out]; rfl, D2⟩
    · go_wp2
      go_ret
      exact ⟨by rw [HR.out]; rfl, D2⟩


def hashN (s : ByteArray) : Int := if (keyN s).2 then (crcV (keyN s).1).tmod 16 else -1
end

section
open Go.RowKit

theorem kn_gTab : Tryd.prog.globalNamed "loop.example/g00773/impl.knownSigns" = some 2 := by kernel_rfl
theorem kn_tTab : (Tryd.prog.globals[2]?).map (·.type) = some 102 := by kernel_rfl
theorem kn_cellsE : Tryd.prog.cellsOf 3 = 1 := by kernel_rfl
theorem kn_cellsR : Tryd.prog.cellsOf 101 = 2 := by kernel_rfl
theorem kn_datum : Rows.laid_loop_example_g00773_impl_knownSigns (H := Unit) = .agg ((List.range 27).map fun i => .agg ([ikT.getD (2 * i) 0, ikT.getD (2 * i + 1) 0].map fun z => .lit (.int .i64 z))) := by rfl

theorem kn_of {W : World} (hr : Lib.VarReads Tryd.prog W "loop.example/g00773/impl.knownSigns" Rows.laid_loop_example_g00773_impl_knownSigns) : ∀ i, i < 54 → W.cell? ⟨2, i, none⟩ = some (.int .i64 (ikT.getD i 0)) := by
  obtain ⟨g, t, cs, fuel, p, hg, hty, hvar, hd⟩ := hr
  obtain rfl := Option.some.inj (kn_gTab.symm.trans hg)
  obtain rfl := Option.some.inj (kn_tTab.symm.trans hty)
  rw [kn_datum] at hd
  have key : ∀ i, i < 27 → W.cell? ⟨2, 2 * i, none⟩ = some (.int .i64 (ikT.getD (2 * i) 0)) ∧ W.cell? ⟨2, 2 * i + 1, none⟩ = some (.int .i64 (ikT.getD (2 * i + 1) 0)) := by
    intro i hi
    obtain ⟨fuel', d, q, hdi, he⟩ := Lib.array_elem Tryd.underlying102 hd i hi
    simp only [List.getElem?_map, List.getElem?_range hi, Option.map_some, Option.some.injEq] at hdi
    subst hdi
    rw [kn_cellsR] at he
    have hcs := Lib.ints_of_struct Tryd.underlying101 (fun j f hj => by
      match j, hj with
      | 0, hj => simp at hj; subst hj; exact ⟨Tryd.underlying3, rfl, kn_cellsE⟩
      | 1, hj => simp at hj; subst hj; exact ⟨Tryd.underlying3, rfl, kn_cellsE⟩
      | j + 2, hj => simp at hj) (by rw [kn_cellsR]; rfl) he
    have e0 := congrArg (·[0]?) hcs
    have e1 := congrArg (·[1]?) hcs
    simp only [List.getElem?_take, List.getElem?_drop] at e0 e1
    constructor
    · rw [World.var?_cell hg hvar (2 * i), ← Array.getElem?_toList]
      simpa [Nat.mul_comm] using e0
    · rw [World.var?_cell hg hvar (2 * i + 1), ← Array.getElem?_toList]
      simpa [Nat.mul_comm] using e1
  intro i hi
  obtain ⟨k, rfl | rfl⟩ : ∃ k, i = 2 * k ∨ i = 2 * k + 1 := ⟨i / 2, by omega⟩
  · exact (key k (by omega)).1
  · exact (key k (by omega)).2

theorem u8_extra : U8Extra Tryd.prog Tryd.laysValid_ren := ⟨by kernel_rfl, by kernel_rfl, by kernel_rfl, by kernel_rfl, by kernel_rfl, by kernel_rfl, by kernel_rfl⟩
theorem u8_accept : Rows.laid_unicode_utf8_acceptRanges (H := Unit) = Lib.acceptData := by rfl
theorem u8_first : Rows.laid_unicode_utf8_first = Lib.firstData := by kernel_rfl
theorem tabs_of {W : World} (h4 : Lib.VarReads Tryd.prog W "unicode/utf8.acceptRanges" Rows.laid_unicode_utf8_acceptRanges) (hk : Lib.VarReads Tryd.prog W "loop.example/g00773/impl.knownSigns" Rows.laid_loop_example_g00773_impl_knownSigns) (h3 : Lib.VarReads Tryd.prog W "unicode/utf8.first" Rows.laid_unicode_utf8_first) : Tabs W := by
  rw [u8_accept] at h4
  rw [u8_first] at h3
  exact ⟨kn_of hk, utf8Tabs_of_readsT (U8Types.of196 Tryd.laysValid) u8_extra h3 h4⟩
end

end Go.Proofs.YtkgnlamlmnhleaaDoor
