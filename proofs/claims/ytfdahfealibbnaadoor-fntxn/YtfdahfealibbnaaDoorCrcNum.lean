/- Sums: what eight halvings of a number make, and two look-ups in a table of sixteen. No word of the program. -/
import Derived.Test.YtfdahfealibbnaaDoorNum
import Derived.Laws.BitsAllLaws
namespace Go.Proofs.YtfdahfealibbnaaDoor
open Go.RowKit

theorem xor_i64 (a b : Nat) (ha : a < 4294967296) (hb : b < 4294967296) : bits .xor .i64 (a : Int) (b : Int) = ((a ^^^ b : Nat) : Int) := by
  have hx : a ^^^ b < 2 ^ 32 := Nat.xor_lt_two_pow (by omega) (by omega)
  have e : ∀ m : Nat, m < 4294967296 → (BitVec.ofInt 64 (m : Int)).toNat = m := fun m hm => by
    rw [BitVec.ofInt_natCast, BitVec.toNat_ofNat]; exact Nat.mod_eq_of_lt (by omega)
  show IntKind.i64.wrap (((BitVec.ofInt 64 (a : Int) ^^^ BitVec.ofInt 64 (b : Int)).toNat : Nat) : Int) = _
  rw [BitVec.toNat_xor, e a ha, e b hb, wraps_i64 _ (by omega) (by omega)]

/-- one halving -/
def hv (c : Nat) : Nat := if c % 2 = 1 then c / 2 ^^^ 2197175160 else c / 2

theorem hv_lt (c : Nat) (h : c < 4294967296) : hv c < 4294967296 := by
  unfold hv
  split
  · have := Nat.xor_lt_two_pow (x := c / 2) (y := 2197175160) (n := 32) (by omega) (by omega)
    omega
  · omega

/-- k halvings -/
def hvN : Nat → Nat → Nat
  | 0, c => c
  | k + 1, c => hv (hvN k c)

theorem hvN_lt (k c : Nat) (h : c < 4294967296) : hvN k c < 4294967296 := by
  induction k with
  | zero => exact h
  | succ k ih => exact hv_lt _ ih

theorem hvN_add (j k c : Nat) : hvN (j + k) c = hvN j (hvN k c) := by
  induction j with
  | zero => rw [Nat.zero_add]; rfl
  | succ j ih => rw [Nat.succ_add]; show hv _ = hv _; rw [ih]

theorem xor_mod2 (a b : Nat) : (a ^^^ b) % 2 = (a % 2 ^^^ b % 2) := by
  have := Nat.xor_mod_two_pow (a := a) (b := b) (n := 1)
  simpa using this

theorem xor_div2 (a b : Nat) : (a ^^^ b) / 2 = (a / 2 ^^^ b / 2) := by
  have := Nat.xor_div_two_pow (a := a) (b := b) (n := 1)
  simpa using this

theorem hv_xor (a b : Nat) : hv (a ^^^ b) = hv a ^^^ hv b := by
  unfold hv
  rw [xor_mod2, xor_div2]
  rcases Nat.mod_two_eq_zero_or_one a with ha | ha <;> rcases Nat.mod_two_eq_zero_or_one b with hb | hb <;> rw [ha, hb]
  · rfl
  · simp [Nat.xor_assoc]
  · have : (a / 2 ^^^ b / 2) ^^^ 2197175160 = (a / 2 ^^^ 2197175160) ^^^ b / 2 := by rw [Nat.xor_assoc, Nat.xor_comm (b / 2), ← Nat.xor_assoc]
    simpa using this
  · have : (a / 2 ^^^ 2197175160 ^^^ (b / 2 ^^^ 2197175160)) = a / 2 ^^^ b / 2 := by
      rw [Nat.xor_comm (b / 2), ← Nat.xor_assoc, Nat.xor_assoc (a / 2), Nat.xor_self, Nat.xor_zero]
    simp [this]

theorem hvN_xor (k a b : Nat) : hvN k (a ^^^ b) = hvN k a ^^^ hvN k b := by
  induction k with
  | zero => rfl
  | succ k ih => show hv _ = hv _ ^^^ hv _; rw [ih, hv_xor]

theorem hv_two (q : Nat) : hv (2 * q) = q := by unfold hv; rw [if_neg (by omega)]; omega

theorem hvN_16 (q : Nat) : hvN 4 (16 * q) = q := by
  show hv (hv (hv (hv (16 * q)))) = q
  rw [show 16 * q = 2 * (2 * (2 * (2 * q))) by omega, hv_two, hv_two, hv_two, hv_two]

theorem split_16 (c : Nat) : c = (16 * (c / 16)) ^^^ (c % 16) := by
  have h1 : (16 * (c / 16) ^^^ c % 16) / 16 = c / 16 := by
    have := Nat.xor_div_two_pow (a := 16 * (c / 16)) (b := c % 16) (n := 4)
    simp only [Nat.reducePow] at this
    rw [this, Nat.mul_div_cancel_left _ (by decide), Nat.div_eq_of_lt (Nat.mod_lt c (by decide : 16 > 0)), Nat.xor_zero]
  have h2 : (16 * (c / 16) ^^^ c % 16) % 16 = c % 16 := by
    have := Nat.xor_mod_two_pow (a := 16 * (c / 16)) (b := c % 16) (n := 4)
    simp only [Nat.reducePow] at this
    rw [this, Nat.mul_mod_right, Nat.zero_xor, Nat.mod_mod]
  have := Nat.div_add_mod (16 * (c / 16) ^^^ c % 16) 16
  rw [h1, h2] at this
  omega

/-- the table of sixteen -/
def tab16 : List Int := [0, 274646895, 549293790, 820201905, 1098587580, 1361435347, 1640403810, 1905808397, 2197175160, 2460548119, 2722870694, 2987750089, 3280807620, 3553878443, 3811616794, 4084100981]

theorem tab16_all : ∀ i, i < 16 → tab16.getD i 0 = ((hvN 4 i : Nat) : Int) := by decide

theorem tab16_len : tab16.length = 16 := rfl

theorem hvN_half (c : Nat) : hvN 4 c = c / 16 ^^^ hvN 4 (c % 16) := by
  conv => lhs; rw [split_16 c]
  rw [hvN_xor, hvN_16]

theorem hvN_byte (c b : Nat) : hvN 8 (c ^^^ b) = hvN 4 (hvN 4 (c ^^^ b)) := hvN_add 4 4 _

/-- the sum over the first n bytes -/
def crcN (s : ByteArray) : Nat → Nat
  | 0 => 4294967295
  | n + 1 => hvN 8 (crcN s n ^^^ (s.data.getD n 0).toNat)

theorem xor_byte_lt (c b : Nat) (h : c < 4294967296) (hb : b < 256) : c ^^^ b < 4294967296 := by
  have := Nat.xor_lt_two_pow (x := c) (y := b) (n := 32) (by omega) (by omega)
  omega

theorem byte_lt (x : UInt8) : x.toNat < 256 := x.toNat_lt

theorem crcN_lt (s : ByteArray) (n : Nat) : crcN s n < 4294967296 := by
  induction n with
  | zero => show 4294967295 < 4294967296; omega
  | succ n ih => exact hvN_lt _ _ (xor_byte_lt _ _ ih (byte_lt _))

end Go.Proofs.YtfdahfealibbnaaDoor
