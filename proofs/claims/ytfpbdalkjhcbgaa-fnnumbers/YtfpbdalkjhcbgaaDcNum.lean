/- Plain facts on decimal digits. -/
import Derived.WalkKit
import Derived.Test.YtfpbdalkjhcbgaaNum
namespace Go.Proofs.Ytfpbdalkjhcbgaa
open Go.RowKit

def dig (a : Nat) : UInt8 := UInt8.ofNat (48 + a % 10)

theorem dig_val (a : Nat) : ((dig a).toNat : Int) = 48 + (a : Int) % 10 := by unfold dig; simp; omega

theorem dig_of (a : Nat) : UInt8.ofNat (48 + (a : Int) % 10).toNat = dig a := by unfold dig; congr 1

/-- the decimal digits of a, of which there are at most f + 1 -/
def dp : Nat → Nat → List UInt8
  | 0, a => [dig a]
  | f + 1, a => if a < 10 then [dig a] else dp f (a / 10) ++ [dig a]

theorem dp_small (f a : Nat) (h : a < 10) : dp f a = [dig a] := by
  cases f
  · rfl
  · simp [dp, h]

theorem dp_great (f a : Nat) (h : 10 ≤ a) : dp (f + 1) a = dp f (a / 10) ++ [dig a] := by
  rw [dp, if_neg (by omega)]

def fits10 (f a : Nat) : Prop := a < 10 ^ (f + 1)

theorem fits10_step (f a : Nat) (h : fits10 f a) (ha : 10 ≤ a) : ∃ g, f = g + 1 ∧ fits10 g (a / 10) := by
  cases f with
  | zero => unfold fits10 at h; omega
  | succ g =>
    refine ⟨g, rfl, ?_⟩
    unfold fits10 at h ⊢
    rw [Nat.pow_succ] at h
    exact Nat.div_lt_of_lt_mul (by rw [Nat.mul_comm]; exact h)

theorem dp_length : ∀ f a, 1 ≤ (dp f a).length ∧ (dp f a).length ≤ f + 1
  | 0, _ => by simp [dp]
  | f + 1, a => by
    have := dp_length f (a / 10)
    unfold dp
    split <;> simp <;> omega

/-- what Dec makes of n -/
def decL (n : Int) : List UInt8 := (if n < 0 then [45] else []) ++ dp 18 n.natAbs

theorem decL_nonneg (a : Nat) : decL (a : Int) = dp 18 a := by
  unfold decL; rw [if_neg (by omega), Int.natAbs_natCast]; rfl

theorem decL_neg (a : Nat) (h : 0 < a) : decL (-(a : Int)) = 45 :: dp 18 a := by
  unfold decL; rw [if_pos (by omega), Int.natAbs_neg, Int.natAbs_natCast]; rfl

theorem fits10_all (a : Nat) (h : a ≤ 9223372036854775808) : fits10 18 a := by unfold fits10; omega

end Go.Proofs.Ytfpbdalkjhcbgaa
