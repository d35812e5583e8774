/- Plain facts on reading decimal digits. -/
import Derived.WalkKit
import Derived.Test.YtfpbdalkjhcbgaaDcNum
namespace Go.Proofs.Ytfpbdalkjhcbgaa
open Go.RowKit

def isD (b : UInt8) : Bool := inB b.toNat 48 57

/-- the number that digits say -/
def valL (l : List UInt8) : Int := l.foldl (fun a b => a * 10 + ((b.toNat : Int) - 48)) 0

theorem valL_snoc (l : List UInt8) (b : UInt8) : valL (l ++ [b]) = valL l * 10 + ((b.toNat : Int) - 48) := by simp [valL, List.foldl_append]

theorem isD_bd {b : UInt8} (h : isD b = true) : 48 ≤ b.toNat ∧ b.toNat ≤ 57 := by have := inB_le h; omega

theorem valL_bd (l : List UInt8) : (∀ b ∈ l, isD b = true) → 0 ≤ valL l ∧ valL l < 10 ^ l.length := by
  induction l using snoc_ind with
  | h0 => intro _; simp [valL]
  | h1 l c ih =>
    intro h
    have h1 := ih (fun b hb => h b (by simp [hb]))
    have h2 := isD_bd (h c (by simp))
    rw [valL_snoc, List.length_append, List.length_singleton, Int.pow_succ]
    omega

theorem valL_le (l : List UInt8) (k : Nat) (h : ∀ b ∈ l, isD b = true) (hk : l.length ≤ k) : 0 ≤ valL l ∧ valL l < 10 ^ k := by
  have h1 := valL_bd l h
  have h2 : (10 : Int) ^ l.length ≤ 10 ^ (l.length + (k - l.length)) := pow_mono 10 (by decide) _ _
  rw [show l.length + (k - l.length) = k from by omega] at h2
  omega

theorem dig_isD (a : Nat) : isD (dig a) = true := by
  have := dig_val a
  exact inB_mk (by omega) (by omega)

theorem dp_isD : ∀ f a, ∀ b ∈ dp f a, isD b = true
  | 0, a, b, h => by simp [dp] at h; subst h; exact dig_isD a
  | f + 1, a, b, h => by
    unfold dp at h
    split at h
    · simp at h; subst h; exact dig_isD a
    · rcases List.mem_append.1 h with h1 | h1
      · exact dp_isD f _ b h1
      · simp at h1; subst h1; exact dig_isD a

theorem valL_dp : ∀ f a, fits10 f a → valL (dp f a) = a
  | 0, a, h => by
    unfold fits10 at h
    have := dig_val a
    simp [dp, valL]; omega
  | f + 1, a, h => by
    have hd := dig_val a
    by_cases h10 : a < 10
    · rw [dp_small _ a h10]; simp [valL]; omega
    · rw [dp_great f a (by omega), valL_snoc]
      obtain ⟨g, hg, hfg⟩ := fits10_step _ a h (by omega)
      obtain rfl : f = g := by omega
      rw [valL_dp f (a / 10) hfg]
      omega

/-- digits alone, and no nought ahead of another digit -/
def Good (l : List UInt8) : Prop := (∀ b ∈ l, isD b = true) ∧ ∀ i, 0 < i → i < l.length → valL (l.take i) ≠ 0

theorem Good_dp : ∀ f a, fits10 f a → Good (dp f a)
  | 0, a, _ => ⟨dp_isD 0 a, fun i h1 h2 => by simp [dp] at h2; omega⟩
  | f + 1, a, h => by
    refine ⟨dp_isD _ a, ?_⟩
    by_cases h10 : a < 10
    · rw [dp_small _ a h10]
      intro i h1 h2
      simp at h2; omega
    · obtain ⟨g, hg, hfg⟩ := fits10_step _ a h (by omega)
      obtain rfl : f = g := by omega
      rw [dp_great f a (by omega)]
      have ih := Good_dp f (a / 10) hfg
      intro i h1 h2
      by_cases hi : i < (dp f (a / 10)).length
      · rw [List.take_append_of_le_length (by omega)]
        exact ih.2 i h1 hi
      · rw [List.length_append, List.length_singleton] at h2
        rw [List.take_append_of_le_length (by omega), List.take_of_length_le (by omega), valL_dp f _ hfg]
        omega

theorem dp_valL (l : List UInt8) : ∀ f, l ≠ [] → l.length ≤ f + 1 → Good l → dp f (valL l).toNat = l := by
  induction l using snoc_ind with
  | h0 => intro f h; exact absurd rfl h
  | h1 l c ih =>
    intro f _ hlen hg
    have hc := isD_bd (hg.1 c (by simp))
    have hD : ∀ b ∈ l, isD b = true := fun b hb => hg.1 b (by simp [hb])
    have hb := valL_bd l hD
    have hdig : ∀ m : Nat, (m : Int) % 10 = (c.toNat : Int) - 48 → dig m = c := by
      intro m hm
      have := dig_val m
      exact UInt8.toNat_inj.1 (by omega)
    by_cases hl : l = []
    · subst hl
      have e : valL ([] ++ [c]) = (c.toNat : Int) - 48 := by simp [valL]
      rw [e, dp_small _ _ (by omega)]
      rw [hdig _ (by omega)]
      rfl
    · have hpos : 0 < l.length := List.length_pos_iff.2 hl
      have hne := hg.2 l.length hpos (by simp)
      rw [List.take_append_of_le_length (Nat.le_refl _), List.take_length] at hne
      rw [List.length_append, List.length_singleton] at hlen
      obtain ⟨g, rfl⟩ : ∃ g, f = g + 1 := ⟨f - 1, by omega⟩
      have hgl : Good l := ⟨hD, fun i h1 h2 => by
        have := hg.2 i h1 (by simp; omega)
        rwa [List.take_append_of_le_length (by omega)] at this⟩
      rw [valL_snoc, dp_great _ _ (by omega)]
      have e1 : (valL l * 10 + ((c.toNat : Int) - 48)).toNat / 10 = (valL l).toNat := by omega
      rw [e1, ih g hl (by omega) hgl, hdig _ (by omega)]

/-- what reading a decimal text comes to -/
def RdDec (l : List UInt8) (n : Int) (ok : Bool) : Prop :=
  (-1000000000 < n ∧ n < 1000000000 ∧ decL n = l ∧ ok = true) ∨ ((∀ m : Int, -1000000000 < m → m < 1000000000 → decL m ≠ l) ∧ n = 0 ∧ ok = false)

theorem fits_small (m : Int) (h1 : -1000000000 < m) (h2 : m < 1000000000) : fits10 8 m.natAbs := by unfold fits10; omega

theorem dp_more : ∀ f a, fits10 f a → ∀ d, dp (f + d) a = dp f a
  | 0, a, h, d => by
    unfold fits10 at h
    rw [dp_small _ a (by omega), dp_small _ a (by omega)]
  | f + 1, a, h, d => by
    by_cases h10 : a < 10
    · rw [dp_small _ a h10, dp_small _ a h10]
    · obtain ⟨g, hg, hfg⟩ := fits10_step _ a h (by omega)
      obtain rfl : f = g := by omega
      rw [show f + 1 + d = (f + d) + 1 from by omega, dp_great _ a (by omega), dp_great _ a (by omega), dp_more f _ hfg d]

theorem decL_inj (m n : Int) (h1 : -9223372036854775808 ≤ m) (h2 : m ≤ 9223372036854775807) (h3 : -9223372036854775808 ≤ n) (h4 : n ≤ 9223372036854775807) (h : decL m = decL n) : m = n := by
  have hm := fits10_all m.natAbs (by omega)
  have hn := fits10_all n.natAbs (by omega)
  have key : ∀ a b : Nat, fits10 18 a → (45 :: dp 18 b) ≠ dp 18 a := by
    intro a b _ he
    have := dp_isD 18 a 45 (by rw [← he]; simp)
    revert this; decide
  unfold decL at h
  by_cases ha : m < 0
  · by_cases hb : n < 0
    · rw [if_pos ha, if_pos hb] at h
      simp at h
      have := congrArg valL h
      rw [valL_dp _ _ hm, valL_dp _ _ hn] at this
      omega
    · rw [if_pos ha, if_neg hb] at h
      exact absurd h (key _ _ hn)
  · by_cases hb : n < 0
    · rw [if_neg ha, if_pos hb] at h
      exact absurd h.symm (key _ _ hm)
    · rw [if_neg ha, if_neg hb] at h
      simp at h
      have := congrArg valL h
      rw [valL_dp _ _ hm, valL_dp _ _ hn] at this
      omega

theorem RdDec_one (l : List UInt8) (n n' : Int) (k k' : Bool) (h : RdDec l n k) (h' : RdDec l n' k') : n = n' ∧ k = k' := by
  rcases h with ⟨a1, a2, a3, rfl⟩ | ⟨a, rfl, rfl⟩
  · rcases h' with ⟨b1, b2, b3, rfl⟩ | ⟨b, rfl, rfl⟩
    · exact ⟨decL_inj n n' (by omega) (by omega) (by omega) (by omega) (a3.trans b3.symm), rfl⟩
    · exact absurd a3 (b n a1 a2)
  · rcases h' with ⟨b1, b2, b3, rfl⟩ | ⟨b, rfl, rfl⟩
    · exact absurd b3 (a n' b1 b2)
    · exact ⟨rfl, rfl⟩

end Go.Proofs.Ytfpbdalkjhcbgaa
