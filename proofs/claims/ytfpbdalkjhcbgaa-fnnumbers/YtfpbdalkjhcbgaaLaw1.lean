/- Plain facts behind FnNumbers: what is made of a number is read as it, whatever stands behind. -/
import Derived.Test.YtfpbdalkjhcbgaaFix
import Derived.Test.YtfpbdalkjhcbgaaVarNum
import Derived.Test.YtfpbdalkjhcbgaaUnh
import Derived.Test.YtfpbdalkjhcbgaaRdcNum
import Derived.WalkKit
namespace Go.Proofs.Ytfpbdalkjhcbgaa
open Go.RowKit

theorem varL_len : ∀ f n, 1 ≤ (varL f n).length ∧ (varL f n).length ≤ f + 1
  | 0, n => by simp [varL]
  | f + 1, n => by
    have := varL_len f (n / 128)
    unfold varL
    split <;> simp <;> omega

theorem varL_ne (f : Nat) (n : Int) : varL f n ≠ [] := by
  intro h
  have := (varL_len f n).1
  rw [h] at this
  simp at this

theorem leV_varL : ∀ f n, 0 ≤ n → fits f n → leV (varL f n) = n
  | 0, n, h0, h => by
    unfold fits at h
    simp [varL, leV]; omega
  | f + 1, n, h0, h => by
    by_cases hs : n < 128
    · rw [varL_small _ _ hs]; simp [leV]; omega
    · obtain ⟨g, hg, hfg⟩ := fits_step _ n h (by omega)
      obtain rfl : f = g := by omega
      rw [varL_great _ _ (by omega), leV, leV_varL f (n / 128) (by omega) hfg]
      simp
      omega

theorem isV_varL (n : Int) (h0 : 0 ≤ n) (h1 : n ≤ 562949953421311) : isV (varL 6 n) = true := by
  have hl := leV_varL 6 n h0 (by unfold fits; omega)
  refine (varL_isV (varL 6 n) 6 (varL_len 6 n).2 (varL_ne 6 n)).1 ?_
  rw [hl]

theorem rd_back (n : Int) (t : List UInt8) (h0 : 0 ≤ n) (h1 : n ≤ 562949953421311) : RdVar (varL 6 n ++ t) n (varL 6 n).length := by
  have hl := varL_len 6 n
  have e : (varL 6 n ++ t).take (varL 6 n).length = varL 6 n := by rw [List.take_append_of_le_length (Nat.le_refl _), List.take_length]
  refine Or.inl ⟨(varL 6 n).length, hl.1, by omega, by simp, ?_, ?_, rfl⟩
  · rw [e]; exact isV_varL n h0 h1
  · rw [e]; exact (leV_varL 6 n h0 (by unfold fits; omega)).symm

/-- what ReadVar takes is what Var makes -/
theorem rd_forth (l : List UInt8) (z j : Int) (h : RdVar l z j) : (j = 0) ∨ ∃ k : Nat, j = k ∧ 1 ≤ k ∧ k ≤ l.length ∧ 0 ≤ z ∧ z ≤ 562949953421311 ∧ varL 6 z = l.take k := by
  rcases h with ⟨k, h1, h2, h3, h4, rfl, rfl⟩ | ⟨_, _, rfl⟩
  · right
    have hlen : (l.take k).length = k := by rw [List.length_take]; omega
    have hb := leV_bd (l.take k) 7 (by omega)
    refine ⟨k, rfl, h1, h3, hb.1, by omega, ?_⟩
    exact (varL_isV (l.take k) 6 (by omega) (by intro h; rw [h] at hlen; simp at hlen; omega)).2 h4
  · exact Or.inl rfl

theorem be_foldl (l : List UInt8) : ∀ a : Int, l.foldl (fun a b => a * 256 + (b.toNat : Int)) a = a * 256 ^ l.length + be l := by
  induction l with
  | nil => intro a; simp [be]
  | cons b l ih =>
    intro a
    have h1 := ih (a * 256 + (b.toNat : Int))
    have h2 := ih (b.toNat : Int)
    have h3 : be (b :: l) = l.foldl (fun a b => a * 256 + (b.toNat : Int)) (b.toNat : Int) := by simp [be]
    rw [List.foldl_cons, h1, h3, h2, List.length_cons, Int.pow_succ, Int.add_mul, Int.mul_assoc, Int.mul_comm 256 (256 ^ l.length)]
    omega

theorem be_cons (b : UInt8) (l : List UInt8) : be (b :: l) = (b.toNat : Int) * 256 ^ l.length + be l := by
  have h := be_foldl l (0 * 256 + (b.toNat : Int))
  have h3 : be (b :: l) = l.foldl (fun a b => a * 256 + (b.toNat : Int)) (0 * 256 + (b.toNat : Int)) := rfl
  rw [h3, h]; simp

theorem be_beB (m : Nat) : ∀ k, be (beB k (m : Int)) = ((m % 256 ^ k : Nat) : Int)
  | 0 => by simp [beB, be, Nat.mod_one]
  | k + 1 => by
    have e1 : ((m : Int) / 256 ^ k % 256).toNat = m / 256 ^ k % 256 := by
      have : ((m : Int) / 256 ^ k % 256) = ((m / 256 ^ k % 256 : Nat) : Int) := by simp
      rw [this]; omega
    have hlt : m / 256 ^ k % 256 < 256 := Nat.mod_lt _ (by decide)
    rw [beB, be_cons, be_beB m k, beB_length, e1, Nat.pow_succ, Nat.mod_mul]
    have e2 : ((UInt8.ofNat (m / 256 ^ k % 256)).toNat : Int) = ((m / 256 ^ k % 256 : Nat) : Int) := by simp
    rw [e2]
    simp
    rw [Int.mul_comm, Int.add_comm]

theorem fix_some (n : Int) (h0 : 0 ≤ n) (h1 : n < 72057594037927936) : fixL 7 n = beB 7 n ∧ be (beB 7 n) = n := by
  obtain ⟨m, rfl⟩ := Int.eq_ofNat_of_zero_le h0
  refine ⟨?_, ?_⟩
  · unfold fixL; rw [if_pos (by omega)]
  · rw [be_beB]; have : m % 256 ^ 7 = m := Nat.mod_eq_of_lt (by omega); rw [this]

theorem fix_none (n : Int) (h1 : 72057594037927936 ≤ n) : fixL 7 n = [] := by
  unfold fixL; rw [if_neg (by omega)]

theorem unhex_hex : ∀ l : List UInt8, unhexL (hexL l) = some l
  | [] => rfl
  | b :: l => by
    have hb := b.toNat_lt
    have ih := unhex_hex l
    have e : hexL (b :: l) = hx (b.toNat / 16) :: hx (b.toNat % 16) :: hexL l := by simp [hexL]
    have h1 := unhx_hx (b.toNat / 16) (by omega)
    have h2 := unhx_hx (b.toNat % 16) (by omega)
    rw [e, unhexL, h1, h2, if_neg (by omega), ih]
    have e2 : (16 * ((b.toNat / 16 : Nat) : Int) + ((b.toNat % 16 : Nat) : Int)).toNat = b.toNat := by omega
    rw [e2]
    simp

theorem dec_back (n d : Int) (ok : Bool) (h1 : -9223372036854775808 ≤ n) (h2 : n ≤ 9223372036854775807) (h : RdDec (decL n) d ok) :
    ok = (decide (-1000000000 < n) && decide (n < 1000000000)) ∧ (ok = true → d = n) := by
  rcases h with ⟨a, b, c, rfl⟩ | ⟨a, rfl, rfl⟩
  · have e := decL_inj d n (by omega) (by omega) h1 h2 c
    subst e
    refine ⟨?_, fun _ => rfl⟩
    rw [decide_eq_true a, decide_eq_true b]; rfl
  · refine ⟨?_, fun h => by cases h⟩
    by_cases h3 : -1000000000 < n
    · by_cases h4 : n < 1000000000
      · exact absurd rfl (a n h3 h4)
      · simp [h4]
    · simp [h3]

end Go.Proofs.Ytfpbdalkjhcbgaa
