/- Plain facts on the rows of bytes that are a Var: the number that they say, and which rows are one. -/
import Derived.WalkKit
import Derived.Laws.BitsLemmas
import Derived.Test.YtfdahfealibbnaaDoorNum
namespace Go.Proofs.YtfdahfealibbnaaDoor
open Go.RowKit

/-- the bytes of a Var, of at most f + 1 bytes -/
def varL : Nat → Int → List UInt8
  | 0, n => [UInt8.ofNat n.toNat]
  | f + 1, n => if n < 128 then [UInt8.ofNat n.toNat] else UInt8.ofNat (n % 128 + 128).toNat :: varL f (n / 128)

theorem varL_small (f : Nat) (n : Int) (h : n < 128) : varL f n = [UInt8.ofNat n.toNat] := by
  cases f
  · rfl
  · simp [varL, h]

theorem varL_great (f : Nat) (n : Int) (h : 128 ≤ n) : varL (f + 1) n = UInt8.ofNat (n % 128 + 128).toNat :: varL f (n / 128) := by
  rw [varL, if_neg (by omega)]

/-- n is below 128 to the power of f + 1 -/
def fits (f : Nat) (n : Int) : Prop := n < 128 ^ (f + 1)

theorem fits_step (f : Nat) (n : Int) (h : fits f n) (hn : 128 ≤ n) : ∃ g, f = g + 1 ∧ fits g (n / 128) := by
  cases f with
  | zero => unfold fits at h; omega
  | succ g =>
    refine ⟨g, rfl, ?_⟩
    unfold fits at h ⊢
    rw [Int.pow_succ] at h
    exact Int.ediv_lt_of_lt_mul (by decide) h

/-- what seven bits of each byte say, the lowest first -/
def leV : List UInt8 → Int
  | [] => 0
  | b :: r => (b.toNat : Int) % 128 + 128 * leV r

theorem leV_snoc : ∀ (l : List UInt8) (b : UInt8), leV (l ++ [b]) = leV l + (b.toNat : Int) % 128 * 128 ^ l.length
  | [], b => by simp [leV]
  | a :: l, b => by
    simp only [List.cons_append, leV, leV_snoc l b, List.length_cons, Int.pow_succ, Int.mul_add]
    rw [Int.add_assoc]
    congr 2
    rw [Int.mul_comm 128, Int.mul_assoc]

theorem leV_len : ∀ l : List UInt8, 0 ≤ leV l ∧ leV l < 128 ^ l.length
  | [] => by simp [leV]
  | a :: l => by
    have := leV_len l
    simp only [leV, List.length_cons, Int.pow_succ]
    omega

theorem leV_bd (l : List UInt8) (k : Nat) (h : l.length ≤ k) : 0 ≤ leV l ∧ leV l < 128 ^ k := by
  have := leV_len l
  have h2 : (128 : Int) ^ l.length ≤ 128 ^ (l.length + (k - l.length)) := pow_mono 128 (by decide) _ _
  rw [show l.length + (k - l.length) = k from by omega] at h2
  omega

/-- 'y | x' where y lies below 2^i and x is a multiple of it -/
theorem or_low (i : Nat) (y x : Int) (hy₀ : 0 ≤ y) (hy : y < 2 ^ i) (hy₁ : y < 2 ^ 63) (hx₀ : 0 ≤ x) (hx : x % 2 ^ i = 0) (hx₁ : x < 2 ^ 63) : bits .or .i64 y x = y + x := by
  have h := bits_join .i64 63 (by decide) wraps_i64 i x y hx₀ hx hx₁ hy₀ hy hy₁
  obtain ⟨a, rfl⟩ := Int.eq_ofNat_of_zero_le hx₀
  obtain ⟨b, rfl⟩ := Int.eq_ofNat_of_zero_le hy₀
  have ha : a < 2 ^ 63 := by omega
  have hb : b < 2 ^ 63 := by omega
  rw [(bits_nat .i64 63 (by decide) wraps_i64 a b ha hb).2] at h
  rw [(bits_nat .i64 63 (by decide) wraps_i64 b a hb ha).2, Nat.or_comm, h]
  omega

/-- the row is what Var makes: each byte but the last is 128 or more, the last is below 128 and not 0 behind another one -/
def isV : List UInt8 → Bool
  | [] => false
  | [b] => decide (b.toNat < 128)
  | b :: c :: r => decide (128 ≤ b.toNat) && isV (c :: r) && !(decide (r = []) && decide (c = 0))

theorem of_nat_byte (b : UInt8) : UInt8.ofNat b.toNat = b := by simp

theorem varL_isV : ∀ (t : List UInt8) (f : Nat), t.length ≤ f + 1 → t ≠ [] → (varL f (leV t) = t ↔ isV t = true)
  | [], _, _, h => absurd rfl h
  | [b], f, _, _ => by
    have hb := b.toNat_lt
    rw [varL_small _ _ (by simp [leV]; omega)]
    simp only [leV, isV, decide_eq_true_eq]
    constructor
    · intro h
      simp only [List.cons.injEq, and_true] at h
      have h2 := congrArg UInt8.toNat h
      simp at h2
      omega
    · intro h
      congr 1
      rw [show ((b.toNat : Int) % 128 + 128 * 0).toNat = b.toNat from by omega, of_nat_byte]
  | b :: c :: r, f, hf, _ => by
    have hb := b.toNat_lt
    cases f with
    | zero => simp at hf
    | succ g =>
      have ih := varL_isV (c :: r) g (by simpa using hf) (by simp)
      have hl := leV_len (c :: r)
      have e : leV (b :: c :: r) = (b.toNat : Int) % 128 + 128 * leV (c :: r) := rfl
      generalize hm : leV (c :: r) = m at *
      rw [e]
      simp only [isV, Bool.and_eq_true, decide_eq_true_eq]
      by_cases h0 : m = 0
      · subst h0
        rw [varL_small _ _ (by omega)]
        constructor
        · intro h; simp at h
        · rintro ⟨⟨_, h2⟩, h3⟩
          have h4 := ih.2 h2
          rw [varL_small _ _ (by omega)] at h4
          simp at h4
          obtain ⟨rfl, rfl⟩ := h4
          simp at h3
      · rw [varL_great _ _ (by omega)]
        rw [show ((b.toNat : Int) % 128 + 128 * m) % 128 = (b.toNat : Int) % 128 from by omega, show ((b.toNat : Int) % 128 + 128 * m) / 128 = m from by omega]
        constructor
        · intro h
          simp only [List.cons.injEq] at h
          obtain ⟨h1, h2⟩ := h
          refine ⟨⟨?_, ih.1 h2⟩, ?_⟩
          · have h3 := congrArg UInt8.toNat h1
            simp at h3
            omega
          · simp only [Bool.not_eq_true', Bool.and_eq_false_iff, decide_eq_false_iff_not]
            by_cases hr : r = []
            · right
              rintro rfl
              subst hr
              simp [leV] at hm
              omega
            · exact Or.inl hr
        · rintro ⟨⟨h1, h2⟩, _⟩
          rw [ih.2 h2]
          congr 1
          rw [show ((b.toNat : Int) % 128 + 128).toNat = b.toNat from by omega, of_nat_byte]

theorem isV_prefix : ∀ (t u : List UInt8), isV t = true → isV (t ++ u) = true → u = []
  | [], _, h, _ => by simp [isV] at h
  | [b], [], _, _ => rfl
  | [b], c :: u, h1, h2 => by simp [isV] at h1 h2; omega
  | b :: c :: r, u, h1, h2 => by
    simp only [List.cons_append, isV, Bool.and_eq_true] at h1 h2
    exact isV_prefix (c :: r) u h1.1.2 h2.1.2

/-- what reading a Var at the head of l comes to -/
def RdVar (l : List UInt8) (n k : Int) : Prop :=
  (∃ j : Nat, 1 ≤ j ∧ j ≤ 7 ∧ j ≤ l.length ∧ isV (l.take j) = true ∧ n = leV (l.take j) ∧ k = j) ∨
  ((∀ j : Nat, 1 ≤ j → j ≤ 7 → j ≤ l.length → isV (l.take j) = false) ∧ n = 0 ∧ k = 0)

theorem take_one (l : List UInt8) (i j : Nat) (hij : i ≤ j) (hj : j ≤ l.length) (h1 : isV (l.take i) = true) (h2 : isV (l.take j) = true) : i = j := by
  have e : l.take j = l.take i ++ (l.take j).drop i := by
    have := List.take_append_drop i (l.take j)
    rw [List.take_take, Nat.min_eq_left hij] at this
    exact this.symm
  rw [e] at h2
  have h3 := isV_prefix _ _ h1 h2
  have h4 := congrArg List.length h3
  simp at h4
  omega

theorem RdVar_one (l : List UInt8) (n k n' k' : Int) (h : RdVar l n k) (h' : RdVar l n' k') : n = n' ∧ k = k' := by
  rcases h with ⟨j, a1, a2, a3, a4, rfl, rfl⟩ | ⟨a, rfl, rfl⟩
  · rcases h' with ⟨i, b1, b2, b3, b4, rfl, rfl⟩ | ⟨b, rfl, rfl⟩
    · have : i = j := by
        by_cases hij : i ≤ j
        · exact take_one l i j hij a3 b4 a4
        · exact (take_one l j i (by omega) b3 a4 b4).symm
      subst this
      exact ⟨rfl, rfl⟩
    · rw [b j a1 a2 a3] at a4; cases a4
  · rcases h' with ⟨i, b1, b2, b3, b4, rfl, rfl⟩ | ⟨b, rfl, rfl⟩
    · rw [a i b1 b2 b3] at b4; cases b4
    · exact ⟨rfl, rfl⟩

/-- all bytes are 128 or more -/
def high (l : List UInt8) : Prop := ∀ b ∈ l, 128 ≤ b.toNat

theorem high_not : ∀ l : List UInt8, high l → isV l = false
  | [], _ => rfl
  | [b], h => by have := h b (by simp); simp [isV]; omega
  | b :: c :: r, h => by
    have h1 := high_not (c :: r) (fun x hx => h x (by simp only [List.mem_cons] at hx ⊢; exact Or.inr hx))
    simp [isV, h1]

theorem isV_high : ∀ (l : List UInt8) (b : UInt8), high l → b.toNat < 128 → isV (l ++ [b]) = !(decide (l ≠ []) && decide (b = 0))
  | [], b, _, hb => by simp [isV, hb]
  | [a], b, h, hb => by
    have := h a (by simp)
    simp [isV, hb, this]
  | a :: c :: r, b, h, hb => by
    have h1 := isV_high (c :: r) b (fun x hx => h x (by simp only [List.mem_cons] at hx ⊢; exact Or.inr hx)) hb
    have := h a (by simp)
    simp only [List.cons_append] at h1 ⊢
    simp [isV, h1, this]

theorem high_snoc (l : List UInt8) (b : UInt8) (h : high l) (hb : 128 ≤ b.toNat) : high (l ++ [b]) := fun x hx => by
  rcases List.mem_append.1 hx with h1 | h1
  · exact h x h1
  · simp at h1; subst h1; exact hb

theorem high_take (l : List UInt8) (i j : Nat) (hij : i ≤ j) (h : high (l.take j)) : high (l.take i) := fun b hb => h b (by
  have : l.take i = (l.take j).take i := by rw [List.take_take, Nat.min_eq_left hij]
  rw [this] at hb
  exact List.mem_of_mem_take hb)

theorem isV_low : ∀ (l : List UInt8) (b : UInt8) (u : List UInt8), high l → b.toNat < 128 → u ≠ [] → isV (l ++ b :: u) = false
  | [], b, c :: u, _, hb, _ => by simp [isV]; omega
  | [], _, [], _, _, h => absurd rfl h
  | [a], b, u, h, hb, hu => by
    have h1 := isV_low [] b u (by simp [high]) hb hu
    simp only [List.nil_append] at h1
    simp [isV, h1]
  | a :: c :: r, b, u, h, hb, hu => by
    have h1 := isV_low (c :: r) b u (fun x hx => h x (by simp only [List.mem_cons] at hx ⊢; exact Or.inr hx)) hb hu
    simp only [List.cons_append] at h1 ⊢
    simp [isV, h1]

theorem rd_end (l : List UInt8) (k : Nat) (hk : 7 ≤ k ∨ l.length ≤ k) (h : high (l.take k)) : RdVar l 0 0 := by
  refine Or.inr ⟨fun j h1 h2 h3 => high_not _ (high_take l j k ?_ h), rfl, rfl⟩
  omega

theorem rd_nought (l : List UInt8) (k : Nat) (b : UInt8) (e : l.take (k + 1) = l.take k ++ [b]) (hl : k < l.length) (h : high (l.take k)) (hb : b = 0) (hk : 0 < k) : RdVar l 0 0 := by
  refine Or.inr ⟨fun j h1 h2 h3 => ?_, rfl, rfl⟩
  have hb' : b.toNat < 128 := by subst hb; decide
  by_cases hj : j ≤ k
  · exact high_not _ (high_take l j k hj h)
  · have e2 : l.take j = l.take k ++ b :: (l.take j).drop (k + 1) := by
      have h4 := List.take_append_drop (k + 1) (l.take j)
      rw [List.take_take, Nat.min_eq_left (by omega), e, List.append_assoc] at h4
      exact h4.symm
    by_cases hj2 : j = k + 1
    · subst hj2
      rw [e, isV_high _ _ h hb']
      have : l.take k ≠ [] := by intro h5; have := congrArg List.length h5; rw [List.length_take, List.length_nil] at this; omega
      simp [hb, this]
    · rw [e2]
      refine isV_low _ _ _ h hb' ?_
      intro h5
      have := congrArg List.length h5
      simp at this
      omega

theorem rd_some (l : List UInt8) (k : Nat) (b : UInt8) (e : l.take (k + 1) = l.take k ++ [b]) (hl : k < l.length) (h7 : k < 7) (h : high (l.take k)) (hb : b.toNat < 128) (hk : ¬ (b = 0 ∧ 0 < k)) : RdVar l (leV (l.take (k + 1))) ((k : Int) + 1) := by
  refine Or.inl ⟨k + 1, by omega, by omega, by omega, ?_, rfl, by omega⟩
  rw [e, isV_high _ _ h hb]
  by_cases hb0 : b = 0
  · have hk0 : k = 0 := by
      by_cases h1 : k = 0
      · exact h1
      · exact absurd ⟨hb0, by omega⟩ hk
    simp [hk0]
  · simp [hb0]

/-- 'n | (b % 128) << (7*k)', n what k bytes say -/
theorem or7 (l : List UInt8) (k : Nat) (b : UInt8) (hl : l.length = k) (hk : k < 7) : bits .or .i64 (leV l) (wrap64 ((b.toNat : Int) % 128 * 2 ^ (7 * k))) = leV (l ++ [b]) := by
  have e : (2 : Int) ^ (7 * k) = 128 ^ k := by rw [Int.pow_mul]; rfl
  have h1 := leV_len l
  have h2 : (128 : Int) ^ k ≤ 128 ^ (k + (6 - k)) := pow_mono 128 (by decide) _ _
  rw [show k + (6 - k) = 6 from by omega] at h2
  rw [hl] at h1
  have hp : (0 : Int) < 128 ^ k := Int.pow_pos (by decide)
  have hx1 : (b.toNat : Int) % 128 * 128 ^ k ≤ 127 * 128 ^ k := Int.mul_le_mul_of_nonneg_right (by omega) (by omega)
  have hx0 : 0 ≤ (b.toNat : Int) % 128 * 128 ^ k := Int.mul_nonneg (by omega) (by omega)
  have hx2 : (b.toNat : Int) % 128 * 2 ^ (7 * k) % 2 ^ (7 * k) = 0 := Int.mul_emod_left _ _
  rw [leV_snoc, hl]
  rw [IntWalk.wrap64_in _ (by rw [e]; omega)]
  rw [or_low (7 * k) _ _ h1.1 (by rw [e]; exact h1.2) (by omega) (by rw [e]; exact hx0) hx2 (by rw [e]; omega), e]

end Go.Proofs.YtfdahfealibbnaaDoor
