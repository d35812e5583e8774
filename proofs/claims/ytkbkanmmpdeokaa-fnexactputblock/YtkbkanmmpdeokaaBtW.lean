/- A bitmap in a word, pure: the flags as bits of a number; runs told by where they begin; how many bits are set. -/
import Derived.Test.YtkbkanmmpdeokaaRows
import Derived.Test.YtkbkanmmpdeokaaBtT
import Derived.Lib.TrailingZeros
namespace Go.Proofs.Ytkbkanmmpdeokaa
open Go.RowKit

/-- the flags as bits, the first one lowest -/
def fN : List Bool → Nat
  | [] => 0
  | x :: l => (if x then 1 else 0) + 2 * fN l
theorem fN_bit : ∀ (l : List Bool) (j : Nat), (fN l).testBit j = l[j]!
  | [], j => by simp [fN]
  | x :: l, 0 => by simp only [fN, Nat.testBit_zero]; cases x <;> simp <;> omega
  | x :: l, j + 1 => by
    rw [Nat.testBit_succ, show fN (x :: l) / 2 = fN l by simp only [fN]; cases x <;> simp <;> omega, fN_bit l j]; rfl
theorem fN_lt : ∀ (l : List Bool), fN l < 2 ^ l.length
  | [] => by simp [fN]
  | x :: l => by
    have := fN_lt l
    rw [List.length_cons, Nat.pow_succ]
    simp only [fN]; cases x <;> simp <;> omega
theorem bo_none (l : List Bool) (j : Nat) (h : l.length ≤ j) : l[j]! = false := by
  rw [getElem!_neg l j (by omega)]; rfl
theorem take_bo (l : List Bool) (k j : Nat) : (l.take k)[j]! = (decide (j < k) && l[j]!) := by
  by_cases hj : j < k
  · rw [decide_eq_true hj, Bool.true_and]
    by_cases h : j < l.length
    · rw [getElem!_pos _ j (by rw [List.length_take]; omega), getElem!_pos l j h, List.getElem_take]
    · rw [bo_none l j (by omega), bo_none _ j (by rw [List.length_take]; omega)]
  · rw [decide_eq_false hj, Bool.false_and, bo_none _ j (by rw [List.length_take]; omega)]
/-- n bits set from p on -/
def mskN (p n : Nat) : Nat := (2 ^ n - 1) * 2 ^ p
theorem mskN_bit (p n j : Nat) : (mskN p n).testBit j = decide (p ≤ j ∧ j < p + n) := by
  unfold mskN
  rw [Nat.testBit_mul_two_pow, Nat.testBit_two_pow_sub_one]
  by_cases h : p ≤ j
  · by_cases h2 : j - p < n
    · simp only [h, h2, decide_true, Bool.and_self, true_and]; symm; exact decide_eq_true (by omega)
    · simp only [h, h2, decide_true, decide_false, Bool.and_false, true_and]; symm; exact decide_eq_false (by omega)
  · simp only [h, decide_false, Bool.false_and, false_and]
theorem mskN_lt (p n : Nat) (h : p + n ≤ 24) : mskN p n < 16777216 := by
  unfold mskN
  have h1 : (2 ^ n - 1) * 2 ^ p < 2 ^ n * 2 ^ p := Nat.mul_lt_mul_of_pos_right (by have := Nat.two_pow_pos n; omega) (Nat.two_pow_pos p)
  rw [← Nat.pow_add] at h1
  have h2 : 2 ^ (n + p) ≤ 2 ^ 24 := Nat.pow_le_pow_right (by decide) (by omega)
  omega
theorem lt24 {f : Nat} (h : ∀ j, 24 ≤ j → f.testBit j = false) : f < 16777216 := Nat.lt_pow_two_of_testBit (n := 24) f fun j hj => h j hj
theorem bit24 {f : Nat} (hf : f < 16777216) {j : Nat} (hj : 24 ≤ j) : f.testBit j = false :=
  Nat.testBit_lt_two_pow (Nat.lt_of_lt_of_le hf (by have := Nat.pow_le_pow_right (show 0 < 2 by decide) hj; omega))
theorem fN_lt24 {b : List Bool} (hb : b.length = 24) : fN b < 16777216 := by have := fN_lt b; rw [hb] at this; exact this
/-- one flag more -/
theorem fN_step (b : List Bool) (k : Nat) : fN (b.take (k + 1)) = if b[k]! then fN (b.take k) ||| mskN k 1 else fN (b.take k) := by
  apply Nat.eq_of_testBit_eq
  intro j
  have e : (if b[k]! then fN (b.take k) ||| mskN k 1 else fN (b.take k)).testBit j = ((b.take k)[j]! || (b[k]! && decide (j = k))) := by
    cases h : b[k]!
    · simp [fN_bit]
    · simp only [if_true, Nat.testBit_or, fN_bit, mskN_bit, Bool.true_and]
      congr 1
      rw [Bool.eq_iff_iff]; simp; omega
  rw [e, fN_bit, take_bo, take_bo]
  by_cases h1 : j < k
  · rw [decide_eq_true h1, decide_eq_true (show j < k + 1 by omega), decide_eq_false (show ¬ j = k by omega)]; simp
  · by_cases h2 : j = k
    · subst h2; simp
    · rw [decide_eq_false h1, decide_eq_false (show ¬ j < k + 1 by omega), decide_eq_false h2]; simp
/-- the free ones -/
def frN (b : List Bool) : Nat := fN b ^^^ 16777215
theorem mask24 (j : Nat) : Nat.testBit 16777215 j = decide (j < 24) := Nat.testBit_two_pow_sub_one 24 j
theorem frN_bit {b : List Bool} (hb : b.length = 24) (j : Nat) : (frN b).testBit j = (decide (j < 24) && !b[j]!) := by
  unfold frN
  rw [Nat.testBit_xor, fN_bit, mask24]
  by_cases h : j < 24
  · rw [decide_eq_true h]; cases b[j]! <;> rfl
  · rw [decide_eq_false h, bo_none b j (by omega)]; rfl
theorem frN_lt {b : List Bool} (hb : b.length = 24) : frN b < 16777216 := lt24 fun j hj => by rw [frN_bit hb, decide_eq_false (by omega)]; rfl
/-- the flags of a word -/
def blN (f : Nat) : List Bool := (List.range 24).map f.testBit
theorem blN_len (f : Nat) : (blN f).length = 24 := by simp [blN]
theorem blN_get (f j : Nat) (h : j < 24) : (blN f)[j]! = f.testBit j := by
  rw [getElem!_pos _ j (by rw [blN_len]; exact h)]; simp [blN]
theorem bo_ext {l m : List Bool} (h1 : l.length = 24) (h2 : m.length = 24) (h : ∀ j, j < 24 → l[j]! = m[j]!) : l = m := by
  apply List.ext_getElem (by omega)
  intro j a b
  have := h j (by omega)
  rwa [getElem!_pos l j a, getElem!_pos m j b] at this

/-- does a run begin here? -/
def begB (f k : Nat) : Bool := f.testBit k && !(decide (0 < k) && f.testBit (k - 1))
theorem beg_bit (f k : Nat) (hf : f < 16777216) : (f &&& (4294967295 - f * 2)).testBit k = begB f k := by
  unfold begB
  rw [Nat.testBit_and]
  by_cases h : k < 24
  · congr 1
    have e : 4294967295 - f * 2 = 2 ^ 32 - (f * 2 + 1) := by omega
    rw [e, Nat.testBit_two_pow_sub_succ (by omega), show f * 2 = f * 2 ^ 1 from rfl, Nat.testBit_mul_two_pow, decide_eq_true (show k < 32 by omega), Bool.true_and]
    rfl
  · rw [bit24 hf (by omega)]; simp

structure RuI (f k : Nat) (l : List Rn) : Prop where
  right : RnR l
  lt : ∀ r ∈ l, r.p < k
  mem : ∀ c, RnIn l c ↔ ∃ s j : Nat, c = j ∧ s < k ∧ s ≤ j ∧ begB f s = true ∧ ∀ i, s ≤ i → i ≤ j → f.testBit i = true
theorem RuI.start (f : Nat) : RuI f 0 [] :=
  ⟨⟨List.Pairwise.nil, fun r h => by cases h⟩, fun r h => (by cases h), fun c => ⟨fun ⟨r, h, _⟩ => (by cases h), fun ⟨s, j, _, h, _⟩ => (by omega)⟩⟩
theorem RuI.no {f k : Nat} {l : List Rn} (h : RuI f k l) (hb : begB f k = false) : RuI f (k + 1) l :=
  ⟨h.right, fun r hr => by have := h.lt r hr; omega, fun c => by
    rw [h.mem]
    constructor
    · rintro ⟨s, j, e, h1, h2⟩; exact ⟨s, j, e, by omega, h2⟩
    · rintro ⟨s, j, e, h1, h2, h3, h4⟩
      by_cases es : s = k
      · subst es; rw [hb] at h3; cases h3
      · exact ⟨s, j, e, by omega, h2, h3, h4⟩⟩
theorem RuI.yes {f k n : Nat} {l : List Rn} (hf : f < 16777216) (h : RuI f k l) (hb : begB f k = true) (h1 : ∀ i, i < n → f.testBit (k + i) = true) (h2 : f.testBit (k + n) = false) : RuI f (k + 1) (l ++ [⟨k, n⟩]) := by
  have hk : f.testBit k = true := by unfold begB at hb; rw [Bool.and_eq_true] at hb; exact hb.1
  have hn : 1 ≤ n := by
    rcases Nat.eq_zero_or_pos n with e | e
    · subst e; rw [Nat.add_zero, hk] at h2; cases h2
    · exact e
  have htop : k + n ≤ 24 := by
    apply Classical.byContradiction
    intro hc
    have := h1 (n - 1) (by omega)
    rw [bit24 hf (by omega)] at this; cases this
  have hgap : ∀ r ∈ l, r.p + r.n < (k : Int) := fun r hr => by
    have a1 := h.lt r hr
    have a2 := h.right.one r hr
    apply Classical.byContradiction
    intro hc
    have hk0 : 0 < k := by omega
    obtain ⟨s, j, e, _, e2, _, e4⟩ := (h.mem ((k - 1 : Nat) : Int)).1 ⟨r, hr, by omega, by omega⟩
    obtain rfl : j = k - 1 := by omega
    have e5 := e4 (k - 1) e2 (Nat.le_refl _)
    unfold begB at hb
    rw [hk, e5, decide_eq_true hk0] at hb
    cases hb
  refine ⟨⟨List.pairwise_append.2 ⟨h.right.gap, List.pairwise_singleton _ _, fun r hr q hq => ?_⟩, fun r hr => ?_⟩, fun r hr => ?_, fun c => ?_⟩
  · obtain rfl := List.mem_singleton.1 hq; exact hgap r hr
  · rcases List.mem_append.1 hr with hr | hr
    · exact h.right.one r hr
    · obtain rfl := List.mem_singleton.1 hr
      dsimp only; omega
  · rcases List.mem_append.1 hr with hr | hr
    · have := h.lt r hr; omega
    · obtain rfl := List.mem_singleton.1 hr
      dsimp only; omega
  · rw [RnIn_append, RnIn_one, h.mem]
    dsimp only
    constructor
    · rintro (⟨s, j, e, e1, e2⟩ | ⟨e1, e2⟩)
      · exact ⟨s, j, e, by omega, e2⟩
      · refine ⟨k, c.toNat, by omega, by omega, by omega, hb, fun i i1 i2 => ?_⟩
        have := h1 (i - k) (by omega)
        rwa [show k + (i - k) = i by omega] at this
    · rintro ⟨s, j, rfl, e1, e2, e3, e4⟩
      by_cases es : s = k
      · subst es
        refine .inr ⟨by omega, ?_⟩
        apply Classical.byContradiction
        intro hc
        have := e4 (s + n) (by omega) (by omega)
        rw [h2] at this; cases this
      · exact .inl ⟨s, j, rfl, by omega, e2, e3, e4⟩
theorem beg_of {f : Nat} : ∀ j, f.testBit j = true → ∃ s, s ≤ j ∧ begB f s = true ∧ ∀ i, s ≤ i → i ≤ j → f.testBit i = true
  | 0, h => ⟨0, Nat.le_refl _, by unfold begB; rw [h]; rfl, fun i _ i2 => by rw [show i = 0 by omega]; exact h⟩
  | j + 1, h => by
    cases hj : f.testBit j
    · exact ⟨j + 1, Nat.le_refl _, by unfold begB; rw [h, show j + 1 - 1 = j from rfl, hj]; simp, fun i i1 i2 => by rw [show i = j + 1 by omega]; exact h⟩
    · obtain ⟨s, e1, e2, e3⟩ := beg_of j hj
      refine ⟨s, by omega, e2, fun i i1 i2 => ?_⟩
      by_cases e : i = j + 1
      · rw [e]; exact h
      · exact e3 i i1 (by omega)
theorem RuI.done {b : List Bool} (hb : b.length = 24) {l : List Rn} (h : RuI (frN b) 24 l) : runsN b = l :=
  runsN_is hb h.right fun c => by
    rw [h.mem]
    constructor
    · rintro ⟨s, j, rfl, _, e2, _, e4⟩
      have := e4 j e2 (Nat.le_refl _)
      rw [frN_bit hb, Bool.and_eq_true, decide_eq_true_eq] at this
      exact ⟨j, rfl, this.1, by simpa using this.2⟩
    · rintro ⟨j, rfl, h1, h2⟩
      have hj : (frN b).testBit j = true := by rw [frN_bit hb, decide_eq_true h1, h2]; rfl
      obtain ⟨s, e1, e2, e3⟩ := beg_of j hj
      exact ⟨s, j, rfl, by omega, e1, e2, e3⟩
/-- how many ones stand side by side from k on: the noughts behind the word turned over -/
theorem ones_from {f k : Nat} (hf : f < 16777216) : Lib.ctz 32 (4294967295 - f / 2 ^ k) < 32 ∧ (∀ i, i < Lib.ctz 32 (4294967295 - f / 2 ^ k) → f.testBit (k + i) = true) ∧ f.testBit (k + Lib.ctz 32 (4294967295 - f / 2 ^ k)) = false := by
  have hd : f / 2 ^ k ≤ f := Nat.div_le_self _ _
  have hqb : ∀ i, (f / 2 ^ k).testBit i = f.testBit (k + i) := fun i => by rw [Nat.testBit_div_two_pow, Nat.add_comm]
  generalize f / 2 ^ k = q at hd hqb ⊢
  have hne : ¬ 4294967295 - q = 0 := by omega
  have e : Lib.ctz 32 (4294967295 - q) = Lib.ctzFrom 32 (4294967295 - q) := by unfold Lib.ctz; rw [if_neg hne]
  rw [e]
  obtain ⟨m, hm, hc⟩ := Lib.ctzFrom_spec 32 (4294967295 - q) (by omega) (by omega)
  generalize Lib.ctzFrom 32 (4294967295 - q) = c at hm hc ⊢
  have hbit : ∀ i, i < 32 → (4294967295 - q).testBit i = !f.testBit (k + i) := fun i hi => by
    rw [show 4294967295 - q = 2 ^ 32 - (q + 1) by omega, Nat.testBit_two_pow_sub_succ (by omega), decide_eq_true hi, Bool.true_and, hqb]
  refine ⟨hc, fun i hi => ?_, ?_⟩
  · have h := hbit i (by omega)
    rw [hm, Nat.mul_comm, Nat.testBit_mul_two_pow, decide_eq_false (show ¬ c ≤ i by omega), Bool.false_and] at h
    cases hx : f.testBit (k + i)
    · rw [hx] at h; cases h
    · rfl
  · have h := hbit c hc
    rw [hm, Nat.mul_comm, Nat.testBit_mul_two_pow, decide_eq_true (Nat.le_refl c), Bool.true_and, Nat.sub_self, Nat.testBit_zero, decide_eq_true (show (2 * m + 1) % 2 = 1 by omega)] at h
    cases hx : f.testBit (k + c)
    · rfl
    · rw [hx] at h; cases h

/-- how many bits are set, of the lowest k -/
def onesN : Nat → Nat → Nat
  | 0, _ => 0
  | k + 1, x => x % 2 + onesN k (x / 2)
theorem onesN_split : ∀ (a c x : Nat), onesN (a + c) x = onesN a x + onesN c (x / 2 ^ a)
  | 0, c, x => by simp [onesN]
  | a + 1, c, x => by
    rw [show a + 1 + c = (a + c) + 1 by omega]
    simp only [onesN]
    rw [onesN_split a c, Nat.div_div_eq_div_mul, Nat.pow_succ, Nat.mul_comm 2, Nat.add_assoc]
theorem onesN_mod : ∀ (k x : Nat), onesN k (x % 2 ^ k) = onesN k x
  | 0, _ => rfl
  | k + 1, x => by
    simp only [onesN]
    rw [← onesN_mod k (x / 2), Nat.mod_mod_of_dvd x (Nat.dvd_of_pow_dvd (show 1 ≤ k + 1 by omega) (Nat.dvd_refl _)), ← Nat.mod_mul_right_div_self, Nat.pow_succ, Nat.mul_comm]
theorem onesN_zero : ∀ k, onesN k 0 = 0
  | 0 => rfl
  | k + 1 => by simp [onesN, onesN_zero k]
theorem onesN_le : ∀ (k x : Nat), onesN k x ≤ k
  | 0, _ => Nat.le_refl _
  | k + 1, x => by have := onesN_le k (x / 2); simp only [onesN]; omega
/-- byte by byte, the lowest one last -/
theorem onesN_bytes (x : Nat) : onesN 32 x = onesN 8 (x / 16777216) + onesN 8 (x / 65536 % 256) + onesN 8 (x / 256 % 256) + onesN 8 (x % 256) := by
  have h1 : onesN 32 x = onesN 8 x + onesN 24 (x / 256) := onesN_split 8 24 x
  have h2 : onesN 24 (x / 256) = onesN 8 (x / 256) + onesN 16 (x / 256 / 256) := onesN_split 8 16 (x / 256)
  have h3 : onesN 16 (x / 256 / 256) = onesN 8 (x / 256 / 256) + onesN 8 (x / 256 / 256 / 256) := onesN_split 8 8 (x / 256 / 256)
  have m1 : onesN 8 (x % 256) = onesN 8 x := onesN_mod 8 x
  have m2 : onesN 8 (x / 256 % 256) = onesN 8 (x / 256) := onesN_mod 8 (x / 256)
  have m3 : onesN 8 (x / 65536 % 256) = onesN 8 (x / 65536) := onesN_mod 8 (x / 65536)
  rw [show x / 256 / 256 / 256 = x / 16777216 by omega, show x / 256 / 256 = x / 65536 by omega] at h3
  rw [show x / 256 / 256 = x / 65536 by omega] at h2
  rw [m1, m2, m3, h1, h2, h3]
  omega
/-- how many flags are free, of the first k -/
def cntF (b : List Bool) : Nat → Nat
  | 0 => 0
  | k + 1 => cntF b k + if k < b.length ∧ b[k]! = false then 1 else 0
theorem onesN_cnt {b : List Bool} (hb : b.length = 24) : ∀ k, onesN k (frN b) = cntF b k
  | 0 => rfl
  | k + 1 => by
    have h := onesN_split k 1 (frN b)
    rw [h, onesN_cnt hb k]
    show cntF b k + _ = cntF b k + _
    congr 1
    have hbit := frN_bit hb k
    rw [Nat.testBit_eq_decide_div_mod_eq] at hbit
    simp only [onesN, Nat.add_zero]
    by_cases hk : k < b.length ∧ b[k]! = false
    · rw [if_pos hk]
      rw [hk.2, decide_eq_true (show k < 24 by omega)] at hbit
      simpa using hbit
    · rw [if_neg hk]
      have : (decide (k < 24) && !b[k]!) = false := by
        rw [Bool.and_eq_false_iff]
        by_cases h24 : k < 24
        · right
          cases hx : b[k]!
          · exact absurd ⟨by omega, hx⟩ hk
          · rfl
        · left; exact decide_eq_false h24
      rw [this] at hbit
      have := Nat.mod_two_eq_zero_or_one (frN b / 2 ^ k)
      simp at hbit
      omega
theorem cnt_free {b : List Bool} {s : Nat} : ∀ n, (∀ j : Nat, s ≤ j → j < s + n → j < b.length ∧ b[j]! = false) → cntF b (s + n) = cntF b s + n
  | 0, _ => rfl
  | n + 1, h => by
    rw [show s + (n + 1) = (s + n) + 1 by omega]
    show cntF b (s + n) + _ = _
    rw [cnt_free n fun j h1 h2 => h j h1 (by omega), if_pos (h (s + n) (by omega) (by omega))]
    omega
theorem cnt_sum (b : List Bool) : ∀ k, k ≤ b.length + 1 → rnSum (runsUp b k).2 = cntF b (runsUp b k).1
  | 0, _ => rfl
  | k + 1, hk => by
    have ih := cnt_sum b k (by omega)
    have hI := runsUp_is b k (by omega)
    show rnSum (runStep b (runsUp b k) k).2 = cntF b (runStep b (runsUp b k) k).1
    generalize runsUp b k = st at ih hI ⊢
    unfold runStep
    by_cases e : k < b.length ∧ b[k]! = false
    · rw [if_pos e]; exact ih
    · rw [if_neg e]
      have hle := hI.le
      have hcnt : cntF b (k + 1) = cntF b k := by show cntF b k + _ = _; rw [if_neg e]; rfl
      dsimp only
      rw [hcnt]
      by_cases e1 : st.1 < k
      · rw [if_pos e1, rnSum_append, ih]
        have h2 := cnt_free (b := b) (s := st.1) (k - st.1) fun j h1 h2 => ⟨by omega, hI.free j h1 (by omega) (by omega)⟩
        rw [show st.1 + (k - st.1) = k by omega] at h2
        simp only [rnSum]
        omega
      · rw [if_neg e1, ih, show st.1 = k by omega]
theorem free_ones {b : List Bool} (hb : b.length = 24) : freeN b = (onesN 32 (frN b) : Nat) := by
  have h := cnt_sum b 25 (by omega)
  have e : runsN b = (runsUp b 25).2 := by unfold runsN; rw [if_pos hb]
  unfold freeN
  rw [e, h, runsUp_fst b hb, onesN_split 24 8, onesN_cnt hb, Nat.div_eq_of_lt (by have := frN_lt hb; omega), onesN_zero]
  have e2 : cntF b 25 = cntF b 24 + if 24 < b.length ∧ b[24]! = false then 1 else 0 := rfl
  rw [if_neg (by omega)] at e2
  rw [e2]

/-- what putting flags over comes to -/
theorem set_msk {b : List Bool} (hb : b.length = 24) {p n : Nat} {x : Bool} (h : canSet b p n x) : blN (fN b ^^^ mskN p n) = setB b p n x := by
  refine bo_ext (blN_len _) (by rw [setB_len]; exact hb) fun j hj => ?_
  rw [blN_get _ _ hj, setB_get b p n x j (by omega), Nat.testBit_xor, fN_bit, mskN_bit]
  have h5 := h.2.2.2.2 j
  by_cases hc : (p : Int) ≤ j ∧ (j : Int) < p + (n : Int)
  · rw [if_pos hc, decide_eq_true (by omega)]
    have := h5 hc.1 hc.2
    cases hx : b[j]! <;> cases x <;> simp_all
  · rw [if_neg hc, decide_eq_false (by omega)]; simp
/-- may these flags be put? the program's way: the ones that are x already, and these, have none in common -/
theorem can_msk {b : List Bool} (hb : b.length = 24) {p n : Nat} {x : Bool} (h1 : 1 ≤ n) (h2 : p + n ≤ 24) : ((if x then fN b else frN b) &&& mskN p n = 0) ↔ canSet b p n x := by
  have hbit : ∀ j, ((if x then fN b else frN b) &&& mskN p n).testBit j = (decide (p ≤ j ∧ j < p + n) && (b[j]! == x)) := fun j => by
    rw [Nat.testBit_and, mskN_bit, Bool.and_comm]
    by_cases hc : p ≤ j ∧ j < p + n
    · rw [decide_eq_true hc]
      cases x
      · show (true && (frN b).testBit j) = _
        rw [frN_bit hb, decide_eq_true (show j < 24 by omega)]; cases b[j]! <;> rfl
      · show (true && (fN b).testBit j) = _
        rw [fN_bit]; cases b[j]! <;> rfl
    · rw [decide_eq_false hc]; simp
  constructor
  · intro h
    refine ⟨by omega, by omega, by omega, by omega, fun j e1 e2 e3 => ?_⟩
    have := hbit j
    rw [h, Nat.zero_testBit, decide_eq_true (show p ≤ j ∧ j < p + n by omega), e3] at this
    simp at this
  · intro h
    apply Nat.eq_of_testBit_eq
    intro j
    rw [hbit, Nat.zero_testBit]
    by_cases hc : p ≤ j ∧ j < p + n
    · have := h.2.2.2.2 j (by omega) (by omega)
      rw [decide_eq_true hc, Bool.true_and]
      simpa using this
    · rw [decide_eq_false hc]; rfl
end Go.Proofs.Ytkbkanmmpdeokaa
