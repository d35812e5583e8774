/- Plain facts on the rows of bytes that are a Var: the number that they say, and which rows are one. What spec.Fixed and impl.Fixed answer, at every argument. What spec.Var and impl.Var answer, at every argument. What spec.ReadVar and impl.ReadVar answer, at every string. The texts of numbers and of pieces. Pure. How numbers and pieces are read. Pure. How the specification reads numbers and pieces by places. Pure. -/
import Derived.Test.YtchcdgkpaipkgaaGreatDoorMa
import Derived.Test.YtchcdgkpaipkgaaGreatDoorRows
import Derived.WalkKit
import Derived.Laws.BitsLemmas
import Derived.WalkSpells
import Derived.WalkLawsBesides
import Derived.Deep.RegionWith
namespace Go.Proofs.YtchcdgkpaipkgaaGreatDoor

section
open Go.RowKit

/-- the bytes of a Var, of at most f + 1 bytes -/
def varL : Nat → Int → List UInt8
  | 0, n => [UInt8.ofNat n.toNat]
  | f + 1, n => if n < 128 then [UInt8.ofNat n.toNat] else UInt8.ofNat (n % 128 + 128).toNat :: varL f (n / 128)

theorem varL_small (f : Nat) (n : Int) (h : n < 128) : varL f n = [UInt8.ofNat n.toNat] := by
  cases f
  · rfl
  · simp [varL, h]

theorem varL_great (f : Nat) (n : Int) (h : 128 ≤ n) : varL (f + 1) n = UInt8.ofNat (n % 128 + 128).toNat :: varL f (n / 128) := by
  rw [varL, if_neg (by omega)]

/-- n is below 128 to the power of f + 1 -/
def fits (f : Nat) (n : Int) : Prop := n < 128 ^ (f + 1)

theorem fits_step (f : Nat) (n : Int) (h : fits f n) (hn : 128 ≤ n) : ∃ g, f = g + 1 ∧ fits g (n / 128) := by
  cases f with
  | zero => unfold fits at h; omega
  | succ g =>
    refine ⟨g, rfl, ?_⟩
    unfold fits at h ⊢
    rw [Int.pow_succ] at h
    exact Int.ediv_lt_of_lt_mul (by decide) h

/-- what seven bits of each byte say, the lowest first -/
def leV : List UInt8 → Int
  | [] => 0
  | b :: r => (b.toNat : Int) % 128 + 128 * leV r

theorem leV_snoc : ∀ (l : List UInt8) (b : UInt8), leV (l ++ [b]) = leV l + (b.toNat : Int) % 128 * 128 ^ l.length
  | [], b => by simp [leV]
  | a :: l, b => by
    simp only [List.cons_append, leV, leV_snoc l b, List.length_cons, Int.pow_succ, Int.mul_add]
    rw [Int.add_assoc]
    congr 2
    rw [Int.mul_comm 128, Int.mul_assoc]

theorem leV_len : ∀ l : List UInt8, 0 ≤ leV l ∧ leV l < 128 ^ l.length
  | [] => by simp [leV]
  | a :: l => by
    have := leV_len l
    simp only [leV, List.length_cons, Int.pow_succ]
    omega

theorem leV_bd (l : List UInt8) (k : Nat) (h : l.length ≤ k) : 0 ≤ leV l ∧ leV l < 128 ^ k := by
  have := leV_len l
  have h2 : (128 : Int) ^ l.length ≤ 128 ^ (l.length + (k - l.length)) := pow_mono 128 (by decide) _ _
  rw [show l.length + (k - l.length) = k from by omega] at h2
  omega

/-- 'y | x' where y lies below 2^i and x is a multiple of it -/
theorem or_low (i : Nat) (y x : Int) (hy₀ : 0 ≤ y) (hy : y < 2 ^ i) (hy₁ : y < 2 ^ 63) (hx₀ : 0 ≤ x) (hx : x % 2 ^ i = 0) (hx₁ : x < 2 ^ 63) : bits .or .i64 y x = y + x := by
  have h := bits_join .i64 63 (by decide) wraps_i64 i x y hx₀ hx hx₁ hy₀ hy hy₁
  obtain ⟨a, rfl⟩ := Int.eq_ofNat_of_zero_le hx₀
  obtain ⟨b, rfl⟩ := Int.eq_ofNat_of_zero_le hy₀
  have ha : a < 2 ^ 63 := by omega
  have hb : b < 2 ^ 63 := by omega
  rw [(bits_nat .i64 63 (by decide) wraps_i64 a b ha hb).2] at h
  rw [(bits_nat .i64 63 (by decide) wraps_i64 b a hb ha).2, Nat.or_comm, h]
  omega

/-- the row is what Var makes: each byte but the last is 128 or more, the last is below 128 and not 0 behind another one -/
def isV : List UInt8 → Bool
  | [] => false
  | [b] => decide (b.toNat < 128)
  | b :: c :: r => decide (128 ≤ b.toNat) && isV (c :: r) && !(decide (r = []) && decide (c = 0))

theorem of_nat_byte (b : UInt8) : UInt8.ofNat b.toNat = b := by simp

theorem varL_isV : ∀ (t : List UInt8) (f : Nat), t.length ≤ f + 1 → t ≠ [] → (varL f (leV t) = t ↔ isV t = true)
  | [], _, _, h => absurd rfl h
  | [b], f, _, _ => by
    have hb := b.toNat_lt
    rw [varL_small _ _ (by simp [leV]; omega)]
    simp only [leV, isV, decide_eq_true_eq]
    constructor
    · intro h
      simp only [List.cons.injEq, and_true] at h
      have h2 := congrArg UInt8.toNat h
      simp at h2
      omega
    · intro h
      congr 1
      rw [show ((b.toNat : Int) % 128 + 128 * 0).toNat = b.toNat from by omega, of_nat_byte]
  | b :: c :: r, f, hf, _ => by
    have hb := b.toNat_lt
    cases f with
    | zero => simp at hf
    | succ g =>
      have ih := varL_isV (c :: r) g (by simpa using hf) (by simp)
      have hl := leV_len (c :: r)
      have e : leV (b :: c :: r) = (b.toNat : Int) % 128 + 128 * leV (c :: r) := rfl
      generalize hm : leV (c :: r) = m at *
      rw [e]
      simp only [isV, Bool.and_eq_true, decide_eq_true_eq]
      by_cases h0 : m = 0
      · subst h0
        rw [varL_small _ _ (by omega)]
        constructor
        · intro h; simp at h
        · rintro ⟨⟨_, h2⟩, h3⟩
          have h4 := ih.2 h2
          rw [varL_small _ _ (by omega)] at h4
          simp at h4
          obtain ⟨rfl, rfl⟩ := h4
          simp at h3
      · rw [varL_great _ _ (by omega)]
        rw [show ((b.toNat : Int) % 128 + 128 * m) % 128 = (b.toNat : Int) % 128 from by omega, show ((b.toNat : Int) % 128 + 128 * m) / 128 = m from by omega]
        constructor
        · intro h
          simp only [List.cons.injEq] at h
          obtain ⟨h1, h2⟩ := h
          refine ⟨⟨?_, ih.1 h2⟩, ?_⟩
          · have h3 := congrArg UInt8.toNat h1
            simp at h3
            omega
          · simp only [Bool.not_eq_true', Bool.and_eq_false_iff, decide_eq_false_iff_not]
            by_cases hr : r = []
            · right
              rintro rfl
              subst hr
              simp [leV] at hm
              omega
            · exact Or.inl hr
        · rintro ⟨⟨h1, h2⟩, _⟩
          rw [ih.2 h2]
          congr 1
          rw [show ((b.toNat : Int) % 128 + 128).toNat = b.toNat from by omega, of_nat_byte]

theorem isV_prefix : ∀ (t u : List UInt8), isV t = true → isV (t ++ u) = true → u = []
  | [], _, h, _ => by simp [isV] at h
  | [b], [], _, _ => rfl
  | [b], c :: u, h1, h2 => by simp [isV] at h1 h2; omega
  | b :: c :: r, u, h1, h2 => by
    simp only [List.cons_append, isV, Bool.and_eq_true] at h1 h2
    exact isV_prefix (c :: r) u h1.1.2 h2.1.2

/-- what reading a Var at the head of l comes to -/
def RdVar (l : List UInt8) (n k : Int) : Prop :=
  (∃ j : Nat, 1 ≤ j ∧ j ≤ 7 ∧ j ≤ l.length ∧ isV (l.take j) = true ∧ n = leV (l.take j) ∧ k = j) ∨
  ((∀ j : Nat, 1 ≤ j → j ≤ 7 → j ≤ l.length → isV (l.take j) = false) ∧ n = 0 ∧ k = 0)

theorem take_one (l : List UInt8) (i j : Nat) (hij : i ≤ j) (hj : j ≤ l.length) (h1 : isV (l.take i) = true) (h2 : isV (l.take j) = true) : i = j := by
  have e : l.take j = l.take i ++ (l.take j).drop i := by
    have := List.take_append_drop i (l.take j)
    rw [List.take_take, Nat.min_eq_left hij] at this
    exact this.symm
  rw [e] at h2
  have h3 := isV_prefix _ _ h1 h2
  have h4 := congrArg List.length h3
  simp at h4
  omega

theorem RdVar_one (l : List UInt8) (n k n' k' : Int) (h : RdVar l n k) (h' : RdVar l n' k') : n = n' ∧ k = k' := by
  rcases h with ⟨j, a1, a2, a3, a4, rfl, rfl⟩ | ⟨a, rfl, rfl⟩
  · rcases h' with ⟨i, b1, b2, b3, b4, rfl, rfl⟩ | ⟨b, rfl, rfl⟩
    · have : i = j := by
        by_cases hij : i ≤ j
        · exact take_one l i j hij a3 b4 a4
        · exact (take_one l j i (by omega) b3 a4 b4).symm
      subst this
      exact ⟨rfl, rfl⟩
    · rw [b j a1 a2 a3] at a4; cases a4
  · rcases h' with ⟨i, b1, b2, b3, b4, rfl, rfl⟩ | ⟨b, rfl, rfl⟩
    · rw [a i b1 b2 b3] at b4; cases b4
    · exact ⟨rfl, rfl⟩

/-- all bytes are 128 or more -/
def high (l : List UInt8) : Prop := ∀ b ∈ l, 128 ≤ b.toNat

theorem high_not : ∀ l : List UInt8, high l → isV l = false
  | [], _ => rfl
  | [b], h => by have := h b (by simp); simp [isV]; omega
  | b :: c :: r, h => by
    have h1 := high_not (c :: r) (fun x hx => h x (by simp only [List.mem_cons] at hx ⊢; exact Or.inr hx))
    simp [isV, h1]

theorem isV_high : ∀ (l : List UInt8) (b : UInt8), high l → b.toNat < 128 → isV (l ++ [b]) = !(decide (l ≠ []) && decide (b = 0))
  | [], b, _, hb => by simp [isV, hb]
  | [a], b, h, hb => by
    have := h a (by simp)
    simp [isV, hb, this]
  | a :: c :: r, b, h, hb => by
    have h1 := isV_high (c :: r) b (fun x hx => h x (by simp only [List.mem_cons] at hx ⊢; exact Or.inr hx)) hb
    have := h a (by simp)
    simp only [List.cons_append] at h1 ⊢
    simp [isV, h1, this]

theorem high_snoc (l : List UInt8) (b : UInt8) (h : high l) (hb : 128 ≤ b.toNat) : high (l ++ [b]) := fun x hx => by
  rcases List.mem_append.1 hx with h1 | h1
  · exact h x h1
  · simp at h1; subst h1; exact hb

theorem high_take (l : List UInt8) (i j : Nat) (hij : i ≤ j) (h : high (l.take j)) : high (l.take i) := fun b hb => h b (by
  have : l.take i = (l.take j).take i := by rw [List.take_take, Nat.min_eq_left hij]
  rw [this] at hb
  exact List.mem_of_mem_take hb)

theorem isV_low : ∀ (l : List UInt8) (b : UInt8) (u : List UInt8), high l → b.toNat < 128 → u ≠ [] → isV (l ++ b :: u) = false
  | [], b, c :: u, _, hb, _ => by simp [isV]; omega
  | [], _, [], _, _, h => absurd rfl h
  | [a], b, u, h, hb, hu => by
    have h1 := isV_low [] b u (by simp [high]) hb hu
    simp only [List.nil_append] at h1
    simp [isV, h1]
  | a :: c :: r, b, u, h, hb, hu => by
    have h1 := isV_low (c :: r) b u (fun x hx => h x (by simp only [List.mem_cons] at hx ⊢; exact Or.inr hx)) hb hu
    simp only [List.cons_append] at h1 ⊢
    simp [isV, h1]

theorem rd_end (l : List UInt8) (k : Nat) (hk : 7 ≤ k ∨ l.length ≤ k) (h : high (l.take k)) : RdVar l 0 0 := by
  refine Or.inr ⟨fun j h1 h2 h3 => high_not _ (high_take l j k ?_ h), rfl, rfl⟩
  omega

theorem rd_nought (l : List UInt8) (k : Nat) (b : UInt8) (e : l.take (k + 1) = l.take k ++ [b]) (hl : k < l.length) (h : high (l.take k)) (hb : b = 0) (hk : 0 < k) : RdVar l 0 0 := by
  refine Or.inr ⟨fun j h1 h2 h3 => ?_, rfl, rfl⟩
  have hb' : b.toNat < 128 := by subst hb; decide
  by_cases hj : j ≤ k
  · exact high_not _ (high_take l j k hj h)
  · have e2 : l.take j = l.take k ++ b :: (l.take j).drop (k + 1) := by
      have h4 := List.take_append_drop (k + 1) (l.take j)
      rw [List.take_take, Nat.min_eq_left (by omega), e, List.append_assoc] at h4
      exact h4.symm
    by_cases hj2 : j = k + 1
    · subst hj2
      rw [e, isV_high _ _ h hb']
      have : l.take k ≠ [] := by intro h5; have := congrArg List.length h5; rw [List.length_take, List.length_nil] at this; omega
      simp [hb, this]
    · rw [e2]
      refine isV_low _ _ _ h hb' ?_
      intro h5
      have := congrArg List.length h5
      simp at this
      omega

theorem rd_some (l : List UInt8) (k : Nat) (b : UInt8) (e : l.take (k + 1) = l.take k ++ [b]) (hl : k < l.length) (h7 : k < 7) (h : high (l.take k)) (hb : b.toNat < 128) (hk : ¬ (b = 0 ∧ 0 < k)) : RdVar l (leV (l.take (k + 1))) ((k : Int) + 1) := by
  refine Or.inl ⟨k + 1, by omega, by omega, by omega, ?_, rfl, by omega⟩
  rw [e, isV_high _ _ h hb]
  by_cases hb0 : b = 0
  · have hk0 : k = 0 := by
      by_cases h1 : k = 0
      · exact h1
      · exact absurd ⟨hb0, by omega⟩ hk
    simp [hk0]
  · simp [hb0]

/-- 'n | (b % 128) << (7*k)', n what k bytes say -/
theorem or7 (l : List UInt8) (k : Nat) (b : UInt8) (hl : l.length = k) (hk : k < 7) : bits .or .i64 (leV l) (wrap64 ((b.toNat : Int) % 128 * 2 ^ (7 * k))) = leV (l ++ [b]) := by
  have e : (2 : Int) ^ (7 * k) = 128 ^ k := by rw [Int.pow_mul]; rfl
  have h1 := leV_len l
  have h2 : (128 : Int) ^ k ≤ 128 ^ (k + (6 - k)) := pow_mono 128 (by decide) _ _
  rw [show k + (6 - k) = 6 from by omega] at h2
  rw [hl] at h1
  have hp : (0 : Int) < 128 ^ k := Int.pow_pos (by decide)
  have hx1 : (b.toNat : Int) % 128 * 128 ^ k ≤ 127 * 128 ^ k := Int.mul_le_mul_of_nonneg_right (by omega) (by omega)
  have hx0 : 0 ≤ (b.toNat : Int) % 128 * 128 ^ k := Int.mul_nonneg (by omega) (by omega)
  have hx2 : (b.toNat : Int) % 128 * 2 ^ (7 * k) % 2 ^ (7 * k) = 0 := Int.mul_emod_left _ _
  rw [leV_snoc, hl]
  rw [IntWalk.wrap64_in _ (by rw [e]; omega)]
  rw [or_low (7 * k) _ _ h1.1 (by rw [e]; exact h1.2) (by omega) (by rw [e]; exact hx0) hx2 (by rw [e]; omega), e]
end

section
open Go.RowKit

theorem Tryz.infoU8 : (Tryz.prog.info? 5).map (fun i => (i.zero, i.size, i.bytes)) = some (some (.int .u8 0), 1, 1) := by kernel_rfl

/-- the k lowest bytes of n, the highest first -/
def beB : Nat → Int → List UInt8
  | 0, _ => []
  | k + 1, n => UInt8.ofNat (n / 256 ^ k % 256).toNat :: beB k n

def fixL (k : Nat) (n : Int) : List UInt8 := if n / 256 ^ k = 0 then beB k n else []

theorem beB_length : ∀ k n, (beB k n).length = k
  | 0, _ => rfl
  | k + 1, n => by simp [beB, beB_length k n]

theorem p8 (d : Nat) : (2 : Int) ^ (8 * d) = 256 ^ d := by rw [Int.pow_mul]; rfl

theorem fix_start (d : Nat) (n : Int) : bytesV (List.replicate (d - 0) 0 ++ beB 0 n) = (madeCells #[.int .u8 0] (d * 1)).toList := by
  rw [toList_madeCells_one]; simp [bytesV, beB]

theorem fix_step (d k : Nat) (n : Int) (h : k < d) : (bytesV (List.replicate (d - k) 0 ++ beB k n)).set (d - 1 - k) (.int .u8 (n / 256 ^ k % 256)) = bytesV (List.replicate (d - (k + 1)) 0 ++ beB (k + 1) n) := by
  have e1 : List.replicate (d - k) (0 : UInt8) = List.replicate (d - (k + 1)) 0 ++ [0] := by
    rw [show d - k = (d - (k + 1)) + 1 from by omega, List.replicate_succ']
  have hb : (0 : Int) ≤ n / 256 ^ k % 256 ∧ n / 256 ^ k % 256 < 256 := by omega
  rw [e1]
  simp only [bytesV, List.map_append, beB, List.map_cons, List.append_assoc, List.cons_append, List.nil_append]
  rw [List.set_append_right _ _ (by simp; omega)]
  simp only [List.length_map, List.length_replicate]
  rw [show d - 1 - k - (d - (k + 1)) = 0 from by omega, List.set_cons_zero]
  congr 3
  simp
  omega

theorem str_cons (b : UInt8) (l : List UInt8) : Value.string ((⟨#[b]⟩ : ByteArray) ++ ⟨l.toArray⟩) = Value.string ⟨(b :: l).toArray⟩ := by
  congr 1

theorem quo_bd (n : Int) (k : Nat) (h0 : 0 ≤ n) (h1 : n ≤ 9223372036854775807) : 0 ≤ n / 256 ^ k ∧ n / 256 ^ k ≤ 9223372036854775807 := by
  have hp : (0 : Int) < 256 ^ k := Int.pow_pos (by decide)
  have h2 : n / 256 ^ k ≤ n := Int.ediv_le_self _ h0
  exact ⟨Int.ediv_nonneg h0 (by omega), by omega⟩

theorem quo_succ (n : Int) (k : Nat) : n / 256 ^ (k + 1) = n / 256 ^ k / 256 := by
  rw [Int.pow_succ, Int.ediv_ediv_of_nonneg (Int.pow_nonneg (by decide))]
end

section
open Go.RowKit

theorem sVar_no (n : Int) (w : World) (h : inB n 0 562949953421311 = false) :
    Calls Tryz.prog 28 #[.int .i64 n] w fun e w' => e = .returned (.string ⟨#[]⟩) ∧ w = w' := by
  go_enter Tryz.func28, Tryz.ntmps28
  go_wp2_with (go_at_call 41; refine (in_any _ _ _ _).mono ?_; rintro e w' ⟨rfl, rfl⟩)
  go_ret
  exact ⟨rfl, rfl⟩

set_option maxRecDepth 100000 in
set_option maxHeartbeats 400000 in
theorem sVar_yes (n : Int) (w : World) (hb : inB n 0 562949953421311 = true) :
    Calls Tryz.prog 28 #[.int .i64 n] w fun e w' => e = .returned (.string ⟨(varL 6 n).toArray⟩) ∧ Below w.heap.size w w' := by
  have hn := inB_le hb
  go_enter Tryz.func28, Tryz.ntmps28
  go_wp2_with (go_at_call 41; refine (in_any _ _ _ _).mono ?_; rintro e w' ⟨rfl, rfl⟩)
  go_loopw [0, 3] (fun q v wr => ∃ (f : Nat) (l : List UInt8) (m : Int), q = .int .i64 m ∧ 0 ≤ m ∧ m ≤ 562949953421311 ∧ fits f m ∧ l.length + f = 6 ∧ l ++ varL f m = varL 6 n ∧ wr.ownsRow w.heap.size 5 1 v l.length (bytesV l) ∧ Below w.heap.size w wr) (fun q _ _ => (intOf q).toNat)
  case atStart => exact ⟨6, [], n, rfl, hn.1, hn.2, by unfold fits; omega, rfl, rfl, empty_row _ _, (Below.refl _ _).alloc (Nat.le_refl _) _⟩
  case round =>
    obtain ⟨f, l, m, rfl, hm0, hm1, hf, hlf, hl, hown, hbel⟩ := hrel
    have HL : Hid (l ++ varL f m = varL 6 n) := hl
    have HF : Hid (fits f m) := hf
    clear hl hf
    by_cases hlt : 128 ≤ m
    · obtain ⟨g, hg, hfg⟩ := fits_step f m HF.out hlt
      have HG : Hid (f = g + 1 ∧ fits g (m / 128)) := ⟨hg, hfg⟩
      clear hg hfg
      go_wp2_with (at_builtin; (refine append_byte wr rfl (.tmp 10) (.tmp 15) 63 5 rfl w.heap.size Tryz.underlying63 Tryz.infoU8 _ l (128 + m % 128) (by omega) (by omega) (by omega) hown rfl rfl hbel.size ?_); intro v' w1 hown1 hbel1)
      go_roundw
      case rel =>
        obtain ⟨rfl, hfg⟩ := HG.out
        refine ⟨g, l ++ [UInt8.ofNat (128 + m % 128).toNat], m / 128, rfl, by omega, by omega, hfg, by simp; omega, ?_, hown1, hbel.trans hbel1⟩
        rw [← HL.out, varL_great _ _ hlt, Int.add_comm 128, List.append_assoc]; rfl
      case measure => simp [intOf]; omega
    · have HZ : Hid (l ++ [UInt8.ofNat m.toNat] = varL 6 n) := by have h1 := HL.out; rw [varL_small f m (by omega)] at h1; exact h1
      go_wp2_with (at_builtin; refine append_byte wr rfl (.tmp 19) (.tmp 22) 63 5 rfl w.heap.size Tryz.underlying63 Tryz.infoU8 _ l m (by omega) (by omega) (by omega) hown rfl rfl hbel.size ?_; intro v' w1 hown1 hbel1; have hcv := row_string (P := Tryz.prog) (T := 9) Tryz.underlying63 Tryz.underlying5 Tryz.underlying9 hown1)
      go_ret
      exact ⟨ret_str (by rw [HZ.out]), hbel.trans hbel1⟩

theorem iVar_no (n : Int) (w : World) (h : inB n 0 562949953421311 = false) :
    Calls Tryz.prog 48 #[.int .i64 n] w fun e w' => e = .returned (.string ⟨#[]⟩) ∧ w = w' := by
  rcases inB_no h with h1 | h1
  · go_enter Tryz.func48, Tryz.ntmps48
    go_wp2
    go_ret
    exact ⟨rfl, rfl⟩
  · go_enter Tryz.func48, Tryz.ntmps48
    go_wp2
    go_ret
    exact ⟨rfl, rfl⟩

set_option maxRecDepth 100000 in
set_option maxHeartbeats 400000 in
theorem iVar_yes (n : Int) (w : World) (hb : inB n 0 562949953421311 = true) :
    Calls Tryz.prog 48 #[.int .i64 n] w fun e w' => e = .returned (.string ⟨(varL 6 n).toArray⟩) ∧ Below w.heap.size w w' := by
  have hn := inB_le hb
  obtain ⟨i0, hi, hz0, hz1, hz2⟩ := info_parts Tryz.infoU8
  go_enter Tryz.func48, Tryz.ntmps48
  go_wp2_with (at_make; refine wpList_make_own _ rfl _ _ 63 rfl w.heap.size 5 i0 (.int .u8 0) 1 Tryz.underlying63 hi hz0 hz1 .i64 .i64 _ 7 rfl rfl rfl (by rw [hz2]; omega) (by unfold maxLen; omega) (Nat.le_refl _) ?_; intro w1 hown1 hgrow1)
  have hbel2 : Below w.heap.size w w1 := (Below.refl _ _).grown hgrow1 (Nat.le_refl _) (fun _ h => by cases h)
  clear hgrow1 hi hz0 hz1 hz2
  go_loopw [0, 3, 11] (fun q v i wr => ∃ (f : Nat) (l : List UInt8) (m : Int), q = .int .i64 m ∧ i = .int .i64 l.length ∧ 0 ≤ m ∧ m ≤ 562949953421311 ∧ fits f m ∧ l.length + f = 6 ∧ l ++ varL f m = varL 6 n ∧ wr.ownsRow w.heap.size 5 1 v l.length (bytesV l) ∧ Below w.heap.size w wr) (fun q _ _ _ => (intOf q).toNat)
  case atStart => exact ⟨6, [], n, rfl, rfl, hn.1, hn.2, by unfold fits; omega, rfl, rfl, hown1, hbel2⟩
  case round =>
    obtain ⟨f, l, m, rfl, rfl, hm0, hm1, hf, hlf, hl, hown, hbel⟩ := hrel
    have HL : Hid (l ++ varL f m = varL 6 n) := hl
    have HF : Hid (fits f m) := hf
    clear hl hf
    by_cases hlt : 128 ≤ m
    · obtain ⟨g, hg, hfg⟩ := fits_step f m HF.out hlt
      have HG : Hid (f = g + 1 ∧ fits g (m / 128)) := ⟨hg, hfg⟩
      clear hg hfg
      go_wp2_with (at_builtin; refine append_byte wr rfl (.tmp 15) (.tmp 20) 63 5 rfl w.heap.size Tryz.underlying63 Tryz.infoU8 _ l (m % 128 + 128) (by omega) (by omega) (by omega) hown rfl rfl hbel.size ?_; intro v' w1 hown1 hbel1)
      go_roundw
      case rel =>
        obtain ⟨rfl, hfg⟩ := HG.out
        refine ⟨g, l ++ [UInt8.ofNat (m % 128 + 128).toNat], m / 128, rfl, by rw [List.length_append]; go_num, by omega, by omega, hfg, by simp; omega, ?_, hown1, hbel.trans hbel1⟩
        rw [← HL.out, varL_great _ _ hlt, List.append_assoc]; rfl
      case measure => simp [intOf]; omega
    · have HZ : Hid (l ++ [UInt8.ofNat m.toNat] = varL 6 n) := by have h1 := HL.out; rw [varL_small f m (by omega)] at h1; exact h1
      go_wp2_with (at_builtin; refine append_byte wr rfl (.tmp 25) (.tmp 28) 63 5 rfl w.heap.size Tryz.underlying63 Tryz.infoU8 _ l m (by omega) (by omega) (by omega) hown rfl rfl hbel.size ?_; intro v' w1 hown1 hbel1; have hcv := row_string (P := Tryz.prog) (T := 9) Tryz.underlying63 Tryz.underlying5 Tryz.underlying9 hown1)
      go_ret
      exact ⟨ret_str (by rw [HZ.out]), hbel.trans hbel1⟩
end

section
open Go.RowKit
end

section
open Go.RowKit

theorem varL_le7 : ∀ (f : Nat) (n : Int), (varL f n).length ≤ f + 1
  | 0, n => by simp [varL]
  | f + 1, n => by
    unfold varL
    split
    · simp
    · have := varL_le7 f (n / 128); simp; omega
/-- the text of a number -/
def varT (n : Int) : ByteArray := if inB n 0 562949953421311 = true then ⟨(varL 6 n).toArray⟩ else ⟨#[]⟩
theorem varT_size (n : Int) : (varT n).size ≤ 7 := by
  unfold varT
  split
  · have := varL_le7 6 n; simpa [ByteArray.size] using this
  · simp [ByteArray.size]
theorem app_assoc (a b c : ByteArray) : a ++ b ++ c = a ++ (b ++ c) := list_ext (by simp)
theorem app_nil (a : ByteArray) : a ++ (⟨#[]⟩ : ByteArray) = a := list_ext (by simp)
theorem app_size (a b : ByteArray) : (a ++ b).size = a.size + b.size := by simp
def pieceT (s : ByteArray) : ByteArray := varT s.size ++ s
theorem pieceT_size (s : ByteArray) : (pieceT s).size ≤ 7 + s.size := by
  unfold pieceT; rw [app_size]; have := varT_size s.size; omega
end

section
open Go.RowKit

theorem varL_pos (f : Nat) (n : Int) : 1 ≤ (varL f n).length := by
  cases f with
  | zero => simp [varL]
  | succ f => unfold varL; split <;> simp
theorem leV_of_varL : ∀ f n, 0 ≤ n → fits f n → leV (varL f n) = n
  | 0, n, h0, h => by
    unfold fits at h
    simp [varL, leV]; omega
  | f + 1, n, h0, h => by
    by_cases hs : n < 128
    · rw [varL_small _ _ hs]; simp [leV]; omega
    · obtain ⟨g, hg, hfg⟩ := fits_step _ n h (by omega)
      obtain rfl : f = g := by omega
      rw [varL_great _ _ (by omega), leV, leV_of_varL f (n / 128) (by omega) hfg]
      simp
      omega
theorem isV_of_varL (n : Int) (h0 : 0 ≤ n) (h1 : n ≤ 562949953421311) : isV (varL 6 n) = true := by
  have hl := leV_of_varL 6 n h0 (by unfold fits; omega)
  refine (varL_isV (varL 6 n) 6 (varL_le7 6 n) (fun h => by have := varL_pos 6 n; rw [h] at this; simp at this)).1 ?_
  rw [hl]
theorem rdVar_back (n : Int) (t : List UInt8) (h0 : 0 ≤ n) (h1 : n ≤ 562949953421311) : RdVar (varL 6 n ++ t) n (varL 6 n).length := by
  have e : (varL 6 n ++ t).take (varL 6 n).length = varL 6 n := by rw [List.take_append_of_le_length (Nat.le_refl _), List.take_length]
  refine Or.inl ⟨(varL 6 n).length, varL_pos 6 n, varL_le7 6 n, by simp, ?_, ?_, rfl⟩
  · rw [e]; exact isV_of_varL n h0 h1
  · rw [e]; exact (leV_of_varL 6 n h0 (by unfold fits; omega)).symm

/-- of how many bytes the number at the head of l is, 0 where there is none -/
def rdK (l : List UInt8) : Nat := ((List.range 8).find? fun j => decide (1 ≤ j) && decide (j ≤ l.length) && isV (l.take j)).getD 0
/-- the number at the head of l -/
def rdN (l : List UInt8) : Int := leV (l.take (rdK l))
theorem rd_is (l : List UInt8) : RdVar l (rdN l) (rdK l) := by
  unfold rdN rdK
  cases h : (List.range 8).find? fun j => decide (1 ≤ j) && decide (j ≤ l.length) && isV (l.take j) with
  | some j =>
    have h1 := List.find?_some h
    have h2 := List.mem_of_find?_eq_some h
    simp only [Bool.and_eq_true, decide_eq_true_eq] at h1
    have := List.mem_range.1 h2
    exact .inl ⟨j, h1.1.1, by omega, h1.1.2, h1.2, rfl, rfl⟩
  | none =>
    rw [List.find?_eq_none] at h
    refine .inr ⟨fun j h1 h2 h3 => ?_, by simp [leV], rfl⟩
    have := h j (List.mem_range.2 (by omega))
    simpa [h1, h3] using this
theorem rd_eq {l : List UInt8} {n k : Int} (h : RdVar l n k) : n = rdN l ∧ k = rdK l := RdVar_one l _ _ _ _ h (rd_is l)
theorem rd_var (n : Int) (t : List UInt8) (h0 : 0 ≤ n) (h1 : n ≤ 562949953421311) : rdN (varL 6 n ++ t) = n ∧ rdK (varL 6 n ++ t) = (varL 6 n).length := by
  have h := rd_eq (rdVar_back n t h0 h1)
  exact ⟨h.1.symm, by have := h.2; omega⟩
theorem rdK_le (l : List UInt8) : rdK l ≤ l.length ∧ rdK l ≤ 7 := by
  rcases rd_is l with ⟨j, h1, h2, h3, h4, h5, h6⟩ | ⟨h1, h2, h3⟩ <;> omega
theorem rdN_in (l : List UInt8) : 0 ≤ rdN l ∧ rdN l ≤ 562949953421311 := by
  have h := leV_bd (l.take (rdK l)) 7 (by have := rdK_le l; rw [List.length_take]; omega)
  unfold rdN; omega

/-- the bytes of a number's text -/
def varB (n : Int) : List UInt8 := (varT n).data.toList
theorem varB_is {n : Int} (h0 : 0 ≤ n) (h1 : n ≤ 562949953421311) : varB n = varL 6 n := by
  unfold varB varT; rw [if_pos (inB_mk h0 h1)]
def bA (l : List UInt8) : ByteArray := ⟨l.toArray⟩
theorem bA_of (s : ByteArray) : bA s.data.toList = s := list_ext (by simp [bA])
theorem bA_list (l : List UInt8) : (bA l).data.toList = l := by simp [bA]
theorem bA_size (l : List UInt8) : (bA l).size = l.length := by simp [bA, ByteArray.size]

/-! the program's cursor -/
def numR (l : List UInt8) : Option (Int × List UInt8) := if rdK l = 0 then none else some (rdN l, l.drop (rdK l))
def takR (n : Int) (l : List UInt8) : Option (List UInt8 × List UInt8) := if (l.length : Int) < n then none else some (l.take n.toNat, l.drop n.toNat)
def pieR (l : List UInt8) : Option (List UInt8 × List UInt8) := (numR l).bind fun p => takR p.1 p.2
def mrkR (m : UInt8) (l : List UInt8) : Option (List UInt8) := match l with
  | [] => none
  | b :: r => if b = m then some r else none
theorem mrkR_cons (m : UInt8) (t : List UInt8) : mrkR m (m :: t) = some t := by simp [mrkR]
theorem numR_var (n : Int) (t : List UInt8) (h0 : 0 ≤ n) (h1 : n ≤ 562949953421311) : numR (varB n ++ t) = some (n, t) := by
  rw [varB_is h0 h1]
  unfold numR
  have h := rd_var n t h0 h1
  rw [h.1, h.2, if_neg (by have := varL_pos 6 n; omega)]
  simp
theorem takR_app (a t : List UInt8) : takR (a.length : Int) (a ++ t) = some (a, t) := by
  unfold takR
  rw [if_neg (by rw [List.length_append]; omega)]
  simp
theorem app_list (a b : ByteArray) : (a ++ b).data.toList = a.data.toList ++ b.data.toList := by simp
/-- a piece's bytes -/
def pieB (s : ByteArray) : List UInt8 := (pieceT s).data.toList
theorem pieB_is (s : ByteArray) : pieB s = varB s.size ++ s.data.toList := by unfold pieB pieceT varB; exact app_list _ _
theorem size_list (s : ByteArray) : s.data.toList.length = s.size := by rw [Array.length_toList]; rfl
theorem pieR_app (s : ByteArray) (t : List UInt8) (hs : s.size ≤ 1048576) : pieR (pieB s ++ t) = some (s.data.toList, t) := by
  unfold pieR
  rw [pieB_is, List.append_assoc, numR_var _ _ (by omega) (by omega)]
  show takR _ _ = _
  rw [← size_list s]
  exact takR_app _ _
end

section
open Go.RowKit

def varsS (l : List UInt8) : Nat → Int → List Int × Int
  | 0, p => ([], p)
  | n + 1, p => if p < 0 ∨ (l.length : Int) < p then ([], -1) else if rdK (l.drop p.toNat) = 0 then ([], -1) else
    (rdN (l.drop p.toNat) :: (varsS l n (p + rdK (l.drop p.toNat))).1, (varsS l n (p + rdK (l.drop p.toNat))).2)
def takS (l : List UInt8) (p : Int) : List UInt8 × Int :=
  if (varsS l 1 p).2 < 0 ∨ (l.length : Int) - (varsS l 1 p).2 < (varsS l 1 p).1[0]! then ([], -1) else ((l.drop (varsS l 1 p).2.toNat).take (varsS l 1 p).1[0]!.toNat, (varsS l 1 p).2 + (varsS l 1 p).1[0]!)

/-- t stands at place p -/
structure Rest (l : List UInt8) (p : Nat) (t : List UInt8) : Prop where
  le : p ≤ l.length
  eq : l.drop p = t
theorem Rest.next {l : List UInt8} {p : Nat} {a t : List UInt8} (h : Rest l p (a ++ t)) : Rest l (p + a.length) t := by
  have h1 := congrArg List.length h.eq
  rw [List.length_drop, List.length_append] at h1
  have := h.le
  refine ⟨by omega, ?_⟩
  rw [← List.drop_drop, h.eq]; simp
theorem vars_step {l : List UInt8} {p : Nat} {n : Int} {t : List UInt8} (h : Rest l p (varB n ++ t)) (h0 : 0 ≤ n) (h1 : n ≤ 562949953421311) (m : Nat) :
    varsS l (m + 1) (p : Int) = (n :: (varsS l m ((p + (varB n).length : Nat) : Int)).1, (varsS l m ((p + (varB n).length : Nat) : Int)).2) := by
  have hle := h.le
  rw [varsS, if_neg (by omega), Int.toNat_natCast, h.eq, varB_is h0 h1]
  have hr := rd_var n t h0 h1
  have hp := varL_pos 6 n
  rw [hr.1, hr.2, if_neg (by omega)]
  rw [show (p : Int) + ((varL 6 n).length : Int) = ((p + (varL 6 n).length : Nat) : Int) by omega]
theorem vars_one {l : List UInt8} {p : Nat} {n : Int} {t : List UInt8} (h : Rest l p (varB n ++ t)) (h0 : 0 ≤ n) (h1 : n ≤ 562949953421311) :
    varsS l 1 (p : Int) = ([n], ((p + (varB n).length : Nat) : Int)) := by
  rw [vars_step h h0 h1]; rfl
theorem tak_at {l : List UInt8} {p : Nat} {s : ByteArray} {t : List UInt8} (h : Rest l p (pieB s ++ t)) (hs : s.size ≤ 1048576) :
    takS l (p : Int) = (s.data.toList, ((p + (pieB s).length : Nat) : Int)) := by
  have h2 := h
  rw [pieB_is, List.append_assoc] at h
  have hv := vars_one h (by omega) (by omega)
  have hn := h.next
  have hl := congrArg List.length hn.eq
  have hle := hn.le
  rw [List.length_drop, List.length_append, size_list] at hl
  unfold takS
  rw [hv]
  have e0 : ([(s.size : Int)] : List Int)[0]! = (s.size : Int) := rfl
  simp only [e0]
  rw [if_neg (by omega), Int.toNat_natCast, Int.toNat_natCast, hn.eq]
  refine Prod.ext ?_ ?_
  · show ((s.data.toList ++ t).take s.size) = _
    rw [← size_list s]; simp
  · show ((p + (varB s.size).length : Nat) : Int) + (s.size : Int) = _
    rw [pieB_is, List.length_append, size_list]; omega
end

end Go.Proofs.YtchcdgkpaipkgaaGreatDoor
