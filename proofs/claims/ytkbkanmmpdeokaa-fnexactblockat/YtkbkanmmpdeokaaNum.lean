/- Plain facts on numbers and rows of bytes, with no word of the program: what a big-endian row of bytes says, and its bounds. -/
import Derived.WalkKit
import Derived.Laws.BitsLemmas
import Derived.Lib.Strings
namespace Go.Proofs.Ytkbkanmmpdeokaa
open Go.RowKit

def inB (x l h : Int) : Bool := decide (l ≤ x) && decide (x ≤ h)

theorem inB_mk {x l h : Int} (a : l ≤ x) (b : x ≤ h) : inB x l h = true := by simp [inB, a, b]
theorem inB_le {x l h : Int} (e : inB x l h = true) : l ≤ x ∧ x ≤ h := by simpa [inB] using e
theorem inB_no {x l h : Int} (e : inB x l h = false) : x < l ∨ h < x := by
  have : ¬ (l ≤ x ∧ x ≤ h) := by rintro ⟨a, b⟩; rw [inB_mk a b] at e; cases e
  omega

theorem ret_bool {a b : Bool} (h : a = b) : Ending.returned (.bool a) = .returned (.bool b) := by rw [h]
theorem ret_int {k : IntKind} {a b : Int} (h : a = b) : Ending.returned (.int k a) = .returned (.int k b) := by rw [h]
theorem ret_str {a b : ByteArray} (h : a = b) : Ending.returned (.string a) = .returned (.string b) := by rw [h]

theorem snoc_ind {α : Type} {P : List α → Prop} (h0 : P []) (h1 : ∀ l a, P l → P (l ++ [a])) (l : List α) : P l := by
  have : ∀ m : List α, P m.reverse := by
    intro m
    induction m with
    | nil => exact h0
    | cons a m ih => rw [List.reverse_cons]; exact h1 _ _ ih
  have h := this l.reverse
  rwa [List.reverse_reverse] at h

theorem pow_mono (b : Int) (hb : 1 ≤ b) : ∀ (k d : Nat), b ^ k ≤ b ^ (k + d)
  | _, 0 => Int.le_refl _
  | k, d + 1 => by
    have h1 := pow_mono b hb k d
    have h2 : b ^ (k + d) * 1 ≤ b ^ (k + d) * b := Int.mul_le_mul_of_nonneg_left hb (Int.pow_nonneg (by omega))
    have h3 : b ^ (k + (d + 1)) = b ^ (k + d) * b := by rw [← Nat.add_assoc, Int.pow_succ]
    omega

theorem take_snoc (s : ByteArray) (k : Nat) (h : k < s.size) : s.data.toList.take (k + 1) = s.data.toList.take k ++ [s[k]] := by
  rw [List.take_succ_eq_append_getElem (by simpa using h)]; rfl

theorem list_ext {s t : ByteArray} (h : s.data.toList = t.data.toList) : s = t := by
  obtain ⟨⟨a⟩⟩ := s; obtain ⟨⟨b⟩⟩ := t; simp at h; rw [h]

/-- 's[:k]' -/
theorem ext_take (s : ByteArray) (k : Nat) : (s.extract 0 k).toList = s.data.toList.take k := by
  rw [ByteArray.toList_eq, Lib.extract_data]; simp

theorem wrap_byte (c : UInt8) : wrap64 (c.toNat : Int) = (c.toNat : Int) := by
  have := c.toNat_lt
  exact IntWalk.wrap64_in _ (by omega)

/-- what bytes say, the highest first -/
def be (l : List UInt8) : Int := l.foldl (fun a b => a * 256 + (b.toNat : Int)) 0

theorem be_snoc (l : List UInt8) (c : UInt8) : be (l ++ [c]) = be l * 256 + (c.toNat : Int) := by
  simp [be, List.foldl_append]

theorem be_len (l : List UInt8) : 0 ≤ be l ∧ be l < 256 ^ l.length := by
  induction l using snoc_ind with
  | h0 => simp [be]
  | h1 l c ih =>
    rw [be_snoc, List.length_append, List.length_singleton, Int.pow_succ]
    have := c.toNat_lt
    omega

theorem be_bd (l : List UInt8) (k : Nat) (h : l.length ≤ k) : 0 ≤ be l ∧ be l < 256 ^ k := by
  have := be_len l
  have h2 : (256 : Int) ^ l.length ≤ 256 ^ (l.length + (k - l.length)) := pow_mono 256 (by decide) _ _
  rw [show l.length + (k - l.length) = k from by omega] at h2
  omega

theorem wraps_i64 (n : Int) (h₀ : 0 ≤ n) (h₁ : n < 2 ^ 63) : IntKind.i64.wrap n = n := by rw [IntKind.wrap_i64]; omega

/-- 'x << 8 | b' -/
theorem or8 (x b : Int) (h0 : 0 ≤ x) (h1 : x < 281474976710656) (h2 : 0 ≤ b) (h3 : b < 256) : bits .or .i64 (x * 256) b = x * 256 + b :=
  bits_join .i64 63 (by decide) wraps_i64 8 (x * 256) b (by omega) (by omega) (by omega) h2 (by omega) (by omega)

end Go.Proofs.Ytkbkanmmpdeokaa
