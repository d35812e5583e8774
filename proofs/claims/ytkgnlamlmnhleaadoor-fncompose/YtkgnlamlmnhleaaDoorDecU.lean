/- Signs: the decoder of the language itself, held against the chapter's way to read one sign; what is written is read back, and what is read is what was written. -/
import Derived.Test.YtkgnlamlmnhleaaDoorRows
import Derived.Test.YtkgnlamlmnhleaaDoorDcd
import Derived.Lib.DecodeN
import Derived.Lib.TrimUEq
import Derived.Lib.ValidLaws
namespace Go.Proofs.YtkgnlamlmnhleaaDoor

def byteN (s : ByteArray) (i : Nat) : Nat := (s.data.getD i 0).toNat
theorem byteN_lt (s : ByteArray) (i : Nat) : byteN s i < 256 := UInt8.toNat_lt _
theorem byteAt_N (s : ByteArray) (i : Nat) : byteAt s i = (byteN s i : Int) := rfl
theorem listN (s : ByteArray) (i : Nat) : (s.data.toList.getD i 0).toNat = byteN s i := by
  unfold byteN
  rw [List.getD_eq_getElem?_getD, Array.getElem?_toList, Array.getD_eq_getD_getElem?]

theorem decode_B (s : ByteArray) (k : Nat) : Utf8.decode s k = Lib.decodeN (s.size - k) (byteN s k) (byteN s (k + 1)) (byteN s (k + 2)) (byteN s (k + 3)) := by
  rw [Lib.decode_N, listN, listN, listN, listN]; rfl

theorem oneOk_iff (s : ByteArray) (k n : Nat) (hn : leadN (byteAt s k) = n) (h0 : n ≠ 0) :
    oneOk s k = true ↔ (k + n ≤ s.size ∧ contOk s k n = true ∧ sgnB (contC s k (n - 1)) = true ∧ (encOne (contC s k (n - 1))).length = n) := by
  unfold oneOk; rw [hn]; simp [h0, and_assoc]
theorem sgnB_iff (c : Int) : sgnB c = true ↔ (0 ≤ c ∧ c ≤ 1114111 ∧ ¬ (55296 ≤ c ∧ c ≤ 57343)) := by
  simp [sgnB, inB]; omega
theorem encOne_length (c : Int) : (encOne c).length = if c < 128 then 1 else if c < 2048 then 2 else if c < 65536 then 3 else 4 := by
  unfold encOne; split
  · rfl
  · split
    · rfl
    · split <;> rfl
theorem contOk_1 (s : ByteArray) (k : Nat) : contOk s k 1 = true := rfl
theorem contOk_2 (s : ByteArray) (k : Nat) : contOk s k 2 = true ↔ (128 ≤ byteAt s (k + 1) ∧ byteAt s (k + 1) ≤ 191) := by
  simp [contOk, List.range_succ, inB]
theorem contOk_3 (s : ByteArray) (k : Nat) : contOk s k 3 = true ↔ ((128 ≤ byteAt s (k + 1) ∧ byteAt s (k + 1) ≤ 191) ∧ (128 ≤ byteAt s (k + 2) ∧ byteAt s (k + 2) ≤ 191)) := by
  simp [contOk, List.range_succ, inB]
theorem contOk_4 (s : ByteArray) (k : Nat) : contOk s k 4 = true ↔ ((128 ≤ byteAt s (k + 1) ∧ byteAt s (k + 1) ≤ 191) ∧ (128 ≤ byteAt s (k + 2) ∧ byteAt s (k + 2) ≤ 191) ∧ (128 ≤ byteAt s (k + 3) ∧ byteAt s (k + 3) ≤ 191)) := by
  simp [contOk, List.range_succ, inB, and_assoc]

/-- when one sign is read, in numbers -/
theorem oneOk_num (s : ByteArray) (k : Nat) (hk : k < s.size) (b0 b1 b2 b3 : Int) (e0 : byteAt s k = b0) (e1 : byteAt s (k + 1) = b1) (e2 : byteAt s (k + 2) = b2) (e3 : byteAt s (k + 3) = b3) (hb : 0 ≤ b0) :
    (b0 < 128 ∧ oneOk s k = true ∧ oneL s k = 1 ∧ oneC s k = b0) ∨
    (192 ≤ b0 ∧ b0 < 224 ∧ oneOk s k = true ∧ oneL s k = 2 ∧ oneC s k = b0 % 32 * 64 + b1 % 64 ∧ k + 2 ≤ s.size ∧ 128 ≤ b1 ∧ b1 ≤ 191 ∧ 128 ≤ b0 % 32 * 64 + b1 % 64) ∨
    (224 ≤ b0 ∧ b0 < 240 ∧ oneOk s k = true ∧ oneL s k = 3 ∧ oneC s k = (b0 % 16 * 64 + b1 % 64) * 64 + b2 % 64 ∧ k + 3 ≤ s.size ∧ 128 ≤ b1 ∧ b1 ≤ 191 ∧ 128 ≤ b2 ∧ b2 ≤ 191 ∧ 2048 ≤ (b0 % 16 * 64 + b1 % 64) * 64 + b2 % 64 ∧ ¬ (55296 ≤ (b0 % 16 * 64 + b1 % 64) * 64 + b2 % 64 ∧ (b0 % 16 * 64 + b1 % 64) * 64 + b2 % 64 ≤ 57343)) ∨
    (240 ≤ b0 ∧ b0 < 248 ∧ oneOk s k = true ∧ oneL s k = 4 ∧ oneC s k = ((b0 % 8 * 64 + b1 % 64) * 64 + b2 % 64) * 64 + b3 % 64 ∧ k + 4 ≤ s.size ∧ 128 ≤ b1 ∧ b1 ≤ 191 ∧ 128 ≤ b2 ∧ b2 ≤ 191 ∧ 128 ≤ b3 ∧ b3 ≤ 191 ∧ 65536 ≤ ((b0 % 8 * 64 + b1 % 64) * 64 + b2 % 64) * 64 + b3 % 64 ∧ ((b0 % 8 * 64 + b1 % 64) * 64 + b2 % 64) * 64 + b3 % 64 ≤ 1114111) ∨
    (oneOk s k = false ∧ oneL s k = 0 ∧ 128 ≤ b0 ∧
      ¬ (192 ≤ b0 ∧ b0 < 224 ∧ k + 2 ≤ s.size ∧ 128 ≤ b1 ∧ b1 ≤ 191 ∧ 128 ≤ b0 % 32 * 64 + b1 % 64) ∧
      ¬ (224 ≤ b0 ∧ b0 < 240 ∧ k + 3 ≤ s.size ∧ 128 ≤ b1 ∧ b1 ≤ 191 ∧ 128 ≤ b2 ∧ b2 ≤ 191 ∧ 2048 ≤ (b0 % 16 * 64 + b1 % 64) * 64 + b2 % 64 ∧ ¬ (55296 ≤ (b0 % 16 * 64 + b1 % 64) * 64 + b2 % 64 ∧ (b0 % 16 * 64 + b1 % 64) * 64 + b2 % 64 ≤ 57343)) ∧
      ¬ (240 ≤ b0 ∧ b0 < 248 ∧ k + 4 ≤ s.size ∧ 128 ≤ b1 ∧ b1 ≤ 191 ∧ 128 ≤ b2 ∧ b2 ≤ 191 ∧ 128 ≤ b3 ∧ b3 ≤ 191 ∧ 65536 ≤ ((b0 % 8 * 64 + b1 % 64) * 64 + b2 % 64) * 64 + b3 % 64 ∧ ((b0 % 8 * 64 + b1 % 64) * 64 + b2 % 64) * 64 + b3 % 64 ≤ 1114111)) := by
  have hC : ∀ n, leadN (byteAt s k) = n → oneOk s k = true → oneL s k = n ∧ oneC s k = contC s k (n - 1) := fun n hn h => by
    unfold oneL oneC; rw [h, hn]; exact ⟨rfl, rfl⟩
  have hZ : oneOk s k = false → oneL s k = 0 := fun h => by unfold oneL; rw [h]; rfl
  have c0 : contC s k 0 = leadC (byteAt s k) := rfl
  have c1 : contC s k 1 = contC s k 0 * 64 + byteAt s (k + 1) % 64 := rfl
  have c2 : contC s k 2 = contC s k 1 * 64 + byteAt s (k + 2) % 64 := rfl
  have c3 : contC s k 3 = contC s k 2 * 64 + byteAt s (k + 3) % 64 := rfl
  have i1 := oneOk_iff s k 1
  have i2 := oneOk_iff s k 2
  have i3 := oneOk_iff s k 3
  have i4 := oneOk_iff s k 4
  have hl := lead_cases (byteAt s k)
  rw [contOk_2] at i2
  rw [contOk_3] at i3
  rw [contOk_4] at i4
  simp only [show 1 - 1 = 0 from rfl, show 2 - 1 = 1 from rfl, show 3 - 1 = 2 from rfl, show 4 - 1 = 3 from rfl, sgnB_iff, encOne_length] at i1 i2 i3 i4
  rw [e0] at c0 hl i1 i2 i3 i4 hC
  rw [e1] at c1 i2 i3 i4
  rw [e2] at c2 i3 i4
  rw [e3] at c3 i4
  rcases hl with ⟨h1, h2, h3⟩ | ⟨h1, h1', h2, h3⟩ | ⟨h1, h1', h2, h3⟩ | ⟨h1, h1', h2, h3⟩ | hl
  · left
    have ok : oneOk s k = true := (i1 h2 (by decide)).2 ⟨by omega, rfl, by omega, by split <;> omega⟩
    obtain ⟨a, b⟩ := hC _ h2 ok
    exact ⟨h1, ok, a, by rw [b]; show contC s k 0 = _; omega⟩
  · have i := i2 h2 (by decide)
    rw [c1, c0, h3] at i
    cases ok : oneOk s k
    · right; right; right; right
      refine ⟨rfl, hZ ok, by omega, fun hh => ?_, fun hh => by omega, fun hh => by omega⟩
      have := i.2 ⟨hh.2.2.1, ⟨hh.2.2.2.1, hh.2.2.2.2.1⟩, by omega, by (repeat' split) <;> omega⟩
      rw [ok] at this; cases this
    · right; left
      obtain ⟨a, b⟩ := hC _ h2 ok
      obtain ⟨q1, q2, q3, q4⟩ := i.1 ok
      refine ⟨h1, h1', rfl, a, by rw [b]; show contC s k 1 = _; rw [c1, c0, h3], q1, q2.1, q2.2, ?_⟩
      revert q4; (repeat' split) <;> omega
  · have i := i3 h2 (by decide)
    rw [c2, c1, c0, h3] at i
    cases ok : oneOk s k
    · right; right; right; right
      refine ⟨rfl, hZ ok, by omega, fun hh => by omega, fun hh => ?_, fun hh => by omega⟩
      have := i.2 ⟨hh.2.2.1, ⟨⟨hh.2.2.2.1, hh.2.2.2.2.1⟩, ⟨hh.2.2.2.2.2.1, hh.2.2.2.2.2.2.1⟩⟩, by omega, by (repeat' split) <;> omega⟩
      rw [ok] at this; cases this
    · right; right; left
      obtain ⟨a, b⟩ := hC _ h2 ok
      obtain ⟨q1, q2, q3, q4⟩ := i.1 ok
      refine ⟨h1, h1', rfl, a, by rw [b]; show contC s k 2 = _; rw [c2, c1, c0, h3], q1, q2.1.1, q2.1.2, q2.2.1, q2.2.2, ?_, q3.2.2⟩
      revert q4; (repeat' split) <;> omega
  · have i := i4 h2 (by decide)
    rw [c3, c2, c1, c0, h3] at i
    cases ok : oneOk s k
    · right; right; right; right
      refine ⟨rfl, hZ ok, by omega, fun hh => by omega, fun hh => by omega, fun hh => ?_⟩
      have := i.2 ⟨hh.2.2.1, ⟨⟨hh.2.2.2.1, hh.2.2.2.2.1⟩, ⟨hh.2.2.2.2.2.1, hh.2.2.2.2.2.2.1⟩, ⟨hh.2.2.2.2.2.2.2.1, hh.2.2.2.2.2.2.2.2.1⟩⟩, by omega, by (repeat' split) <;> omega⟩
      rw [ok] at this; cases this
    · right; right; right; left
      obtain ⟨a, b⟩ := hC _ h2 ok
      obtain ⟨q1, q2, q3, q4⟩ := i.1 ok
      refine ⟨h1, h1', rfl, a, by rw [b]; show contC s k 3 = _; rw [c3, c2, c1, c0, h3], q1, q2.1.1, q2.1.2, q2.2.1.1, q2.2.1.2, q2.2.2.1, q2.2.2.2, ?_, q3.2.1⟩
      revert q4; (repeat' split) <;> omega
  · right; right; right; right
    have z : leadN b0 = 0 := by first | exact hl.2.2 | exact hl.2.1 | exact hl.1 | simpa using hl
    have ok : oneOk s k = false := by unfold oneOk; rw [e0, z]; rfl
    have : 128 ≤ b0 ∧ ¬ (192 ≤ b0 ∧ b0 < 248) := by
      unfold leadN at z; revert z; (repeat' split) <;> omega
    refine ⟨ok, hZ ok, by omega, fun hh => by omega, fun hh => by omega, fun hh => by omega⟩

/-- the language's decoder reads the same sign, or none -/
theorem decode_one (s : ByteArray) (k : Nat) (hk : k < s.size) :
    (oneOk s k = true ∧ oneL s k ≠ 0 ∧ Utf8.decode s k = ((oneC s k).toNat, oneL s k) ∧ 0 ≤ oneC s k ∧ oneC s k ≤ 1114111 ∧ ¬ ((oneC s k).toNat = 65533 ∧ oneL s k = 1)) ∨
    (oneOk s k = false ∧ oneL s k = 0 ∧ Utf8.decode s k = (65533, 1)) := by
  rw [decode_B]
  have h0 := byteN_lt s k
  have h1 := byteN_lt s (k + 1)
  have h2 := byteN_lt s (k + 2)
  have h3 := byteN_lt s (k + 3)
  have hh := oneOk_num s k hk _ _ _ _ (byteAt_N s k) (byteAt_N s (k + 1)) (byteAt_N s (k + 2)) (byteAt_N s (k + 3)) (by omega)
  generalize byteN s k = b0 at *
  generalize byteN s (k + 1) = b1 at *
  generalize byteN s (k + 2) = b2 at *
  generalize byteN s (k + 3) = b3 at *
  obtain ⟨n, hn⟩ : ∃ n, n = s.size - k := ⟨_, rfl⟩
  rw [← hn]
  unfold Lib.decodeN
  rcases hh with ⟨a, ok, l, c⟩ | ⟨a, a', ok, l, c, r⟩ | ⟨a, a', ok, l, c, r⟩ | ⟨a, a', ok, l, c, r⟩ | ⟨ok, l, a, r1, r2, r3⟩
  · left
    rw [if_pos (by omega)]
    exact ⟨ok, by omega, by rw [c, l]; simp, by omega, by omega, by omega⟩
  · left
    rw [if_neg (by omega), if_pos (by omega), if_pos (by omega)]
    exact ⟨ok, by omega, by rw [c, l]; exact Prod.ext (by show _ = _; omega) rfl, by omega, by omega, by omega⟩
  · left
    rw [if_neg (by omega), if_neg (by omega), if_pos (by omega), if_pos (by omega)]
    exact ⟨ok, by omega, by rw [c, l]; exact Prod.ext (by show _ = _; omega) rfl, by omega, by omega, by omega⟩
  · left
    rw [if_neg (by omega), if_neg (by omega), if_neg (by omega), if_pos (by omega), if_pos (by omega)]
    exact ⟨ok, by omega, by rw [c, l]; exact Prod.ext (by show _ = _; omega) rfl, by omega, by omega, by omega⟩
  · right
    refine ⟨ok, l, ?_⟩
    rw [if_neg (by omega)]
    by_cases g1 : b0 / 32 = 6 ∧ (1 < n ∧ b1 / 64 = 2)
    · rw [if_pos g1, if_neg (by omega)]
    · rw [if_neg g1]
      by_cases g2 : b0 / 16 = 14 ∧ (1 < n ∧ b1 / 64 = 2) ∧ (2 < n ∧ b2 / 64 = 2)
      · rw [if_pos g2, if_neg (by omega)]
      · rw [if_neg g2]
        by_cases g3 : b0 / 8 = 30 ∧ (1 < n ∧ b1 / 64 = 2) ∧ (2 < n ∧ b2 / 64 = 2) ∧ (3 < n ∧ b3 / 64 = 2)
        · rw [if_pos g3, if_neg (by omega)]
        · rw [if_neg g3]

/-- a text is valid where the chapter reads it -/
theorem valid_decF (s : ByteArray) : ∀ (f k : Nat), s.size - k < f → Lib.validD (s.data.toList.drop k) = (decF s f k).isSome := by
  intro f
  induction f with
  | zero => intro k h; omega
  | succ f ih =>
    intro k h
    by_cases hk : k < s.size
    · have hne : s.data.toList.drop k ≠ [] := by
        intro e
        have := congrArg List.length e
        simp at this
        have : s.data.size = s.size := rfl
        omega
      rw [Lib.validD_step _ hne, Lib.decodeL_drop]
      rcases decode_one s k hk with ⟨ok, l, e, h0, h1, hn⟩ | ⟨ok, l, e⟩
      · rw [e, if_neg hn, List.drop_drop, decF_step s f k hk l, ih (k + oneL s k) (by omega)]
        simp
      · rw [e, if_pos ⟨rfl, rfl⟩, decF_bad s f k hk l]; rfl
    · rw [decF_end s f k hk, List.drop_eq_nil_of_le (by show s.data.toList.length ≤ k; have : s.data.size = s.size := rfl; simp; omega)]
      rfl
theorem valid_decN (s : ByteArray) : Lib.validD s.data.toList = (decN s).isSome := by
  have := valid_decF s (s.size + 1) 0 (by omega)
  rwa [List.drop_zero] at this

end Go.Proofs.YtkgnlamlmnhleaaDoor
