/- Signs: spec.Decode. Signs: the decoder of the language itself, held against the chapter's way to read one sign; what is written is read back, and what is read is what was written. Signs: impl.Decode: its contract, over the library's contract of utf8.ValidString; a range over a text. Rows that are kept. The walk of an exact law of chapter 3, over whatever contract of the program's function holds in every world that has the old blocks of the first. -/
import Derived.Test.YtlkemmdcjnaepaaDoorRows
import Derived.Test.YtlkemmdcjnaepaaDoorG03
import Derived.Test.YtlkemmdcjnaepaaDoorShelf
import Derived.Test.YtlkemmdcjnaepaaDoorG00
import Derived.Lib.DecodeN
import Derived.Lib.TrimUEq
import Derived.Lib.ValidLaws
import Derived.Shelf.Unicode.ValidAny
import Derived.Lib.OthersKept
import Derived.WalkKit
import Derived.WalkSpells
import Derived.WalkLawsBesides
namespace Go.Proofs.YtlkemmdcjnaepaaDoor

section
open Go.RowKit

/-- the signs from at_ on -/
def decF (s : ByteArray) : Nat → Nat → Option (List Int)
  | 0, _ => none
  | f + 1, at_ => if at_ < s.size then (if oneL s at_ = 0 then none else (decF s f (at_ + oneL s at_)).map (oneC s at_ :: ·)) else some []
def decN (s : ByteArray) : Option (List Int) := decF s (s.size + 1) 0

theorem oneL_le (s : ByteArray) (k : Nat) : k < s.size → k + oneL s k ≤ s.size ∧ oneL s k ≤ 4 := by
  intro hk
  unfold oneL
  split
  · rename_i h
    simp only [oneOk, Bool.and_eq_true, decide_eq_true_eq] at h
    refine ⟨h.1.1.1.2, ?_⟩
    unfold leadN
    split
    · omega
    · split
      · omega
      · split
        · omega
        · split <;> omega
  · omega

theorem decF_end (s : ByteArray) (f k : Nat) (h : ¬ k < s.size) : decF s (f + 1) k = some [] := by
  unfold decF; rw [if_neg h]
theorem decF_bad (s : ByteArray) (f k : Nat) (h : k < s.size) (h0 : oneL s k = 0) : decF s (f + 1) k = none := by
  unfold decF; rw [if_pos h, if_pos h0]
theorem decF_step (s : ByteArray) (f k : Nat) (h : k < s.size) (h0 : oneL s k ≠ 0) : decF s (f + 1) k = (decF s f (k + oneL s k)).map (oneC s k :: ·) := by
  conv => lhs; unfold decF
  rw [if_pos h, if_neg h0]

/-- more fuel than bytes changes nothing -/
theorem decF_fuel (s : ByteArray) : ∀ (f g k : Nat), s.size - k < f → s.size - k < g → decF s f k = decF s g k := by
  intro f
  induction f with
  | zero => intro g k h; omega
  | succ f ih =>
    intro g k hf hg
    obtain ⟨g, rfl⟩ : ∃ g', g = g' + 1 := ⟨g - 1, by omega⟩
    by_cases hk : k < s.size
    · by_cases h0 : oneL s k = 0
      · rw [decF_bad s f k hk h0, decF_bad s g k hk h0]
      · rw [decF_step s f k hk h0, decF_step s g k hk h0, ih g (k + oneL s k) (by omega) (by omega)]
    · rw [decF_end s f k hk, decF_end s g k hk]

/-- what is read from k on, behind l -/
def decA (s : ByteArray) (k : Nat) (l : List Int) : Option (List Int) := (decF s (s.size + 1) k).map (l ++ ·)
theorem decA_bad (s : ByteArray) (k : Nat) (l : List Int) (h : k < s.size) (h0 : oneL s k = 0) : decA s k l = none := by
  unfold decA; rw [decF_bad s _ k h h0]; rfl
theorem decA_end (s : ByteArray) (k : Nat) (l : List Int) (h : ¬ k < s.size) : decA s k l = some l := by
  unfold decA; rw [decF_end s _ k h]; simp
theorem decA_step (s : ByteArray) (k : Nat) (l : List Int) (h : k < s.size) (h0 : oneL s k ≠ 0) : decA s (k + oneL s k) (l ++ [oneC s k]) = decA s k l := by
  unfold decA
  rw [decF_step s _ k h h0, decF_fuel s (s.size + 1) s.size (k + oneL s k) (by omega) (by omega)]
  cases decF s s.size (k + oneL s k) with
  | none => rfl
  | some m => simp
theorem decA_0 (s : ByteArray) : decA s 0 [] = decN s := by
  unfold decA decN
  cases decF s (s.size + 1) 0 with
  | none => rfl
  | some m => simp

/-- what is answered: a row, and whether there is one -/
def DecSays (w : World) (e : Ending) (w' : World) (r : Option (List Int)) : Prop :=
  ∃ v, e = .returned (.tuple #[v, .bool r.isSome]) ∧ IntRow w' w.heap.size v (r.getD []) ∧ Below w.heap.size w w'

set_option maxRecDepth 100000 in
set_option maxHeartbeats 2000000 in
theorem sDecode (s : ByteArray) (w : World) (hs : s.size ≤ 1048576) :
    Calls Tryd.prog 41 #[.string s] w fun e w' => DecSays w e w' (decN s) := by
  have HB := decA_bad s
  have HE := decA_end s
  have HS := decA_step s
  have H0 : Hid (decA s 0 [] = decN s) := decA_0 s
  generalize decN s = r at H0 ⊢
  go_enter Tryd.func41, Tryd.ntmps41
  go_wp2
  go_loopw [4, 5] (fun o i wr => ∃ (k : Nat) (l : List Int), k ≤ s.size ∧ l.length ≤ k ∧ i = .int .i64 k ∧ IntRow wr w.heap.size o l ∧ decA s k l = r ∧ Below w.heap.size w wr) (fun _ i _ => s.size - (intOf i).toNat)
  case atStart => exact ⟨0, [], Nat.zero_le _, Nat.le_refl _, rfl, (lit_at _ _ [] 0 rfl rfl (by decide)), H0.out, below_lit _ _⟩
  case round =>
    obtain ⟨k, l, hk, hlk, rfl, hrow, hA, hbel⟩ := hrel
    by_cases hlt : k < s.size
    · have hle := oneL_le s k hlt
      have HB' : Hid (oneL s k = 0 → decA s k l = none) := HB k l hlt
      have HS' : Hid (oneL s k ≠ 0 → decA s (k + oneL s k) (l ++ [oneC s k]) = decA s k l) := HS k l hlt
      have hone := fun w => l3One_any s k w hs hlt
      have HV : oneV s k = .tuple #[.int .i64 (oneC s k), .int .i64 (oneL s k : Int)] := rfl
      rw [HV] at hone
      rw [hA] at HB' HS'
      generalize oneC s k = c at hone HS'
      generalize oneL s k = m at hone HS' HB' hle
      clear HB HS HE HV
      cases hm : ((m : Int) == 0)
      · have hm' : m ≠ 0 := by simp at hm; omega
        go_wp2_with (first | (go_at_call 63; refine (hone _).mono ?_; rintro e w1 ⟨rfl, hb1⟩; have hrow1 := hrow.below hb1; have hbel1 := hbel.trans (hb1.mono hbel.size)) | (at_builtin; refine append_int w1 rfl (.tmp 22) (.tmp 24) rfl w.heap.size _ l c (by omega) hrow1 rfl rfl hbel1.size ?_; intro v' w2 hrow2 hbel2))
        go_roundw
        case rel => exact ⟨k + m, l ++ [c], by omega, by simp; omega, by go_num, hrow2, HS'.out hm', hbel1.trans hbel2⟩
        case measure => simp [intOf]; omega
      · have hm' : m = 0 := by simp at hm; omega
        have HR : Hid (r = none) := HB'.out hm'
        clear hm'
        go_wp2_with (go_at_call 63; refine (hone _).mono ?_; rintro e w1 ⟨rfl, hb1⟩; have hbel1 := hbel.trans (hb1.mono hbel.size))
        go_ret2
        rw [HR.out]
        refine ⟨.slice (some ⟨w1.heap.size, 0, none⟩) 0 0, rfl, ret_lit _ w _ _ 0 _ ?_ ?_ ?_ ?_ ?_⟩ <;> first | rfl | decide | exact hbel1 | simp
    · have HR : Hid (r = some l) := by rw [← hA]; exact HE k l hlt
      clear HB HS HE
      go_wp2
      go_ret2
      rw [HR.out]
      exact ⟨_, rfl, hrow, hbel⟩
end

section
def byteN (s : ByteArray) (i : Nat) : Nat := (s.data.getD i 0).toNat
theorem byteN_lt (s : ByteArray) (i : Nat) : byteN s i < 256 := UInt8.toNat_lt _
theorem byteAt_N (s : ByteArray) (i : Nat) : byteAt s i = (byteN s i : Int) := rfl
theorem listN (s : ByteArray) (i : Nat) : (s.data.toList.getD i 0).toNat = byteN s i := by
  unfold byteN
  rw [List.getD_eq_getElem?_getD, Array.getElem?_toList, Array.getD_eq_getD_getElem?]

theorem decode_B (s : ByteArray) (k : Nat) : Utf8.decode s k = Lib.decodeN (s.size - k) (byteN s k) (byteN s (k + 1)) (byteN s (k + 2)) (byteN s (k + 3)) := by
  rw [Lib.decode_N, listN, listN, listN, listN]; rfl

theorem oneOk_iff (s : ByteArray) (k n : Nat) (hn : leadN (byteAt s k) = n) (h0 : n ≠ 0) :
    oneOk s k = true ↔ (k + n ≤ s.size ∧ contOk s k n = true ∧ sgnB (contC s k (n - 1)) = true ∧ (encOne (contC s k (n - 1))).length = n) := by
  unfold oneOk; rw [hn]; simp [h0, and_assoc]
theorem sgnB_iff (c : Int) : sgnB c = true ↔ (0 ≤ c ∧ c ≤ 1114111 ∧ ¬ (55296 ≤ c ∧ c ≤ 57343)) := by
  simp [sgnB, inB]; omega
theorem encOne_length (c : Int) : (encOne c).length = if c < 128 then 1 else if c < 2048 then 2 else if c < 65536 then 3 else 4 := by
  unfold encOne; split
  · rfl
  · split
    · rfl
    · split <;> rfl
theorem contOk_1 (s : ByteArray) (k : Nat) : contOk s k 1 = true := rfl
theorem contOk_2 (s : ByteArray) (k : Nat) : contOk s k 2 = true ↔ (128 ≤ byteAt s (k + 1) ∧ byteAt s (k + 1) ≤ 191) := by
  simp [contOk, List.range_succ, inB]
theorem contOk_3 (s : ByteArray) (k : Nat) : contOk s k 3 = true ↔ ((128 ≤ byteAt s (k + 1) ∧ byteAt s (k + 1) ≤ 191) ∧ (128 ≤ byteAt s (k + 2) ∧ byteAt s (k + 2) ≤ 191)) := by
  simp [contOk, List.range_succ, inB]
theorem contOk_4 (s : ByteArray) (k : Nat) : contOk s k 4 = true ↔ ((128 ≤ byteAt s (k + 1) ∧ byteAt s (k + 1) ≤ 191) ∧ (128 ≤ byteAt s (k + 2) ∧ byteAt s (k + 2) ≤ 191) ∧ (128 ≤ byteAt s (k + 3) ∧ byteAt s (k + 3) ≤ 191)) := by
  simp [contOk, List.range_succ, inB, and_assoc]

/-- when one sign is read, in numbers -/
theorem oneOk_num (s : ByteArray) (k : Nat) (hk : k < s.size) (b0 b1 b2 b3 : Int) (e0 : byteAt s k = b0) (e1 : byteAt s (k + 1) = b1) (e2 : byteAt s (k + 2) = b2) (e3 : byteAt s (k + 3) = b3) (hb : 0 ≤ b0) :
    (b0 < 128 ∧ oneOk s k = true ∧ oneL s k = 1 ∧ oneC s k = b0) ∨
    (192 ≤ b0 ∧ b0 < 224 ∧ oneOk s k = true ∧ oneL s k = 2 ∧ oneC s k = b0 % 32 * 64 + b1 % 64 ∧ k + 2 ≤ s.size ∧ 128 ≤ b1 ∧ b1 ≤ 191 ∧ 128 ≤ b0 % 32 * 64 + b1 % 64) ∨
    (224 ≤ b0 ∧ b0 < 240 ∧ oneOk s k = true ∧ oneL s k = 3 ∧ oneC s k = (b0 % 16 * 64 + b1 % 64) * 64 + b2 % 64 ∧ k + 3 ≤ s.size ∧ 128 ≤ b1 ∧ b1 ≤ 191 ∧ 128 ≤ b2 ∧ b2 ≤ 191 ∧ 2048 ≤ (b0 % 16 * 64 + b1 % 64) * 64 + b2 % 64 ∧ ¬ (55296 ≤ (b0 % 16 * 64 + b1 % 64) * 64 + b2 % 64 ∧ (b0 % 16 * 64 + b1 % 64) * 64 + b2 % 64 ≤ 57343)) ∨
    (240 ≤ b0 ∧ b0 < 248 ∧ oneOk s k = true ∧ oneL s k = 4 ∧ oneC s k = ((b0 % 8 * 64 + b1 % 64) * 64 + b2 % 64) * 64 + b3 % 64 ∧ k + 4 ≤ s.size ∧ 128 ≤ b1 ∧ b1 ≤ 191 ∧ 128 ≤ b2 ∧ b2 ≤ 191 ∧ 128 ≤ b3 ∧ b3 ≤ 191 ∧ 65536 ≤ ((b0 % 8 * 64 + b1 % 64) * 64 + b2 % 64) * 64 + b3 % 64 ∧ ((b0 % 8 * 64 + b1 % 64) * 64 + b2 % 64) * 64 + b3 % 64 ≤ 1114111) ∨
    (oneOk s k = false ∧ oneL s k = 0 ∧ 128 ≤ b0 ∧
      ¬ (192 ≤ b0 ∧ b0 < 224 ∧ k + 2 ≤ s.size ∧ 128 ≤ b1 ∧ b1 ≤ 191 ∧ 128 ≤ b0 % 32 * 64 + b1 % 64) ∧
      ¬ (224 ≤ b0 ∧ b0 < 240 ∧ k + 3 ≤ s.size ∧ 128 ≤ b1 ∧ b1 ≤ 191 ∧ 128 ≤ b2 ∧ b2 ≤ 191 ∧ 2048 ≤ (b0 % 16 * 64 + b1 % 64) * 64 + b2 % 64 ∧ ¬ (55296 ≤ (b0 % 16 * 64 + b1 % 64) * 64 + b2 % 64 ∧ (b0 % 16 * 64 + b1 % 64) * 64 + b2 % 64 ≤ 57343)) ∧
      ¬ (240 ≤ b0 ∧ b0 < 248 ∧ k + 4 ≤ s.size ∧ 128 ≤ b1 ∧ b1 ≤ 191 ∧ 128 ≤ b2 ∧ b2 ≤ 191 ∧ 128 ≤ b3 ∧ b3 ≤ 191 ∧ 65536 ≤ ((b0 % 8 * 64 + b1 % 64) * 64 + b2 % 64) * 64 + b3 % 64 ∧ ((b0 % 8 * 64 + b1 % 64) * 64 + b2 % 64) * 64 + b3 % 64 ≤ 1114111)) := by
  have hC : ∀ n, leadN (byteAt s k) = n → oneOk s k = true → oneL s k = n ∧ oneC s k = contC s k (n - 1) := fun n hn h => by
    unfold oneL oneC; rw [h, hn]; exact ⟨rfl, rfl⟩
  have hZ : oneOk s k = false → oneL s k = 0 := fun h => by unfold oneL; rw [h]; rfl
  have c0 : contC s k 0 = leadC (byteAt s k) := rfl
  have c1 : contC s k 1 = contC s k 0 * 64 + byteAt s (k + 1) % 64 := rfl
  have c2 : contC s k 2 = contC s k 1 * 64 + byteAt s (k + 2) % 64 := rfl
  have c3 : contC s k 3 = contC s k 2 * 64 + byteAt s (k + 3) % 64 := rfl
  have i1 := oneOk_iff s k 1
  have i2 := oneOk_iff s k 2
  have i3 := oneOk_iff s k 3
  have i4 := oneOk_iff s k 4
  have hl := lead_cases (byteAt s k)
  rw [contOk_2] at i2
  rw [contOk_3] at i3
  rw [contOk_4] at i4
  simp only [show 1 - 1 = 0 from rfl, show 2 - 1 = 1 from rfl, show 3 - 1 = 2 from rfl, show 4 - 1 = 3 from rfl, sgnB_iff, encOne_length] at i1 i2 i3 i4
  rw [e0] at c0 hl i1 i2 i3 i4 hC
  rw [e1] at c1 i2 i3 i4
  rw [e2] at c2 i3 i4
  rw [e3] at c3 i4
  rcases hl with ⟨h1, h2, h3⟩ | ⟨h1, h1', h2, h3⟩ | ⟨h1, h1', h2, h3⟩ | ⟨h1, h1', h2, h3⟩ | hl
  · left
    have ok : oneOk s k = true := (i1 h2 (by decide)).2 ⟨by omega, rfl, by omega, by split <;> omega⟩
    obtain ⟨a, b⟩ := hC _ h2 ok
    exact ⟨h1, ok, a, by rw [b]; show contC s k 0 = _; omega⟩
  · have i := i2 h2 (by decide)
    rw [c1, c0, h3] at i
    cases ok : oneOk s k
    · right; right; right; right
      refine ⟨rfl, hZ ok, by omega, fun hh => ?_, fun hh => by omega, fun hh => by omega⟩
      have := i.2 ⟨hh.2.2.1, ⟨hh.2.2.2.1, hh.2.2.2.2.1⟩, by omega, by (repeat' split) <;> omega⟩
      rw [ok] at this; cases this
    · right; left
      obtain ⟨a, b⟩ := hC _ h2 ok
      obtain ⟨q1, q2, q3, q4⟩ := i.1 ok
      refine ⟨h1, h1', rfl, a, by rw [b]; show contC s k 1 = _; rw [c1, c0, h3], q1, q2.1, q2.2, ?_⟩
      revert q4; (repeat' split) <;> omega
  · have i := i3 h2 (by decide)
    rw [c2, c1, c0, h3] at i
    cases ok : oneOk s k
    · right; right; right; right
      refine ⟨rfl, hZ ok, by omega, fun hh => by omega, fun hh => ?_, fun hh => by omega⟩
      have := i.2 ⟨hh.2.2.1, ⟨⟨hh.2.2.2.1, hh.2.2.2.2.1⟩, ⟨hh.2.2.2.2.2.1, hh.2.2.2.2.2.2.1⟩⟩, by omega, by (repeat' split) <;> omega⟩
      rw [ok] at this; cases this
    · right; right; left
      obtain ⟨a, b⟩ := hC _ h2 ok
      obtain ⟨q1, q2, q3, q4⟩ := i.1 ok
      refine ⟨h1, h1', rfl, a, by rw [b]; show contC s k 2 = _; rw [c2, c1, c0, h3], q1, q2.1.1, q2.1.2, q2.2.1, q2.2.2, ?_, q3.2.2⟩
      revert q4; (repeat' split) <;> omega
  · have i := i4 h2 (by decide)
    rw [c3, c2, c1, c0, h3] at i
    cases ok : oneOk s k
    · right; right; right; right
      refine ⟨rfl, hZ ok, by omega, fun hh => by omega, fun hh => by omega, fun hh => ?_⟩
      have := i.2 ⟨hh.2.2.1, ⟨⟨hh.2.2.2.1, hh.2.2.2.2.1⟩, ⟨hh.2.2.2.2.2.1, hh.2.2.2.2.2.2.1⟩, ⟨hh.2.2.2.2.2.2.2.1, hh.2.2.2.2.2.2.2.2.1⟩⟩, by omega, by (repeat' split) <;> omega⟩
      rw [ok] at this; cases this
    · right; right; right; left
      obtain ⟨a, b⟩ := hC _ h2 ok
      obtain ⟨q1, q2, q3, q4⟩ := i.1 ok
      refine ⟨h1, h1', rfl, a, by rw [b]; show contC s k 3 = _; rw [c3, c2, c1, c0, h3], q1, q2.1.1, q2.1.2, q2.2.1.1, q2.2.1.2, q2.2.2.1, q2.2.2.2, ?_, q3.2.1⟩
      revert q4; (repeat' split) <;> omega
  · right; right; right; right
    have z : leadN b0 = 0 := by first | exact hl.2.2 | exact hl.2.1 | exact hl.1 | simpa using hl
    have ok : oneOk s k = false := by unfold oneOk; rw [e0, z]; rfl
    have : 128 ≤ b0 ∧ ¬ (192 ≤ b0 ∧ b0 < 248) := by
      unfold leadN at z; revert z; (repeat' split) <;> omega
    refine ⟨ok, hZ ok, by omega, fun hh => by omega, fun hh => by omega, fun hh => by omega⟩

/-- the language's decoder reads the same sign, or none -/
theorem decode_one (s : ByteArray) (k : Nat) (hk : k < s.size) :
    (oneOk s k = true ∧ oneL s k ≠ 0 ∧ Utf8.decode s k = ((oneC s k).toNat, oneL s k) ∧ 0 ≤ oneC s k ∧ oneC s k ≤ 1114111 ∧ ¬ ((oneC s k).toNat = 65533 ∧ oneL s k = 1)) ∨
    (oneOk s k = false ∧ oneL s k = 0 ∧ Utf8.decode s k = (65533, 1)) := by
  rw [decode_B]
  have h0 := byteN_lt s k
  have h1 := byteN_lt s (k + 1)
  have h2 := byteN_lt s (k + 2)
  have h3 := byteN_lt s (k + 3)
  have hh := oneOk_num s k hk _ _ _ _ (byteAt_N s k) (byteAt_N s (k + 1)) (byteAt_N s (k + 2)) (byteAt_N s (k + 3)) (by omega)
  generalize byteN s k = b0 at *
  generalize byteN s (k + 1) = b1 at *
  generalize byteN s (k + 2) = b2 at *
  generalize byteN s (k + 3) = b3 at *
  obtain ⟨n, hn⟩ : ∃ n, n = s.size - k := ⟨_, rfl⟩
  rw [← hn]
  unfold Lib.decodeN
  rcases hh with ⟨a, ok, l, c⟩ | ⟨a, a', ok, l, c, r⟩ | ⟨a, a', ok, l, c, r⟩ | ⟨a, a', ok, l, c, r⟩ | ⟨ok, l, a, r1, r2, r3⟩
  · left
    rw [if_pos (by omega)]
    exact ⟨ok, by omega, by rw [c, l]; simp, by omega, by omega, by omega⟩
  · left
    rw [if_neg (by omega), if_pos (by omega), if_pos (by omega)]
    exact ⟨ok, by omega, by rw [c, l]; exact Prod.ext (by show _ = _; omega) rfl, by omega, by omega, by omega⟩
  · left
    rw [if_neg (by omega), if_neg (by omega), if_pos (by omega), if_pos (by omega)]
    exact ⟨ok, by omega, by rw [c, l]; exact Prod.ext (by show _ = _; omega) rfl, by omega, by omega, by omega⟩
  · left
    rw [if_neg (by omega), if_neg (by omega), if_neg (by omega), if_pos (by omega), if_pos (by omega)]
    exact ⟨ok, by omega, by rw [c, l]; exact Prod.ext (by show _ = _; omega) rfl, by omega, by omega, by omega⟩
  · right
    refine ⟨ok, l, ?_⟩
    rw [if_neg (by omega)]
    by_cases g1 : b0 / 32 = 6 ∧ (1 < n ∧ b1 / 64 = 2)
    · rw [if_pos g1, if_neg (by omega)]
    · rw [if_neg g1]
      by_cases g2 : b0 / 16 = 14 ∧ (1 < n ∧ b1 / 64 = 2) ∧ (2 < n ∧ b2 / 64 = 2)
      · rw [if_pos g2, if_neg (by omega)]
      · rw [if_neg g2]
        by_cases g3 : b0 / 8 = 30 ∧ (1 < n ∧ b1 / 64 = 2) ∧ (2 < n ∧ b2 / 64 = 2) ∧ (3 < n ∧ b3 / 64 = 2)
        · rw [if_pos g3, if_neg (by omega)]
        · rw [if_neg g3]

/-- a text is valid where the chapter reads it -/
theorem valid_decF (s : ByteArray) : ∀ (f k : Nat), s.size - k < f → Lib.validD (s.data.toList.drop k) = (decF s f k).isSome := by
  intro f
  induction f with
  | zero => intro k h; omega
  | succ f ih =>
    intro k h
    by_cases hk : k < s.size
    · have hne : s.data.toList.drop k ≠ [] := by
        intro e
        have := congrArg List.length e
        simp at this
        have : s.data.size = s.size := rfl
        omega
      rw [Lib.validD_step _ hne, Lib.decodeL_drop]
      rcases decode_one s k hk with ⟨ok, l, e, h0, h1, hn⟩ | ⟨ok, l, e⟩
      · rw [e, if_neg hn, List.drop_drop, decF_step s f k hk l, ih (k + oneL s k) (by omega)]
        simp
      · rw [e, if_pos ⟨rfl, rfl⟩, decF_bad s f k hk l]; rfl
    · rw [decF_end s f k hk, List.drop_eq_nil_of_le (by show s.data.toList.length ≤ k; have : s.data.size = s.size := rfl; simp; omega)]
      rfl
theorem valid_decN (s : ByteArray) : Lib.validD s.data.toList = (decN s).isSome := by
  have := valid_decF s (s.size + 1) 0 (by omega)
  rwa [List.drop_zero] at this
end

section
open Go.RowKit

theorem valid_any (s : ByteArray) (w : World) (hs : s.size ≤ 1048576) (hT : Lib.Utf8Tabs (Tryd.laysValid_ren.g 3) (Tryd.laysValid_ren.g 4) w) :
    Calls Tryd.prog 89 #[.string s] w fun e w' => e = .returned (.bool (decN s).isSome) ∧ Below w.heap.size w w' := by
  rw [← valid_decN]
  exact Any.utf8_ValidString Tryd.laysValid s w (by omega) hT

theorem iterAt_gb (w : World) (g : Nat) (s : ByteArray) (k : Nat) : w.grownBy (w.iterAt g s k) (some g) :=
  ⟨rfl, rfl, rfl, by simp [World.iterAt], fun i _ hn => by
    have : g ≠ i := fun e => hn (by rw [e])
    simp [World.iterAt, this]⟩

theorem row_iterAt {w : World} {g : Nat} {v : Value} {l : List Int} (h : IntRow w (g + 1) v l) (s : ByteArray) (k : Nat) : IntRow (w.iterAt g s k) (g + 1) v l := by
  refine World.ownsRow.kept h (iterAt_gb w g s k) ?_
  cases e : v.ownBlock with
  | none => exact .inl rfl
  | some j =>
    right
    intro e2
    cases e2
    have := (World.ownsRow.lt h _ e).1
    omega

theorem below_iterAt {B : Nat} {w w' : World} (h : Below B w w') {g : Nat} (hg : B ≤ g) (s : ByteArray) (k : Nat) : Below B w (w'.iterAt g s k) :=
  ⟨h.os, h.tape, h.output, by simp [World.iterAt]; exact h.size, fun i hi => by
    have : g ≠ i := by omega
    rw [← h.block i hi]
    simp [World.iterAt, this]⟩

def itLeft (g : Nat) (w : World) : Nat := match w.heap[g]? with | some (.stringIter s k) => s.size - k | _ => 0
theorem itLeft_at {g : Nat} {w : World} {s : ByteArray} {k : Nat} (h : w.heap[g]? = some (.stringIter s k)) : itLeft g w = s.size - k := by
  unfold itLeft; rw [h]

set_option maxRecDepth 100000 in
set_option maxHeartbeats 2000000 in
theorem iDecode (s : ByteArray) (w : World) (hs : s.size ≤ 1048576) (hT : Lib.Utf8Tabs (Tryd.laysValid_ren.g 3) (Tryd.laysValid_ren.g 4) w) :
    Calls Tryd.prog 64 #[.string s] w fun e w' => DecSays w e w' (decN s) := by
  have HV := valid_any s w hs hT
  clear hT
  cases hd : decN s with
  | none =>
    rw [hd] at HV
    go_enter Tryd.func64, Tryd.ntmps64
    go_wp2_with (go_at_call 89; refine HV.mono ?_; rintro e w1 ⟨rfl, hb1⟩)
    go_ret2
    exact ⟨_, rfl, World.ownsRow_nil _ _ _ _, hb1⟩
  | some L =>
    rw [hd] at HV
    have HST : Hid (∀ k l, k < s.size → oneL s k ≠ 0 → decA s (k + oneL s k) (l ++ [oneC s k]) = decA s k l) := fun k l h h0 => decA_step s k l h h0
    have HBD : Hid (∀ k l, k < s.size → oneL s k = 0 → decA s k l = none) := fun k l h h0 => decA_bad s k l h h0
    have HEN : Hid (∀ k l, ¬ k < s.size → decA s k l = some l) := fun k l h => decA_end s k l h
    have H0 : Hid (decA s 0 [] = some L) := by show _ = _; rw [decA_0, hd]
    clear hd
    go_enter Tryd.func64, Tryd.ntmps64
    go_wp2_with (go_at_call 89; refine HV.mono ?_; rintro e w1 ⟨rfl, hb1⟩)
    obtain ⟨g, hg⟩ : ∃ g, w1.heap.size = g := ⟨_, rfl⟩
    rw [hg]
    have hgB : w.heap.size ≤ g := by rw [← hg]; exact hb1.size
    go_loopw [4] (fun v wr => ∃ (k : Nat) (l : List Int), k ≤ s.size ∧ l.length ≤ k ∧ decA s k l = some L ∧ wr.heap[g]? = some (.stringIter s k) ∧ IntRow wr (g + 1) v l ∧ Below w.heap.size w wr ∧ g + 1 ≤ wr.heap.size)
      (fun _ wr => itLeft g wr)
    case atStart =>
      refine ⟨0, [], Nat.zero_le _, Nat.le_refl _, H0.out, ?_, World.ownsRow_nil _ _ _ _, ?_, ?_⟩
      · subst hg; exact World.iter_heap w1 s 0
      · exact hb1.alloc hb1.size _
      · show _ ≤ (w1.alloc _).heap.size; simp; omega
    case round =>
      obtain ⟨k, l, hk, hlk, hA, hit, hrow, hbel, hsz⟩ := hrel
      by_cases hlt : k < s.size
      · rcases decode_one s k hlt with ⟨_, h1, h2, h3, h4, -⟩ | ⟨_, h1, -⟩
        · have hle := oneL_le s k hlt
          have HA : Hid (decA s (k + oneL s k) (l ++ [oneC s k]) = some L) := by show _ = _; rw [HST.out k l hlt h1]; exact hA
          have hnx0 := fun ty => Lib.run_next_any_at (P := Tryd.prog) wr g s k ty hit hlt
          rw [h2] at hnx0
          have hc0 : (((oneC s k).toNat : Nat) : Int) = oneC s k := by omega
          simp only [hc0] at hnx0
          generalize oneL s k = d at h1 hle HA hnx0
          generalize oneC s k = c at h3 h4 HA hnx0
          clear h2 hc0
          have hrow1 := row_iterAt hrow s (k + d)
          have hbel1 := below_iterAt hbel hgB s (k + d)
          have hit1 : (wr.iterAt g s (k + d)).heap[g]? = some (.stringIter s (k + d)) := Lib.iterAt_heap wr g s k (k + d) hit
          have hsz1 : g + 1 ≤ (wr.iterAt g s (k + d)).heap.size := by simp [World.iterAt]; exact hsz
          have hm0 := itLeft_at hit
          generalize wr.iterAt g s (k + d) = w2 at hnx0 hrow1 hbel1 hit1 hsz1
          go_wp2_with (at_builtin; refine append_int w2 rfl (.tmp 15) (.tmp 18) rfl (g + 1) _ l c (by omega) hrow1 rfl rfl hsz1 ?_; intro v' w3 hrow3 hbel3)
          have hit3 : w3.heap[g]? = some (.stringIter s (k + d)) := (hbel3.block g (by omega)).trans hit1
          have hm3 := itLeft_at hit3
          go_roundw
          case rel => exact ⟨k + d, l ++ [c], hle.1, by simp; omega, HA.out, hit3, hrow3, hbel1.trans (hbel3.mono (by omega)), Nat.le_trans hsz1 hbel3.size⟩
          case measure => omega
        · rw [HBD.out k l hlt h1] at hA; cases hA
      · rw [HEN.out k l hlt] at hA
        cases hA
        have hnx := fun ty => Lib.run_next_end_at (P := Tryd.prog) wr g s k ty hit hlt
        go_wp2
        go_ret2
        exact ⟨_, rfl, hrow.mono (by omega), hbel⟩
end

section
open Go.RowKit

theorem below_gbi {B : Nat} {w w1 : World} {r : Option Nat} (a : w.grownBy w1 r) (hr : ∀ k, r = some k → B ≤ k) (hB : B ≤ w.heap.size) : Below B w w1 :=
  ⟨a.os, a.tape, a.output, a.size, fun k hk => a.block k (by omega) (fun e => by have := hr k e.symm; omega)⟩

/-- a row that is marked, and one that lies below it -/
theorem marked_kept {w w3 w4 : World} {B0 B1 : Nat} {v1 v2 : Value} {l m : List Int} (h1 : IntRow w B0 v1 l) (hB : w.heap.size ≤ B1) (h1' : IntRow w3 B0 v1 l) (h2 : IntRow w3 B1 v2 m) (hg : w3.grownBy w4 v2.ownBlock) :
    IntRow w4 B0 v1 l := by
  refine World.ownsRow.kept h1' hg ?_
  cases e : v1.ownBlock with
  | none => exact .inl rfl
  | some k =>
    right
    intro e2
    have := (World.ownsRow.lt h1 k e).2
    have := (World.ownsRow.lt h2 k e2.symm).1
    omega
end

section
open Go.RowKit

theorem decF_len (s : ByteArray) : ∀ (f k : Nat) (l : List Int), decF s f k = some l → l.length ≤ s.size - k := by
  intro f
  induction f with
  | zero => intro k l h; cases h
  | succ f ih =>
    intro k l h
    by_cases hk : k < s.size
    · by_cases h0 : oneL s k = 0
      · rw [decF_bad s f k hk h0] at h; cases h
      · rw [decF_step s f k hk h0] at h
        obtain ⟨m, hm, rfl⟩ := Option.map_eq_some_iff.1 h
        have := ih _ m hm
        simp; omega
    · rw [decF_end s f k hk] at h; cases h; simp
theorem decN_len (s : ByteArray) : ((decN s).getD []).length ≤ s.size := by
  cases h : decN s with
  | none => simp
  | some l => have := decF_len s _ _ l h; simp; omega
end

end Go.Proofs.YtlkemmdcjnaepaaDoor
