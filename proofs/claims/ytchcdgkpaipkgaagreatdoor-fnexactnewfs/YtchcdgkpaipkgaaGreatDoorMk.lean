/- Rows that are kept. Signs: spec.Encode. Signs: spec.l3One. Signs: spec.Decode. Signs: the decoder of the language itself, held against the chapter's way to read one sign; what is written is read back, and what is read is what was written. -/
import Derived.Test.YtchcdgkpaipkgaaGreatDoorRows
import Derived.Test.YtchcdgkpaipkgaaGreatDoorMa
import Derived.WalkKit
import Derived.WalkSpells
import Derived.WalkLawsBesides
import Derived.Deep.Cut
import Derived.Deep.CutRange
import Derived.Lib.DecodeN
import Derived.Lib.TrimUEq
import Derived.Lib.ValidLaws
namespace Go.Proofs.YtchcdgkpaipkgaaGreatDoor

section
open Go.RowKit

theorem below_gbi {B : Nat} {w w1 : World} {r : Option Nat} (a : w.grownBy w1 r) (hr : ∀ k, r = some k → B ≤ k) (hB : B ≤ w.heap.size) : Below B w w1 :=
  ⟨a.os, a.tape, a.output, a.size, fun k hk => a.block k (by omega) (fun e => by have := hr k e.symm; omega)⟩

/-- a row that is marked, and one that lies below it -/
theorem marked_kept {w w3 w4 : World} {B0 B1 : Nat} {v1 v2 : Value} {l m : List Int} (h1 : IntRow w B0 v1 l) (hB : w.heap.size ≤ B1) (h1' : IntRow w3 B0 v1 l) (h2 : IntRow w3 B1 v2 m) (hg : w3.grownBy w4 v2.ownBlock) :
    IntRow w4 B0 v1 l := by
  refine World.ownsRow.kept h1' hg ?_
  cases e : v1.ownBlock with
  | none => exact .inl rfl
  | some k =>
    right
    intro e2
    have := (World.ownsRow.lt h1 k e).2
    have := (World.ownsRow.lt h2 k e2.symm).1
    omega
end

section
open Go.RowKit

theorem Tryz.infoByte : (Tryz.prog.info? 5).map (fun i => (i.zero, i.size, i.bytes)) = some (some (.int .u8 0), 1, 1) := by kernel_rfl

theorem mask_i64 (x : Int) (k : Nat) (hk : k < 63) (h0 : 0 ≤ x) (h1 : x < 9223372036854775808) : bits .and .i64 x ((2 ^ k - 1 : Nat) : Int) = x % ((2 ^ k : Nat) : Int) := by
  obtain ⟨X, rfl⟩ := Int.eq_ofNat_of_zero_le h0
  have hp : 2 ^ k < 9223372036854775808 := by
    have := Nat.pow_lt_pow_right (a := 2) (by omega) hk
    omega
  have e : ∀ m : Nat, m < 9223372036854775808 → (BitVec.ofInt 64 (m : Int)).toNat = m := fun m hm => by
    rw [BitVec.ofInt_natCast, BitVec.toNat_ofNat]; exact Nat.mod_eq_of_lt (by omega)
  show IntKind.i64.wrap (((BitVec.ofInt 64 (X : Int) &&& BitVec.ofInt 64 ((2 ^ k - 1 : Nat) : Int)).toNat : Nat) : Int) = _
  rw [BitVec.toNat_and, e X (by omega), e (2 ^ k - 1) (by omega), Nat.and_two_pow_sub_one_eq_mod, wraps_i64 _ (by omega) (by
    have := Nat.mod_lt X (Nat.two_pow_pos k); omega)]
  exact Int.natCast_emod X (2 ^ k)

theorem and63 (x : Int) (h0 : 0 ≤ x) (h1 : x < 9223372036854775808) : bits .and .i64 x 63 = x % 64 := mask_i64 x 6 (by decide) h0 h1
theorem and31 (x : Int) (h0 : 0 ≤ x) (h1 : x < 9223372036854775808) : bits .and .i64 x 31 = x % 32 := mask_i64 x 5 (by decide) h0 h1
theorem and15 (x : Int) (h0 : 0 ≤ x) (h1 : x < 9223372036854775808) : bits .and .i64 x 15 = x % 16 := mask_i64 x 4 (by decide) h0 h1
theorem and7 (x : Int) (h0 : 0 ≤ x) (h1 : x < 9223372036854775808) : bits .and .i64 x 7 = x % 8 := mask_i64 x 3 (by decide) h0 h1

def b8 (x : Int) : UInt8 := UInt8.ofNat x.toNat
def b8s (xs : List Int) : List UInt8 := xs.map b8
def isB (x : Int) : Prop := 0 ≤ x ∧ x < 256

theorem bytesV_b8s (xs : List Int) (h : ∀ x ∈ xs, isB x) : bytesV (b8s xs) = xs.map fun x => .int .u8 x := by
  simp only [bytesV, b8s, List.map_map]
  apply List.map_congr_left
  intro x hx
  have := h x hx
  have e : ((UInt8.ofNat x.toNat).toNat : Int) = x := by
    have h1 := this.1; have h2 := this.2
    simp; omega
  simp only [Function.comp, b8, e]

/-- 'append(out, x, y, ..)', out a row of bytes of the call's own -/
theorem append_bytes (w : World) {ops : Array Oper} {rest : List Oper} {o : Oper} {a : Act} {Q : Exit → Act → World → Prop} (hgd : o.guard = none) (s x : Operand)
    (ho : o.op = .call { callee := .builtin .append, args := #[s, x], argTypes := #[63, 63] }) (base : Nat)
    (v : Value) (l : List UInt8) (xs : List Int) (cs : Array Value) (n : Nat) (hn : xs.length = n) (hcs : cs.toList = xs.map fun x => .int .u8 x) (hxs : ∀ x ∈ xs, isB x) (hl : l.length + n ≤ 140737488355328)
    (hown : w.ownsRow base 5 1 v l.length (bytesV l)) (hs : a.eval s = v) (hx : a.eval x = .slice (some ⟨w.heap.size, 0, none⟩) n n)
    (hbase : base ≤ w.heap.size)
    (h : ∀ v' w', w'.ownsRow base 5 1 v' (l ++ b8s xs).length (bytesV (l ++ b8s xs)) → Below base w w' → wpList Tryz.prog ops Q rest (a.put o.dst v') w') :
    wpList Tryz.prog ops Q (o :: rest) a (w.alloc (.cells cs 5)) := by
  obtain ⟨i0, hi, hz0, hz1, hz2⟩ := info_parts Tryz.infoByte
  have hb := bytesV_b8s xs hxs
  have hcl : ∀ j u, (bytesV (b8s xs))[j]? = some u → (w.alloc (.cells cs 5)).cell? ((⟨w.heap.size, 0, none⟩ : Addr).add j) = some u := by
    intro j u hu
    rw [Addr.add_lit, Nat.zero_add, World.cell?_alloc_mark, ← Array.getElem?_toList, hcs, ← hb]
    exact hu
  have hlb : (bytesV (b8s xs)).length = n := by rw [hb]; simp [hn]
  refine wpList_append_own _ hgd s x 63 ho base 5 i0 (.int .u8 0) 1 1 Tryz.underlying63 hi hz0 hz1 hz2 rfl (by decide) v l.length (bytesV l) hs (World.ownsRow.alloc hown _) ⟨w.heap.size, 0, none⟩ n n (bytesV (b8s xs)) hx (by rw [hlb]; omega) hcl ?_ (by unfold maxLen; omega) (by omega) (by simp; omega) ?_
  · intro u hu
    rw [hb] at hu
    obtain ⟨y, _, rfl⟩ := List.mem_map.1 hu
    rfl
  · intro v' w' hown' hgrow _
    refine h v' w' ?_ ?_
    · have e : (l ++ b8s xs).length = l.length + n := by simp [b8s, hn]
      rw [bytesV_append, e]
      exact hown'
    · refine ((Below.refl base w).alloc hbase _).grown hgrow (by simp; omega) ?_
      intro k hk
      rcases hown.2 with ⟨rfl, _⟩ | ⟨g, cap, cur, rfl, hg, _⟩
      · simp [Value.ownBlock] at hk
      · simp [Value.ownBlock] at hk; omega

/-- the bytes of a sign -/
def encOne (c : Int) : List Int :=
  if c < 128 then [c] else if c < 2048 then [192 + c / 64, 128 + c % 64] else if c < 65536 then [224 + c / 4096, 128 + c / 64 % 64, 128 + c % 64]
  else [240 + c / 262144, 128 + c / 4096 % 64, 128 + c / 64 % 64, 128 + c % 64]
def encs (l : List Int) : List UInt8 := l.flatMap fun c => b8s (encOne c)
def encN (l : List Int) : List UInt8 := if l.all sgnB then encs l else []

theorem encs_snoc (l : List Int) (c : Int) : encs (l ++ [c]) = encs l ++ b8s (encOne c) := by simp [encs]
theorem take_succ_getD (l : List Int) (k : Nat) (h : k < l.length) : l.take (k + 1) = l.take k ++ [l.getD k 0] := by
  rw [List.take_add_one, List.getElem?_eq_getElem h]; simp [List.getD, h]
theorem encOne_len (c : Int) : (encOne c).length ≤ 4 := by
  unfold encOne
  split
  · simp
  · split
    · simp
    · split <;> simp
theorem encs_len (l : List Int) : (encs l).length ≤ 4 * l.length := by
  induction l with
  | nil => simp [encs]
  | cons c l ih =>
    have := encOne_len c
    have e : encs (c :: l) = b8s (encOne c) ++ encs l := rfl
    rw [e, List.length_append, List.length_cons]
    simp only [b8s, List.length_map]
    omega

theorem encN_bad (l : List Int) (k : Nat) (h : k < l.length) (hb : sgnB (l.getD k 0) = false) : encN l = [] := by
  unfold encN
  rw [if_neg]
  intro e
  have : sgnB (l.getD k 0) = true := by
    have hm : l.getD k 0 ∈ l := by simp [List.getD, h]
    exact List.all_eq_true.1 e _ hm
  rw [hb] at this; cases this
theorem encN_all (l : List Int) (h : ∀ t, t < l.length → sgnB (l.getD t 0) = true) : encN l = encs l := by
  unfold encN
  rw [if_pos]
  refine List.all_eq_true.2 fun x hx => ?_
  obtain ⟨t, ht, rfl⟩ := List.mem_iff_getElem.1 hx
  have := h t ht
  simpa [List.getD, ht] using this

theorem sgnB_le (c : Int) (h : sgnB c = true) : 0 ≤ c ∧ c ≤ 1114111 := by
  simp only [sgnB, inB, Bool.and_eq_true, decide_eq_true_eq] at h
  exact h.1
end

section
open Go.RowKit

def byteAt (s : ByteArray) (i : Nat) : Int := ((s.data.getD i 0).toNat : Int)
theorem byteAt_get (s : ByteArray) (k : Nat) (h : k < s.size) : (s[k].toNat : Int) = byteAt s k := by
  have h' : k < s.data.size := h
  unfold byteAt
  rw [Array.getD, dif_pos h']; rfl
theorem byteAt_bd (s : ByteArray) (k : Nat) : 0 ≤ byteAt s k ∧ byteAt s k < 256 := by
  have := (s.data.getD k 0).toNat_lt
  unfold byteAt; omega

/-- how many bytes a sign has that begins with b, and what of it lies there -/
def leadN (b : Int) : Nat := if b < 128 then 1 else if 192 ≤ b ∧ b < 224 then 2 else if 224 ≤ b ∧ b < 240 then 3 else if 240 ≤ b ∧ b < 248 then 4 else 0
def leadC (b : Int) : Int := if b < 128 then b else if b < 224 then b % 32 else if b < 240 then b % 16 else b % 8
def contC (s : ByteArray) (at_ : Nat) : Nat → Int
  | 0 => leadC (byteAt s at_)
  | i + 1 => contC s at_ i * 64 + byteAt s (at_ + (i + 1)) % 64
def contOk (s : ByteArray) (at_ n : Nat) : Bool := (List.range (n - 1)).all fun i => inB (byteAt s (at_ + (i + 1))) 128 191
def oneOk (s : ByteArray) (at_ : Nat) : Bool :=
  leadN (byteAt s at_) != 0 && decide (at_ + leadN (byteAt s at_) ≤ s.size) && contOk s at_ (leadN (byteAt s at_)) && sgnB (contC s at_ (leadN (byteAt s at_) - 1)) &&
    ((encOne (contC s at_ (leadN (byteAt s at_) - 1))).length == leadN (byteAt s at_))
def oneC (s : ByteArray) (at_ : Nat) : Int := if oneOk s at_ then contC s at_ (leadN (byteAt s at_) - 1) else 0
def oneL (s : ByteArray) (at_ : Nat) : Nat := if oneOk s at_ then leadN (byteAt s at_) else 0

theorem leadC_bd (b : Int) (h : 0 ≤ b) (h1 : b < 256) : 0 ≤ leadC b ∧ leadC b < 256 := by
  unfold leadC
  split
  · omega
  · split
    · omega
    · split <;> omega
theorem contC_bd (s : ByteArray) (at_ i : Nat) (hi : i ≤ 3) : 0 ≤ contC s at_ i ∧ contC s at_ i < 268435456 := by
  have h0 : 0 ≤ contC s at_ 0 ∧ contC s at_ 0 < 256 := leadC_bd _ (byteAt_bd s at_).1 (byteAt_bd s at_).2
  have e1 : contC s at_ 1 = contC s at_ 0 * 64 + byteAt s (at_ + 1) % 64 := rfl
  have e2 : contC s at_ 2 = contC s at_ 1 * 64 + byteAt s (at_ + 2) % 64 := rfl
  have e3 : contC s at_ 3 = contC s at_ 2 * 64 + byteAt s (at_ + 3) % 64 := rfl
  rcases Nat.lt_or_ge i 1 with h | h
  · obtain rfl : i = 0 := by omega
    omega
  · rcases Nat.lt_or_ge i 2 with h | h
    · obtain rfl : i = 1 := by omega
      omega
    · rcases Nat.lt_or_ge i 3 with h | h
      · obtain rfl : i = 2 := by omega
        omega
      · obtain rfl : i = 3 := by omega
        omega
theorem contOk_no (s : ByteArray) (at_ n i : Nat) (hi : i + 1 < n) (h : inB (byteAt s (at_ + (i + 1))) 128 191 = false) : contOk s at_ n = false := by
  cases e : contOk s at_ n with
  | false => rfl
  | true =>
    have := List.all_eq_true.1 e i (List.mem_range.2 (by omega))
    rw [h] at this; cases this
theorem contOk_yes (s : ByteArray) (at_ n : Nat) (h : ∀ i, i + 1 < n → inB (byteAt s (at_ + (i + 1))) 128 191 = true) : contOk s at_ n = true :=
  List.all_eq_true.2 fun i hi => h i (by have := List.mem_range.1 hi; omega)

theorem enc_one (c : Int) (h : sgnB c = true) : encN [c] = b8s (encOne c) := by
  unfold encN encs
  simp [h]

theorem len_beq (a b : Nat) : (a == b) = ((a : Int) == (b : Int)) := by
  rw [Bool.eq_iff_iff, beq_iff_eq, beq_iff_eq]; omega


/-- the answer of spec.l3One -/
def oneV (s : ByteArray) (at_ : Nat) : Value := .tuple #[.int .i64 (oneC s at_), .int .i64 (oneL s at_ : Int)]
theorem oneV_no (s : ByteArray) (at_ : Nat) (h : oneOk s at_ = false) : oneV s at_ = .tuple #[.int .i64 0, .int .i64 0] := by
  unfold oneV oneC oneL; rw [h]; rfl
theorem oneV_yes (s : ByteArray) (at_ n : Nat) (hn : leadN (byteAt s at_) = n) (h : oneOk s at_ = true) : oneV s at_ = .tuple #[.int .i64 (contC s at_ (n - 1)), .int .i64 (n : Int)] := by
  unfold oneV oneC oneL; rw [h, hn]; rfl

theorem lead_cases (b : Int) : (b < 128 ∧ leadN b = 1 ∧ leadC b = b) ∨ (192 ≤ b ∧ b < 224 ∧ leadN b = 2 ∧ leadC b = b % 32) ∨ (224 ≤ b ∧ b < 240 ∧ leadN b = 3 ∧ leadC b = b % 16) ∨
    (240 ≤ b ∧ b < 248 ∧ leadN b = 4 ∧ leadC b = b % 8) ∨ (¬ b < 128 ∧ (b < 192 ∨ 248 ≤ b) ∧ leadN b = 0) := by
  unfold leadN leadC
  by_cases h1 : b < 128
  · left; simp [h1]
  · by_cases h2 : b < 192
    · right; right; right; right
      refine ⟨h1, .inl h2, ?_⟩
      rw [if_neg h1, if_neg (by omega), if_neg (by omega), if_neg (by omega)]
    · by_cases h3 : b < 224
      · right; left
        refine ⟨by omega, h3, ?_, ?_⟩
        · rw [if_neg h1, if_pos (by omega)]
        · rw [if_neg h1, if_pos h3]
      · by_cases h4 : b < 240
        · right; right; left
          refine ⟨by omega, h4, ?_, ?_⟩
          · rw [if_neg h1, if_neg (by omega), if_pos (by omega)]
          · rw [if_neg h1, if_neg h3, if_pos h4]
        · by_cases h5 : b < 248
          · right; right; right; left
            refine ⟨by omega, h5, ?_, ?_⟩
            · rw [if_neg h1, if_neg (by omega), if_neg (by omega), if_pos (by omega)]
            · rw [if_neg h1, if_neg h3, if_neg h4]
          · right; right; right; right
            refine ⟨h1, .inr (by omega), ?_⟩
            rw [if_neg h1, if_neg (by omega), if_neg (by omega), if_neg (by omega)]
end

section
open Go.RowKit

/-- the signs from at_ on -/
def decF (s : ByteArray) : Nat → Nat → Option (List Int)
  | 0, _ => none
  | f + 1, at_ => if at_ < s.size then (if oneL s at_ = 0 then none else (decF s f (at_ + oneL s at_)).map (oneC s at_ :: ·)) else some []
def decN (s : ByteArray) : Option (List Int) := decF s (s.size + 1) 0

theorem oneL_le (s : ByteArray) (k : Nat) : k < s.size → k + oneL s k ≤ s.size ∧ oneL s k ≤ 4 := by
  intro hk
  unfold oneL
  split
  · rename_i h
    simp only [oneOk, Bool.and_eq_true, decide_eq_true_eq] at h
    refine ⟨h.1.1.1.2, ?_⟩
    unfold leadN
    split
    · omega
    · split
      · omega
      · split
        · omega
        · split <;> omega
  · omega

theorem decF_end (s : ByteArray) (f k : Nat) (h : ¬ k < s.size) : decF s (f + 1) k = some [] := by
  unfold decF; rw [if_neg h]
theorem decF_bad (s : ByteArray) (f k : Nat) (h : k < s.size) (h0 : oneL s k = 0) : decF s (f + 1) k = none := by
  unfold decF; rw [if_pos h, if_pos h0]
theorem decF_step (s : ByteArray) (f k : Nat) (h : k < s.size) (h0 : oneL s k ≠ 0) : decF s (f + 1) k = (decF s f (k + oneL s k)).map (oneC s k :: ·) := by
  conv => lhs; unfold decF
  rw [if_pos h, if_neg h0]

/-- more fuel than bytes changes nothing -/
theorem decF_fuel (s : ByteArray) : ∀ (f g k : Nat), s.size - k < f → s.size - k < g → decF s f k = decF s g k := by
  intro f
  induction f with
  | zero => intro g k h; omega
  | succ f ih =>
    intro g k hf hg
    obtain ⟨g, rfl⟩ : ∃ g', g = g' + 1 := ⟨g - 1, by omega⟩
    by_cases hk : k < s.size
    · by_cases h0 : oneL s k = 0
      · rw [decF_bad s f k hk h0, decF_bad s g k hk h0]
      · rw [decF_step s f k hk h0, decF_step s g k hk h0, ih g (k + oneL s k) (by omega) (by omega)]
    · rw [decF_end s f k hk, decF_end s g k hk]

/-- what is read from k on, behind l -/
def decA (s : ByteArray) (k : Nat) (l : List Int) : Option (List Int) := (decF s (s.size + 1) k).map (l ++ ·)
theorem decA_bad (s : ByteArray) (k : Nat) (l : List Int) (h : k < s.size) (h0 : oneL s k = 0) : decA s k l = none := by
  unfold decA; rw [decF_bad s _ k h h0]; rfl
theorem decA_end (s : ByteArray) (k : Nat) (l : List Int) (h : ¬ k < s.size) : decA s k l = some l := by
  unfold decA; rw [decF_end s _ k h]; simp
theorem decA_step (s : ByteArray) (k : Nat) (l : List Int) (h : k < s.size) (h0 : oneL s k ≠ 0) : decA s (k + oneL s k) (l ++ [oneC s k]) = decA s k l := by
  unfold decA
  rw [decF_step s _ k h h0, decF_fuel s (s.size + 1) s.size (k + oneL s k) (by omega) (by omega)]
  cases decF s s.size (k + oneL s k) with
  | none => rfl
  | some m => simp
theorem decA_0 (s : ByteArray) : decA s 0 [] = decN s := by
  unfold decA decN
  cases decF s (s.size + 1) 0 with
  | none => rfl
  | some m => simp

/-- what is answered: a row, and whether there is one -/
def DecSays (w : World) (e : Ending) (w' : World) (r : Option (List Int)) : Prop :=
  ∃ v, e = .returned (.tuple #[v, .bool r.isSome]) ∧ IntRow w' w.heap.size v (r.getD []) ∧ Below w.heap.size w w'
end

section
def byteN (s : ByteArray) (i : Nat) : Nat := (s.data.getD i 0).toNat
theorem byteN_lt (s : ByteArray) (i : Nat) : byteN s i < 256 := UInt8.toNat_lt _
theorem byteAt_N (s : ByteArray) (i : Nat) : byteAt s i = (byteN s i : Int) := rfl
theorem listN (s : ByteArray) (i : Nat) : (s.data.toList.getD i 0).toNat = byteN s i := by
  unfold byteN
  rw [List.getD_eq_getElem?_getD, Array.getElem?_toList, Array.getD_eq_getD_getElem?]

theorem decode_B (s : ByteArray) (k : Nat) : Utf8.decode s k = Lib.decodeN (s.size - k) (byteN s k) (byteN s (k + 1)) (byteN s (k + 2)) (byteN s (k + 3)) := by
  rw [Lib.decode_N, listN, listN, listN, listN]; rfl

theorem oneOk_iff (s : ByteArray) (k n : Nat) (hn : leadN (byteAt s k) = n) (h0 : n ≠ 0) :
    oneOk s k = true ↔ (k + n ≤ s.size ∧ contOk s k n = true ∧ sgnB (contC s k (n - 1)) = true ∧ (encOne (contC s k (n - 1))).length = n) := by
  unfold oneOk; rw [hn]; simp [h0, and_assoc]
theorem sgnB_iff (c : Int) : sgnB c = true ↔ (0 ≤ c ∧ c ≤ 1114111 ∧ ¬ (55296 ≤ c ∧ c ≤ 57343)) := by
  simp [sgnB, inB]; omega
theorem encOne_length (c : Int) : (encOne c).length = if c < 128 then 1 else if c < 2048 then 2 else if c < 65536 then 3 else 4 := by
  unfold encOne; split
  · rfl
  · split
    · rfl
    · split <;> rfl
theorem contOk_1 (s : ByteArray) (k : Nat) : contOk s k 1 = true := rfl
theorem contOk_2 (s : ByteArray) (k : Nat) : contOk s k 2 = true ↔ (128 ≤ byteAt s (k + 1) ∧ byteAt s (k + 1) ≤ 191) := by
  simp [contOk, List.range_succ, inB]
theorem contOk_3 (s : ByteArray) (k : Nat) : contOk s k 3 = true ↔ ((128 ≤ byteAt s (k + 1) ∧ byteAt s (k + 1) ≤ 191) ∧ (128 ≤ byteAt s (k + 2) ∧ byteAt s (k + 2) ≤ 191)) := by
  simp [contOk, List.range_succ, inB]
theorem contOk_4 (s : ByteArray) (k : Nat) : contOk s k 4 = true ↔ ((128 ≤ byteAt s (k + 1) ∧ byteAt s (k + 1) ≤ 191) ∧ (128 ≤ byteAt s (k + 2) ∧ byteAt s (k + 2) ≤ 191) ∧ (128 ≤ byteAt s (k + 3) ∧ byteAt s (k + 3) ≤ 191)) := by
  simp [contOk, List.range_succ, inB, and_assoc]

/-- when one sign is read, in numbers -/
theorem oneOk_num (s : ByteArray) (k : Nat) (hk : k < s.size) (b0 b1 b2 b3 : Int) (e0 : byteAt s k = b0) (e1 : byteAt s (k + 1) = b1) (e2 : byteAt s (k + 2) = b2) (e3 : byteAt s (k + 3) = b3) (hb : 0 ≤ b0) :
    (b0 < 128 ∧ oneOk s k = true ∧ oneL s k = 1 ∧ oneC s k = b0) ∨
    (192 ≤ b0 ∧ b0 < 224 ∧ oneOk s k = true ∧ oneL s k = 2 ∧ oneC s k = b0 % 32 * 64 + b1 % 64 ∧ k + 2 ≤ s.size ∧ 128 ≤ b1 ∧ b1 ≤ 191 ∧ 128 ≤ b0 % 32 * 64 + b1 % 64) ∨
    (224 ≤ b0 ∧ b0 < 240 ∧ oneOk s k = true ∧ oneL s k = 3 ∧ oneC s k = (b0 % 16 * 64 + b1 % 64) * 64 + b2 % 64 ∧ k + 3 ≤ s.size ∧ 128 ≤ b1 ∧ b1 ≤ 191 ∧ 128 ≤ b2 ∧ b2 ≤ 191 ∧ 2048 ≤ (b0 % 16 * 64 + b1 % 64) * 64 + b2 % 64 ∧ ¬ (55296 ≤ (b0 % 16 * 64 + b1 % 64) * 64 + b2 % 64 ∧ (b0 % 16 * 64 + b1 % 64) * 64 + b2 % 64 ≤ 57343)) ∨
    (240 ≤ b0 ∧ b0 < 248 ∧ oneOk s k = true ∧ oneL s k = 4 ∧ oneC s k = ((b0 % 8 * 64 + b1 % 64) * 64 + b2 % 64) * 64 + b3 % 64 ∧ k + 4 ≤ s.size ∧ 128 ≤ b1 ∧ b1 ≤ 191 ∧ 128 ≤ b2 ∧ b2 ≤ 191 ∧ 128 ≤ b3 ∧ b3 ≤ 191 ∧ 65536 ≤ ((b0 % 8 * 64 + b1 % 64) * 64 + b2 % 64) * 64 + b3 % 64 ∧ ((b0 % 8 * 64 + b1 % 64) * 64 + b2 % 64) * 64 + b3 % 64 ≤ 1114111) ∨
    (oneOk s k = false ∧ oneL s k = 0 ∧ 128 ≤ b0 ∧
      ¬ (192 ≤ b0 ∧ b0 < 224 ∧ k + 2 ≤ s.size ∧ 128 ≤ b1 ∧ b1 ≤ 191 ∧ 128 ≤ b0 % 32 * 64 + b1 % 64) ∧
      ¬ (224 ≤ b0 ∧ b0 < 240 ∧ k + 3 ≤ s.size ∧ 128 ≤ b1 ∧ b1 ≤ 191 ∧ 128 ≤ b2 ∧ b2 ≤ 191 ∧ 2048 ≤ (b0 % 16 * 64 + b1 % 64) * 64 + b2 % 64 ∧ ¬ (55296 ≤ (b0 % 16 * 64 + b1 % 64) * 64 + b2 % 64 ∧ (b0 % 16 * 64 + b1 % 64) * 64 + b2 % 64 ≤ 57343)) ∧
      ¬ (240 ≤ b0 ∧ b0 < 248 ∧ k + 4 ≤ s.size ∧ 128 ≤ b1 ∧ b1 ≤ 191 ∧ 128 ≤ b2 ∧ b2 ≤ 191 ∧ 128 ≤ b3 ∧ b3 ≤ 191 ∧ 65536 ≤ ((b0 % 8 * 64 + b1 % 64) * 64 + b2 % 64) * 64 + b3 % 64 ∧ ((b0 % 8 * 64 + b1 % 64) * 64 + b2 % 64) * 64 + b3 % 64 ≤ 1114111)) := by
  have hC : ∀ n, leadN (byteAt s k) = n → oneOk s k = true → oneL s k = n ∧ oneC s k = contC s k (n - 1) := fun n hn h => by
    unfold oneL oneC; rw [h, hn]; exact ⟨rfl, rfl⟩
  have hZ : oneOk s k = false → oneL s k = 0 := fun h => by unfold oneL; rw [h]; rfl
  have c0 : contC s k 0 = leadC (byteAt s k) := rfl
  have c1 : contC s k 1 = contC s k 0 * 64 + byteAt s (k + 1) % 64 := rfl
  have c2 : contC s k 2 = contC s k 1 * 64 + byteAt s (k + 2) % 64 := rfl
  have c3 : contC s k 3 = contC s k 2 * 64 + byteAt s (k + 3) % 64 := rfl
  have i1 := oneOk_iff s k 1
  have i2 := oneOk_iff s k 2
  have i3 := oneOk_iff s k 3
  have i4 := oneOk_iff s k 4
  have hl := lead_cases (byteAt s k)
  rw [contOk_2] at i2
  rw [contOk_3] at i3
  rw [contOk_4] at i4
  simp only [show 1 - 1 = 0 from rfl, show 2 - 1 = 1 from rfl, show 3 - 1 = 2 from rfl, show 4 - 1 = 3 from rfl, sgnB_iff, encOne_length] at i1 i2 i3 i4
  rw [e0] at c0 hl i1 i2 i3 i4 hC
  rw [e1] at c1 i2 i3 i4
  rw [e2] at c2 i3 i4
  rw [e3] at c3 i4
  rcases hl with ⟨h1, h2, h3⟩ | ⟨h1, h1', h2, h3⟩ | ⟨h1, h1', h2, h3⟩ | ⟨h1, h1', h2, h3⟩ | hl
  · left
    have ok : oneOk s k = true := (i1 h2 (by decide)).2 ⟨by omega, rfl, by omega, by split <;> omega⟩
    obtain ⟨a, b⟩ := hC _ h2 ok
    exact ⟨h1, ok, a, by rw [b]; show contC s k 0 = _; omega⟩
  · have i := i2 h2 (by decide)
    rw [c1, c0, h3] at i
    cases ok : oneOk s k
    · right; right; right; right
      refine ⟨rfl, hZ ok, by omega, fun hh => ?_, fun hh => by omega, fun hh => by omega⟩
      have := i.2 ⟨hh.2.2.1, ⟨hh.2.2.2.1, hh.2.2.2.2.1⟩, by omega, by (repeat' split) <;> omega⟩
      rw [ok] at this; cases this
    · right; left
      obtain ⟨a, b⟩ := hC _ h2 ok
      obtain ⟨q1, q2, q3, q4⟩ := i.1 ok
      refine ⟨h1, h1', rfl, a, by rw [b]; show contC s k 1 = _; rw [c1, c0, h3], q1, q2.1, q2.2, ?_⟩
      revert q4; (repeat' split) <;> omega
  · have i := i3 h2 (by decide)
    rw [c2, c1, c0, h3] at i
    cases ok : oneOk s k
    · right; right; right; right
      refine ⟨rfl, hZ ok, by omega, fun hh => by omega, fun hh => ?_, fun hh => by omega⟩
      have := i.2 ⟨hh.2.2.1, ⟨⟨hh.2.2.2.1, hh.2.2.2.2.1⟩, ⟨hh.2.2.2.2.2.1, hh.2.2.2.2.2.2.1⟩⟩, by omega, by (repeat' split) <;> omega⟩
      rw [ok] at this; cases this
    · right; right; left
      obtain ⟨a, b⟩ := hC _ h2 ok
      obtain ⟨q1, q2, q3, q4⟩ := i.1 ok
      refine ⟨h1, h1', rfl, a, by rw [b]; show contC s k 2 = _; rw [c2, c1, c0, h3], q1, q2.1.1, q2.1.2, q2.2.1, q2.2.2, ?_, q3.2.2⟩
      revert q4; (repeat' split) <;> omega
  · have i := i4 h2 (by decide)
    rw [c3, c2, c1, c0, h3] at i
    cases ok : oneOk s k
    · right; right; right; right
      refine ⟨rfl, hZ ok, by omega, fun hh => by omega, fun hh => by omega, fun hh => ?_⟩
      have := i.2 ⟨hh.2.2.1, ⟨⟨hh.2.2.2.1, hh.2.2.2.2.1⟩, ⟨hh.2.2.2.2.2.1, hh.2.2.2.2.2.2.1⟩, ⟨hh.2.2.2.2.2.2.2.1, hh.2.2.2.2.2.2.2.2.1⟩⟩, by omega, by (repeat' split) <;> omega⟩
      rw [ok] at this; cases this
    · right; right; right; left
      obtain ⟨a, b⟩ := hC _ h2 ok
      obtain ⟨q1, q2, q3, q4⟩ := i.1 ok
      refine ⟨h1, h1', rfl, a, by rw [b]; show contC s k 3 = _; rw [c3, c2, c1, c0, h3], q1, q2.1.1, q2.1.2, q2.2.1.1, q2.2.1.2, q2.2.2.1, q2.2.2.2, ?_, q3.2.1⟩
      revert q4; (repeat' split) <;> omega
  · right; right; right; right
    have z : leadN b0 = 0 := by first | exact hl.2.2 | exact hl.2.1 | exact hl.1 | simpa using hl
    have ok : oneOk s k = false := by unfold oneOk; rw [e0, z]; rfl
    have : 128 ≤ b0 ∧ ¬ (192 ≤ b0 ∧ b0 < 248) := by
      unfold leadN at z; revert z; (repeat' split) <;> omega
    refine ⟨ok, hZ ok, by omega, fun hh => by omega, fun hh => by omega, fun hh => by omega⟩

/-- the language's decoder reads the same sign, or none -/
theorem decode_one (s : ByteArray) (k : Nat) (hk : k < s.size) :
    (oneOk s k = true ∧ oneL s k ≠ 0 ∧ Utf8.decode s k = ((oneC s k).toNat, oneL s k) ∧ 0 ≤ oneC s k ∧ oneC s k ≤ 1114111 ∧ ¬ ((oneC s k).toNat = 65533 ∧ oneL s k = 1)) ∨
    (oneOk s k = false ∧ oneL s k = 0 ∧ Utf8.decode s k = (65533, 1)) := by
  rw [decode_B]
  have h0 := byteN_lt s k
  have h1 := byteN_lt s (k + 1)
  have h2 := byteN_lt s (k + 2)
  have h3 := byteN_lt s (k + 3)
  have hh := oneOk_num s k hk _ _ _ _ (byteAt_N s k) (byteAt_N s (k + 1)) (byteAt_N s (k + 2)) (byteAt_N s (k + 3)) (by omega)
  generalize byteN s k = b0 at *
  generalize byteN s (k + 1) = b1 at *
  generalize byteN s (k + 2) = b2 at *
  generalize byteN s (k + 3) = b3 at *
  obtain ⟨n, hn⟩ : ∃ n, n = s.size - k := ⟨_, rfl⟩
  rw [← hn]
  unfold Lib.decodeN
  rcases hh with ⟨a, ok, l, c⟩ | ⟨a, a', ok, l, c, r⟩ | ⟨a, a', ok, l, c, r⟩ | ⟨a, a', ok, l, c, r⟩ | ⟨ok, l, a, r1, r2, r3⟩
  · left
    rw [if_pos (by omega)]
    exact ⟨ok, by omega, by rw [c, l]; simp, by omega, by omega, by omega⟩
  · left
    rw [if_neg (by omega), if_pos (by omega), if_pos (by omega)]
    exact ⟨ok, by omega, by rw [c, l]; exact Prod.ext (by show _ = _; omega) rfl, by omega, by omega, by omega⟩
  · left
    rw [if_neg (by omega), if_neg (by omega), if_pos (by omega), if_pos (by omega)]
    exact ⟨ok, by omega, by rw [c, l]; exact Prod.ext (by show _ = _; omega) rfl, by omega, by omega, by omega⟩
  · left
    rw [if_neg (by omega), if_neg (by omega), if_neg (by omega), if_pos (by omega), if_pos (by omega)]
    exact ⟨ok, by omega, by rw [c, l]; exact Prod.ext (by show _ = _; omega) rfl, by omega, by omega, by omega⟩
  · right
    refine ⟨ok, l, ?_⟩
    rw [if_neg (by omega)]
    by_cases g1 : b0 / 32 = 6 ∧ (1 < n ∧ b1 / 64 = 2)
    · rw [if_pos g1, if_neg (by omega)]
    · rw [if_neg g1]
      by_cases g2 : b0 / 16 = 14 ∧ (1 < n ∧ b1 / 64 = 2) ∧ (2 < n ∧ b2 / 64 = 2)
      · rw [if_pos g2, if_neg (by omega)]
      · rw [if_neg g2]
        by_cases g3 : b0 / 8 = 30 ∧ (1 < n ∧ b1 / 64 = 2) ∧ (2 < n ∧ b2 / 64 = 2) ∧ (3 < n ∧ b3 / 64 = 2)
        · rw [if_pos g3, if_neg (by omega)]
        · rw [if_neg g3]

/-- a text is valid where the chapter reads it -/
theorem valid_decF (s : ByteArray) : ∀ (f k : Nat), s.size - k < f → Lib.validD (s.data.toList.drop k) = (decF s f k).isSome := by
  intro f
  induction f with
  | zero => intro k h; omega
  | succ f ih =>
    intro k h
    by_cases hk : k < s.size
    · have hne : s.data.toList.drop k ≠ [] := by
        intro e
        have := congrArg List.length e
        simp at this
        have : s.data.size = s.size := rfl
        omega
      rw [Lib.validD_step _ hne, Lib.decodeL_drop]
      rcases decode_one s k hk with ⟨ok, l, e, h0, h1, hn⟩ | ⟨ok, l, e⟩
      · rw [e, if_neg hn, List.drop_drop, decF_step s f k hk l, ih (k + oneL s k) (by omega)]
        simp
      · rw [e, if_pos ⟨rfl, rfl⟩, decF_bad s f k hk l]; rfl
    · rw [decF_end s f k hk, List.drop_eq_nil_of_le (by show s.data.toList.length ≤ k; have : s.data.size = s.size := rfl; simp; omega)]
      rfl
theorem valid_decN (s : ByteArray) : Lib.validD s.data.toList = (decN s).isSome := by
  have := valid_decF s (s.size + 1) 0 (by omega)
  rwa [List.drop_zero] at this
end

end Go.Proofs.YtchcdgkpaipkgaaGreatDoor
