/- Signs: what is written is read as it was; what is read is what is written. No word of the program. Names that are one: what the law of Alike leans on. No walk. Names in order: what Order and SortNames come to. No word of the program. -/
import Derived.Test.YtlkemmdcjnaepaaDoorRows
import Derived.Test.YtlkemmdcjnaepaaDoorG02
import Derived.Test.YtlkemmdcjnaepaaDoorG04
import Derived.Test.YtlkemmdcjnaepaaDoorG19
namespace Go.Proofs.YtlkemmdcjnaepaaDoor

section
theorem byteN_app (pre xs : List UInt8) (i : Nat) : byteN ⟨(pre ++ xs).toArray⟩ (pre.length + i) = (xs.getD i 0).toNat := by
  unfold byteN
  show ((pre ++ xs).toArray.getD (pre.length + i) 0).toNat = _
  rw [Array.getD_eq_getD_getElem?, List.getD_eq_getElem?_getD, List.getElem?_toArray, List.getElem?_append_right (Nat.le_add_right _ _), Nat.add_sub_cancel_left]

theorem b8_toNat (x : Int) (h : isB x) : ((b8 x).toNat : Int) = x := by
  unfold isB at h
  unfold b8
  simp
  omega

theorem bytesAt_enc (pre rest : List UInt8) (xs : List Int) (hx : ∀ x ∈ xs, isB x) (i : Nat) (hi : i < xs.length) :
    byteAt ⟨(pre ++ (b8s xs ++ rest)).toArray⟩ (pre.length + i) = xs.getD i 0 := by
  rw [byteAt_N, byteN_app]
  have e : (b8s xs ++ rest).getD i 0 = b8 (xs.getD i 0) := by
    rw [List.getD_eq_getElem?_getD, List.getElem?_append_left (by simpa [b8s] using hi)]
    simp [b8s, List.getD, hi]
  rw [e, b8_toNat]
  exact hx _ (by simp [List.getD, hi])

theorem encOne_B (c : Int) (h0 : 0 ≤ c) (h1 : c ≤ 1114111) : ∀ x ∈ encOne c, isB x := by
  intro x hx
  unfold encOne at hx
  unfold isB
  revert hx
  (repeat' split) <;> simp <;> omega

/-- where the bytes of a sign stand, it is read -/
theorem one_enc (pre rest : List UInt8) (c : Int) (h : sgnB c = true) :
    oneL ⟨(pre ++ (b8s (encOne c) ++ rest)).toArray⟩ pre.length = (encOne c).length ∧ oneC ⟨(pre ++ (b8s (encOne c) ++ rest)).toArray⟩ pre.length = c := by
  have hb := (sgnB_iff c).1 h
  have hB := bytesAt_enc pre rest (encOne c) (encOne_B c hb.1 hb.2.1)
  have hsz : (⟨(pre ++ (b8s (encOne c) ++ rest)).toArray⟩ : ByteArray).size = pre.length + ((encOne c).length + rest.length) := by
    show (pre ++ (b8s (encOne c) ++ rest)).toArray.size = _
    simp [b8s]
  generalize (⟨(pre ++ (b8s (encOne c) ++ rest)).toArray⟩ : ByteArray) = s at hB hsz
  have hpos : 0 < (encOne c).length := by rw [encOne_length]; (repeat' split) <;> omega
  have hn := oneOk_num s pre.length (by rw [hsz]; omega) _ _ _ _ rfl rfl rfl rfl (byteAt_bd s pre.length).1
  rw [hsz] at hn
  clear hpos
  generalize oneOk s pre.length = okk at hn
  by_cases h1 : c < 128
  · have e : encOne c = [c] := by unfold encOne; rw [if_pos h1]
    rw [e] at hB ⊢
    have b0 : byteAt s pre.length = c := hB 0 (by simp)
    rw [b0] at hn
    rcases hn with ⟨q, -, ql, qc⟩ | ⟨q, -⟩ | ⟨q, -⟩ | ⟨q, -⟩ | ⟨-, -, q, -⟩
    · exact ⟨ql, qc⟩
    · omega
    · omega
    · omega
    · omega
  · by_cases h2 : c < 2048
    · have e : encOne c = [192 + c / 64, 128 + c % 64] := by unfold encOne; rw [if_neg h1, if_pos h2]
      rw [e] at hB hn ⊢
      have b0 : byteAt s pre.length = 192 + c / 64 := hB 0 (by simp)
      have b1 : byteAt s (pre.length + 1) = 128 + c % 64 := hB 1 (by simp)
      rw [b0, b1] at hn
      simp only [List.length_cons, List.length_nil] at hn ⊢
      rcases hn with ⟨q, -⟩ | ⟨q, q', -, ql, qc, -⟩ | ⟨q, -⟩ | ⟨q, -⟩ | ⟨-, -, -, r, -⟩
      · omega
      · exact ⟨ql, by rw [qc]; omega⟩
      · omega
      · omega
      · exact absurd ⟨by omega, by omega, by omega, by omega, by omega, by omega⟩ r
    · by_cases h3 : c < 65536
      · have e : encOne c = [224 + c / 4096, 128 + c / 64 % 64, 128 + c % 64] := by unfold encOne; rw [if_neg h1, if_neg h2, if_pos h3]
        rw [e] at hB hn ⊢
        have b0 : byteAt s pre.length = 224 + c / 4096 := hB 0 (by simp)
        have b1 : byteAt s (pre.length + 1) = 128 + c / 64 % 64 := hB 1 (by simp)
        have b2 : byteAt s (pre.length + 2) = 128 + c % 64 := hB 2 (by simp)
        rw [b0, b1, b2] at hn
        simp only [List.length_cons, List.length_nil] at hn ⊢
        have hv : ((224 + c / 4096) % 16 * 64 + (128 + c / 64 % 64) % 64) * 64 + (128 + c % 64) % 64 = c := by omega
        rw [hv] at hn
        rcases hn with ⟨q, -⟩ | ⟨q, q', -⟩ | ⟨q, q', -, ql, qc, -⟩ | ⟨q, -⟩ | ⟨-, -, -, -, r, -⟩
        · omega
        · omega
        · exact ⟨ql, qc⟩
        · omega
        · exact absurd ⟨by omega, by omega, by omega, by omega, by omega, by omega, by omega, by omega, hb.2.2⟩ r
      · have e : encOne c = [240 + c / 262144, 128 + c / 4096 % 64, 128 + c / 64 % 64, 128 + c % 64] := by unfold encOne; rw [if_neg h1, if_neg h2, if_neg h3]
        rw [e] at hB hn ⊢
        have b0 : byteAt s pre.length = 240 + c / 262144 := hB 0 (by simp)
        have b1 : byteAt s (pre.length + 1) = 128 + c / 4096 % 64 := hB 1 (by simp)
        have b2 : byteAt s (pre.length + 2) = 128 + c / 64 % 64 := hB 2 (by simp)
        have b3 : byteAt s (pre.length + 3) = 128 + c % 64 := hB 3 (by simp)
        rw [b0, b1, b2, b3] at hn
        simp only [List.length_cons, List.length_nil] at hn ⊢
        have hv : (((240 + c / 262144) % 8 * 64 + (128 + c / 4096 % 64) % 64) * 64 + (128 + c / 64 % 64) % 64) * 64 + (128 + c % 64) % 64 = c := by omega
        rw [hv] at hn
        rcases hn with ⟨q, -⟩ | ⟨q, q', -⟩ | ⟨q, q', -⟩ | ⟨q, q', -, ql, qc, -⟩ | ⟨-, -, -, -, -, r⟩
        · omega
        · omega
        · omega
        · exact ⟨ql, qc⟩
        · exact absurd ⟨by omega, by omega, by omega, by omega, by omega, by omega, by omega, by omega, by omega, by omega, hb.2.1⟩ r

theorem encs_cons (c : Int) (l : List Int) : encs (c :: l) = b8s (encOne c) ++ encs l := by simp [encs]

theorem decF_encs : ∀ (l : List Int) (pre : List UInt8) (f : Nat), l.length < f → l.all sgnB = true → decF ⟨(pre ++ encs l).toArray⟩ f pre.length = some l := by
  intro l
  induction l with
  | nil =>
    intro pre f hf _
    obtain ⟨g, rfl⟩ : ∃ g, f = g + 1 := ⟨f - 1, by simp at hf; omega⟩
    exact decF_end _ g _ (by show ¬ pre.length < (pre ++ encs []).toArray.size; simp [encs])
  | cons c l ih =>
    intro pre f hf hall
    obtain ⟨g, rfl⟩ : ∃ g, f = g + 1 := ⟨f - 1, by omega⟩
    simp only [List.all_cons, Bool.and_eq_true] at hall
    obtain ⟨hL, hC⟩ := one_enc pre (encs l) c hall.1
    rw [encs_cons]
    have hne : (encOne c).length ≠ 0 := by rw [encOne_length]; (repeat' split) <;> omega
    have hlt : pre.length < (⟨(pre ++ (b8s (encOne c) ++ encs l)).toArray⟩ : ByteArray).size := by
      show _ < (pre ++ (b8s (encOne c) ++ encs l)).toArray.size
      simp [b8s]; omega
    rw [decF_step _ g _ hlt (by rw [hL]; exact hne), hL, hC]
    have := ih (pre ++ b8s (encOne c)) g (by simp at hf; omega) hall.2
    rw [List.append_assoc] at this
    have e : (pre ++ b8s (encOne c)).length = pre.length + (encOne c).length := by simp [b8s]
    rw [e] at this
    rw [this]; rfl

theorem encs_ge (l : List Int) : l.length ≤ (encs l).length := by
  induction l with
  | nil => simp
  | cons c l ih =>
    rw [encs_cons]
    have : 0 < (encOne c).length := by rw [encOne_length]; (repeat' split) <;> omega
    simp [b8s]; omega

/-- Decode of Encode -/
theorem dec_enc (l : List Int) (h : encN l ≠ []) : decN ⟨(encN l).toArray⟩ = some l := by
  unfold encN at h ⊢
  by_cases hall : l.all sgnB = true
  · rw [if_pos hall]
    have := decF_encs l [] ((⟨(encs l).toArray⟩ : ByteArray).size + 1) (by
      have := encs_ge l
      show l.length < (encs l).toArray.size + 1
      simp; omega) hall
    exact this
  · rw [if_neg hall] at h; exact absurd rfl h

theorem drop_bytes (s : ByteArray) (k : Nat) (hk : k < s.size) : s.data.toList.drop k = UInt8.ofNat (byteN s k) :: s.data.toList.drop (k + 1) := by
  have hk' : k < s.data.toList.length := by simpa using hk
  rw [List.drop_eq_getElem_cons hk']
  congr 1
  unfold byteN
  rw [Array.getD_eq_getD_getElem?, Array.getElem?_eq_getElem (by simpa using hk)]
  simp

theorem b8_byte (n : Nat) (x : Int) (h : x = (n : Int)) : b8 x = UInt8.ofNat n := by subst h; unfold b8; simp

/-- the bytes of the sign that is read -/
theorem enc_one_at (s : ByteArray) (k : Nat) (hk : k < s.size) (h0 : oneL s k ≠ 0) : sgnB (oneC s k) = true ∧ b8s (encOne (oneC s k)) ++ s.data.toList.drop (k + oneL s k) = s.data.toList.drop k := by
  have h1 := byteN_lt s k
  have h2 := byteN_lt s (k + 1)
  have h3 := byteN_lt s (k + 2)
  have h4 := byteN_lt s (k + 3)
  have hn := oneOk_num s k hk _ _ _ _ (byteAt_N s k) (byteAt_N s (k + 1)) (byteAt_N s (k + 2)) (byteAt_N s (k + 3)) (by omega)
  rw [sgnB_iff]
  have d0 := drop_bytes s k hk
  have d1 := fun h => drop_bytes s (k + 1) h
  have d2 := fun h => drop_bytes s (k + 2) h
  have d3 := fun h => drop_bytes s (k + 3) h
  generalize byteN s k = b0 at *
  generalize byteN s (k + 1) = b1 at *
  generalize byteN s (k + 2) = b2 at *
  generalize byteN s (k + 3) = b3 at *
  rcases hn with ⟨a, ok, l, c⟩ | ⟨a, a', ok, l, c, r⟩ | ⟨a, a', ok, l, c, r⟩ | ⟨a, a', ok, l, c, r⟩ | ⟨ok, l, -⟩
  · refine ⟨by omega, ?_⟩
    have e : encOne (oneC s k) = [oneC s k] := by unfold encOne; rw [if_pos (by omega)]
    rw [e, l, d0]
    simp only [b8s, List.map_cons, List.map_nil, List.cons_append, List.nil_append]
    rw [b8_byte b0 _ c]
  · refine ⟨by omega, ?_⟩
    have e : encOne (oneC s k) = [192 + oneC s k / 64, 128 + oneC s k % 64] := by unfold encOne; rw [if_neg (by omega), if_pos (by omega)]
    rw [e, l, d0, d1 (by omega)]
    simp only [b8s, List.map_cons, List.map_nil, List.cons_append, List.nil_append]
    rw [b8_byte b0 _ (by omega), b8_byte b1 _ (by omega)]
  · refine ⟨by omega, ?_⟩
    have e : encOne (oneC s k) = [224 + oneC s k / 4096, 128 + oneC s k / 64 % 64, 128 + oneC s k % 64] := by unfold encOne; rw [if_neg (by omega), if_neg (by omega), if_pos (by omega)]
    rw [e, l, d0, d1 (by omega), d2 (by omega)]
    simp only [b8s, List.map_cons, List.map_nil, List.cons_append, List.nil_append]
    rw [b8_byte b0 _ (by omega), b8_byte b1 _ (by omega), b8_byte b2 _ (by omega)]
  · refine ⟨by omega, ?_⟩
    have e : encOne (oneC s k) = [240 + oneC s k / 262144, 128 + oneC s k / 4096 % 64, 128 + oneC s k / 64 % 64, 128 + oneC s k % 64] := by unfold encOne; rw [if_neg (by omega), if_neg (by omega), if_neg (by omega)]
    rw [e, l, d0, d1 (by omega), d2 (by omega), d3 (by omega)]
    simp only [b8s, List.map_cons, List.map_nil, List.cons_append, List.nil_append]
    rw [b8_byte b0 _ (by omega), b8_byte b1 _ (by omega), b8_byte b2 _ (by omega), b8_byte b3 _ (by omega)]
  · exact absurd l h0

theorem enc_decF (s : ByteArray) : ∀ (f k : Nat) (l : List Int), decF s f k = some l → l.all sgnB = true ∧ encs l = s.data.toList.drop k := by
  intro f
  induction f with
  | zero => intro k l h; cases h
  | succ f ih =>
    intro k l h
    by_cases hk : k < s.size
    · by_cases h0 : oneL s k = 0
      · rw [decF_bad s f k hk h0] at h; cases h
      · rw [decF_step s f k hk h0] at h
        obtain ⟨m, hm, rfl⟩ := Option.map_eq_some_iff.1 h
        obtain ⟨i1, i2⟩ := ih _ m hm
        obtain ⟨o1, o2⟩ := enc_one_at s k hk h0
        exact ⟨by simp [o1, i1], by rw [encs_cons, i2, o2]⟩
    · rw [decF_end s f k hk] at h
      cases h
      exact ⟨rfl, by rw [List.drop_eq_nil_of_le (by simpa using hk)]; rfl⟩

/-- Encode of Decode -/
theorem enc_dec (s : ByteArray) (l : List Int) (h : decN s = some l) : (⟨(encN l).toArray⟩ : ByteArray) = s := by
  obtain ⟨h1, h2⟩ := enc_decF s _ _ l h
  unfold encN
  rw [if_pos h1, h2, List.drop_zero]
end

section
open Go.RowKit

theorem keyN_ext {a b : ByteArray} (h : alikeB a b = true) : keyN a = keyN b := by
  unfold alikeB at h
  simp only [Bool.and_eq_true, beq_iff_eq] at h
  obtain ⟨⟨h1, h2⟩, h3⟩ := h
  have e : (keyN a).1 = (keyN b).1 := list_ext (by simpa [ByteArray.toList_eq] using h3)
  exact Prod.ext e (h1.trans h2.symm)
theorem alike_of {a b : ByteArray} (h : keyN a = keyN b) (hn : (nameL a).isSome = true) : alikeB a b = true := by
  unfold alikeB
  rw [← h, keyN_is, hn]
  simp
theorem alike_sym (a b : ByteArray) : alikeB b a = alikeB a b := by
  unfold alikeB
  rw [Bool.and_comm (keyN b).2 (keyN a).2]
  congr 1
  rw [Bool.eq_iff_iff, beq_iff_eq, beq_iff_eq]
  exact eq_comm
theorem alike_self (a : ByteArray) : alikeB a a = (nameL a).isSome := by
  unfold alikeB
  rw [keyN_is]
  cases (nameL a).isSome <;> simp
theorem alike_next {a b : ByteArray} (h : alikeB a b = true) (c : ByteArray) : alikeB b c = alikeB a c := by
  unfold alikeB; rw [keyN_ext h]
theorem alike_hash {a b : ByteArray} (h : alikeB a b = true) : hashN b = hashN a := by
  unfold hashN; rw [keyN_ext h]
theorem alike_name {a b : ByteArray} (h : alikeB a b = true) : (nameL a).isSome = true := by
  unfold alikeB at h
  simp only [Bool.and_eq_true] at h
  rw [← keyN_is]; exact h.1.1

/-- a name whose text is what m is written as -/
theorem name_enc {m : List Int} (h : (nameL ⟨(encN m).toArray⟩).isSome = true) : nameL ⟨(encN m).toArray⟩ = some m := by
  have hne : encN m ≠ [] := by
    intro e
    rw [e] at h
    have : nameL ⟨#[]⟩ = none := nameL_short rfl
    have e2 : (([] : List UInt8).toArray) = #[] := rfl
    rw [e2, this] at h
    cases h
  have hd := dec_enc m hne
  cases hn : nameL ⟨(encN m).toArray⟩ with
  | none => rw [hn] at h; cases h
  | some l =>
    have := (nameL_some hn).1
    rw [hd] at this
    exact this.symm
theorem alike_enc {a : ByteArray} {l m : List Int} (ha : nameL a = some l) (hk : keyL m = keyL l) (h : (nameL ⟨(encN m).toArray⟩).isSome = true) : alikeB a ⟨(encN m).toArray⟩ = true := by
  refine alike_of ?_ (by rw [ha]; rfl)
  rw [keyN_some ha, keyN_some (name_enc h), hk]
theorem name_dec {a : ByteArray} (h : (nameL a).isSome = true) : nameL a = some ((decN a).getD []) := by
  cases hn : nameL a with
  | none => rw [hn] at h; cases h
  | some l => rw [(nameL_some hn).1]; rfl
theorem alike_apart {a : ByteArray} (h : (nameL a).isSome = true) (hd : (nameL ⟨(encN (apartN ((decN a).getD []))).toArray⟩).isSome = true) : alikeB a ⟨(encN (apartN ((decN a).getD []))).toArray⟩ = true :=
  alike_enc (name_dec h) (key_apart _) hd
theorem alike_fold {a : ByteArray} (h : (nameL a).isSome = true) (hd : (nameL ⟨(encN (foldsN (apartN ((decN a).getD [])))).toArray⟩).isSome = true) : alikeB a ⟨(encN (foldsN (apartN ((decN a).getD [])))).toArray⟩ = true :=
  alike_enc (name_dec h) (key_fold _) hd
theorem alike_key {a : ByteArray} (h : (nameL a).isSome = true) (hk : (nameL (keyN a).1).isSome = true) : alikeB (keyN a).1 a = true := by
  have hn := name_dec h
  rw [keyN_some hn] at hk ⊢
  rw [alike_sym]
  exact alike_enc hn (key_key _) hk

theorem encN_size (l : List Int) (hl : l.length ≤ 100000) : (⟨(encN l).toArray⟩ : ByteArray).size ≤ 1048576 := by
  show (encN l).toArray.size ≤ 1048576
  have := encs_len l
  unfold encN
  split
  · simp; omega
  · simp
end

section
open Go.Op (bytesLess)

theorem bl_irr : ∀ a : List UInt8, bytesLess a a = false
  | [] => rfl
  | a :: x => by simp [bytesLess, bl_irr x, UInt8.lt_irrefl]
theorem bl_tri : ∀ a b : List UInt8, a ≠ b → bytesLess a b = true ∨ bytesLess b a = true
  | [], [], h => absurd rfl h
  | [], b :: y, _ => .inl rfl
  | a :: x, [], _ => .inr rfl
  | a :: x, b :: y, h => by
    simp only [bytesLess, Bool.or_eq_true, Bool.and_eq_true, decide_eq_true_eq, beq_iff_eq]
    by_cases e : a = b
    · subst e
      rcases bl_tri x y (fun e => h (by rw [e])) with h1 | h1
      · exact .inl (.inr ⟨rfl, h1⟩)
      · exact .inr (.inr ⟨rfl, h1⟩)
    · rcases UInt8.lt_or_lt_of_ne e with h1 | h1
      · exact .inl (.inl h1)
      · exact .inr (.inl h1)
theorem bl_trans : ∀ a b c : List UInt8, bytesLess a b = true → bytesLess b c = true → bytesLess a c = true
  | _, _, [], _, h => by simp [bytesLess] at h
  | [], _, _ :: _, _, _ => rfl
  | _ :: _, [], _ :: _, h, _ => by simp [bytesLess] at h
  | a :: x, b :: y, c :: z, h1, h2 => by
    simp only [bytesLess, Bool.or_eq_true, Bool.and_eq_true, decide_eq_true_eq, beq_iff_eq] at h1 h2 ⊢
    rcases h1 with h1 | ⟨rfl, h1⟩
    · rcases h2 with h2 | ⟨rfl, h2⟩
      · exact .inl (UInt8.lt_trans h1 h2)
      · exact .inl h1
    · rcases h2 with h2 | ⟨rfl, h2⟩
      · exact .inl h2
      · exact .inr ⟨rfl, bl_trans x y z h1 h2⟩
theorem bl_asym {a b : List UInt8} (h : bytesLess a b = true) : bytesLess b a = false := by
  cases h2 : bytesLess b a with
  | false => rfl
  | true => have := bl_trans a b a h h2; rw [bl_irr] at this; cases this

/-- what a name is ordered by -/
def key14 (s : ByteArray) : ByteArray := if (keyN s).2 then (keyN s).1 else s
def lt14 (a b : ByteArray) : Bool := bytesLess (key14 a).toList (key14 b).toList || ((key14 a).toList == (key14 b).toList && bytesLess a.toList b.toList)
def ordN (a b : ByteArray) : Int := if lt14 a b then -1 else if a.toList == b.toList then 0 else 1
theorem toList_inj {a b : ByteArray} (h : a.toList = b.toList) : a = b := by
  have : a.data.toList = b.data.toList := by simpa [ByteArray.toList_eq] using h
  cases a; cases b
  simp only [ByteArray.mk.injEq]
  exact Array.ext' this
theorem lt14_irr (a : ByteArray) : lt14 a a = false := by unfold lt14; simp [bl_irr]
theorem lt14_tri {a b : ByteArray} (h : a ≠ b) : lt14 a b = true ∨ lt14 b a = true := by
  unfold lt14
  by_cases e : (key14 a).toList = (key14 b).toList
  · rw [e, bl_irr]
    rcases bl_tri a.toList b.toList (fun e => h (toList_inj e)) with h1 | h1
    · left; simp [h1]
    · right; simp [h1]
  · rcases bl_tri _ _ e with h1 | h1
    · left; simp [h1]
    · right; simp [h1]
theorem lt14_trans {a b c : ByteArray} (h1 : lt14 a b = true) (h2 : lt14 b c = true) : lt14 a c = true := by
  unfold lt14 at h1 h2 ⊢
  simp only [Bool.or_eq_true, Bool.and_eq_true, beq_iff_eq] at h1 h2 ⊢
  rcases h1 with h1 | ⟨e1, h1⟩
  · rcases h2 with h2 | ⟨e2, h2⟩
    · exact .inl (bl_trans _ _ _ h1 h2)
    · exact .inl (e2 ▸ h1)
  · rcases h2 with h2 | ⟨e2, h2⟩
    · exact .inl (e1 ▸ h2)
    · exact .inr ⟨e1.trans e2, bl_trans _ _ _ h1 h2⟩
theorem lt14_asym {a b : ByteArray} (h : lt14 a b = true) : lt14 b a = false := by
  cases h2 : lt14 b a with
  | false => rfl
  | true => have := lt14_trans h h2; rw [lt14_irr] at this; cases this
theorem ord_swap (a b : ByteArray) : ordN a b = -ordN b a := by
  unfold ordN
  by_cases e : a = b
  · subst e; rw [lt14_irr]; simp
  · have hn : (a.toList == b.toList) = false := by simpa using fun h => e (toList_inj h)
    have hn2 : (b.toList == a.toList) = false := by simpa using fun h => e (toList_inj h).symm
    rcases lt14_tri e with h | h
    · rw [h, lt14_asym h, hn2]; rfl
    · rw [h, lt14_asym h, hn]; rfl
theorem ord_zero (a b : ByteArray) : ordN a b = 0 ↔ a = b := by
  unfold ordN
  by_cases e : a = b
  · subst e; rw [lt14_irr]; simp
  · have hn : (a.toList == b.toList) = false := by simpa using fun h => e (toList_inj h)
    rcases lt14_tri e with h | h
    · rw [h]; simp [e]
    · rw [lt14_asym h, hn]; simp [e]
theorem ord_neg (a b : ByteArray) : ordN a b < 0 ↔ lt14 a b = true := by
  unfold ordN
  cases lt14 a b
  · cases a.toList == b.toList <;> simp
  · simp
theorem ord_pos (a b : ByteArray) : 0 < ordN a b ↔ lt14 b a = true := by
  have := ord_swap a b
  rw [← ord_neg b a]
  omega

/-- names in order, those of l -/
structure Srt14 (l s : List ByteArray) : Prop where
  perm : s.Perm l
  up : s.Pairwise fun a b => lt14 b a = false
def ins14 (x : ByteArray) : List ByteArray → List ByteArray
  | [] => [x]
  | y :: s => if lt14 x y then x :: y :: s else y :: ins14 x s
def sort14 (l : List ByteArray) : List ByteArray := l.foldl (fun s x => ins14 x s) []
theorem ins14_perm (x : ByteArray) : ∀ s, (ins14 x s).Perm (x :: s)
  | [] => List.Perm.refl _
  | y :: s => by
    unfold ins14
    split
    · exact List.Perm.refl _
    · exact ((ins14_perm x s).cons y).trans (List.Perm.swap x y s)
theorem le14_trans {a b c : ByteArray} (h1 : lt14 b a = false) (h2 : lt14 c b = false) : lt14 c a = false := by
  cases h : lt14 c a with
  | false => rfl
  | true =>
    by_cases e : a = b
    · subst e; rw [h] at h2; cases h2
    · rcases lt14_tri e with h3 | h3
      · rw [lt14_trans h h3] at h2; cases h2
      · rw [h3] at h1; cases h1
theorem ins14_up (x : ByteArray) : ∀ s, s.Pairwise (fun a b => lt14 b a = false) → (ins14 x s).Pairwise fun a b => lt14 b a = false
  | [], _ => List.pairwise_singleton _ _
  | y :: s, h => by
    obtain ⟨h1, h2⟩ := List.pairwise_cons.1 h
    unfold ins14
    split
    · rename_i hx
      refine List.pairwise_cons.2 ⟨fun z hz => ?_, h⟩
      rcases List.mem_cons.1 hz with rfl | hz
      · exact lt14_asym hx
      · exact le14_trans (lt14_asym hx) (h1 z hz)
    · rename_i hx
      refine List.pairwise_cons.2 ⟨fun z hz => ?_, ins14_up x s h2⟩
      rcases List.mem_cons.1 ((ins14_perm x s).mem_iff.1 hz) with rfl | hz
      · simpa using hx
      · exact h1 z hz
theorem sort14_right (l : List ByteArray) : Srt14 l (sort14 l) := by
  have key : ∀ (l s t : List ByteArray), Srt14 t s → Srt14 (t ++ l) (l.foldl (fun s x => ins14 x s) s) := by
    intro l
    induction l with
    | nil => intro s t h; simpa using h
    | cons x l ih =>
      intro s t h
      have := ih (ins14 x s) (t ++ [x]) ⟨(ins14_perm x s).trans ((h.perm.cons x).trans (by simpa using (List.perm_append_comm (l₁ := [x]) (l₂ := t)))), ins14_up x s h.up⟩
      simpa using this
  have := key l [] [] ⟨List.Perm.refl _, List.Pairwise.nil⟩
  rw [List.nil_append] at this
  exact this
/-- whoever puts them in order finds this row -/
theorem sort14_uniq : ∀ (s t l : List ByteArray), Srt14 l s → Srt14 l t → s = t
  | [], t, l, h1, h2 => by have := h1.perm.trans h2.perm.symm; simpa using this.symm
  | a :: s, t, l, h1, h2 => by
    have hp := h1.perm.trans h2.perm.symm
    cases t with
    | nil => simp at hp
    | cons b t =>
      have e : a = b := by
        by_cases e : a = b
        · exact e
        · have ha : a ∈ t := by
            rcases List.mem_cons.1 (hp.mem_iff.1 (List.mem_cons_self ..)) with h | h
            · exact absurd h e
            · exact h
          have hb : b ∈ s := by
            rcases List.mem_cons.1 (hp.mem_iff.2 (List.mem_cons_self ..)) with h | h
            · exact absurd h.symm e
            · exact h
          have e1 := (List.pairwise_cons.1 h1.up).1 b hb
          have e2 := (List.pairwise_cons.1 h2.up).1 a ha
          rcases lt14_tri e with h | h
          · rw [h] at e2; cases e2
          · rw [h] at e1; cases e1
      subst e
      have := sort14_uniq s t s ⟨List.Perm.refl _, (List.pairwise_cons.1 h1.up).2⟩ ⟨((List.perm_cons a).1 hp).symm, (List.pairwise_cons.1 h2.up).2⟩
      rw [this]
theorem sort14_is {l s : List ByteArray} (h : Srt14 l s) : s = sort14 l := sort14_uniq s _ l h (sort14_right l)
/-- alike ones stand together -/
theorem key14_le {a b : ByteArray} (h : lt14 b a = false) : bytesLess (key14 b).toList (key14 a).toList = false := by
  unfold lt14 at h
  cases hb : bytesLess (key14 b).toList (key14 a).toList with
  | false => rfl
  | true => rw [hb, Bool.true_or] at h; cases h
theorem alike_key14 {a b : ByteArray} (h : alikeB a b = true) : (nameL a).isSome = true ∧ (nameL b).isSome = true ∧ key14 a = key14 b := by
  have e := keyN_ext h
  have ha := alike_name h
  have hb : (nameL b).isSome = true := by rw [← keyN_is, ← e, keyN_is]; exact ha
  refine ⟨ha, hb, ?_⟩
  unfold key14
  rw [e]
  by_cases hk : (keyN b).2 = true
  · rw [if_pos hk, if_pos hk]
  · rw [keyN_is] at hk; exact absurd hb hk
theorem alike_mid {a b c : ByteArray} (h1 : lt14 b a = false) (h2 : lt14 c b = false) (h : alikeB a c = true) (hb : (nameL b).isSome = true) : alikeB a b = true := by
  obtain ⟨ha, hc, e⟩ := alike_key14 h
  have k1 := key14_le h1
  have k2 := key14_le h2
  rw [← e] at k2
  have ek : key14 a = key14 b := by
    by_cases e2 : (key14 a).toList = (key14 b).toList
    · exact toList_inj e2
    · rcases bl_tri _ _ e2 with h3 | h3
      · rw [h3] at k2; cases k2
      · rw [h3] at k1; cases k1
  refine alike_of ?_ ha
  have ka : (keyN a).2 = true := by rw [keyN_is]; exact ha
  have kb : (keyN b).2 = true := by rw [keyN_is]; exact hb
  unfold key14 at ek
  rw [if_pos ka, if_pos kb] at ek
  exact Prod.ext ek (by rw [ka, kb])
theorem sort14_len (l : List ByteArray) : (sort14 l).length = l.length := (sort14_right l).perm.length_eq
end

end Go.Proofs.YtlkemmdcjnaepaaDoor
