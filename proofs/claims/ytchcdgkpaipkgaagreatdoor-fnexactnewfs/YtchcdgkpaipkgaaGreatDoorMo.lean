/- Signs: what is written is read as it was; what is read is what is written. No word of the program. Names that are one: what the law of Alike leans on. No walk. -/
import Derived.Test.YtchcdgkpaipkgaaGreatDoorRows
import Derived.Test.YtchcdgkpaipkgaaGreatDoorMk
import Derived.Test.YtchcdgkpaipkgaaGreatDoorMm
namespace Go.Proofs.YtchcdgkpaipkgaaGreatDoor

section
theorem byteN_app (pre xs : List UInt8) (i : Nat) : byteN ⟨(pre ++ xs).toArray⟩ (pre.length + i) = (xs.getD i 0).toNat := by
  unfold byteN
  show ((pre ++ xs).toArray.getD (pre.length + i) 0).toNat = _
  rw [Array.getD_eq_getD_getElem?, List.getD_eq_getElem?_getD, List.getElem?_toArray, List.getElem?_append_right (Nat.le_add_right _ _), Nat.add_sub_cancel_left]

theorem b8_toNat (x : Int) (h : isB x) : ((b8 x).toNat : Int) = x := by
  unfold isB at h
  unfold b8
  simp
  omega

theorem bytesAt_enc (pre rest : List UInt8) (xs : List Int) (hx : ∀ x ∈ xs, isB x) (i : Nat) (hi : i < xs.length) :
    byteAt ⟨(pre ++ (b8s xs ++ rest)).toArray⟩ (pre.length + i) = xs.getD i 0 := by
  rw [byteAt_N, byteN_app]
  have e : (b8s xs ++ rest).getD i 0 = b8 (xs.getD i 0) := by
    rw [List.getD_eq_getElem?_getD, List.getElem?_append_left (by simpa [b8s] using hi)]
    simp [b8s, List.getD, hi]
  rw [e, b8_toNat]
  exact hx _ (by simp [List.getD, hi])

theorem encOne_B (c : Int) (h0 : 0 ≤ c) (h1 : c ≤ 1114111) : ∀ x ∈ encOne c, isB x := by
  intro x hx
  unfold encOne at hx
  unfold isB
  revert hx
  (repeat' split) <;> simp <;> omega

/-- where the bytes of a sign stand, it is read -/
theorem one_enc (pre rest : List UInt8) (c : Int) (h : sgnB c = true) :
    oneL ⟨(pre ++ (b8s (encOne c) ++ rest)).toArray⟩ pre.length = (encOne c).length ∧ oneC ⟨(pre ++ (b8s (encOne c) ++ rest)).toArray⟩ pre.length = c := by
  have hb := (sgnB_iff c).1 h
  have hB := bytesAt_enc pre rest (encOne c) (encOne_B c hb.1 hb.2.1)
  have hsz : (⟨(pre ++ (b8s (encOne c) ++ rest)).toArray⟩ : ByteArray).size = pre.length + ((encOne c).length + rest.length) := by
    show (pre ++ (b8s (encOne c) ++ rest)).toArray.size = _
    simp [b8s]
  generalize (⟨(pre ++ (b8s (encOne c) ++ rest)).toArray⟩ : ByteArray) = s at hB hsz
  have hpos : 0 < (encOne c).length := by rw [encOne_length]; (repeat' split) <;> omega
  have hn := oneOk_num s pre.length (by rw [hsz]; omega) _ _ _ _ rfl rfl rfl rfl (byteAt_bd s pre.length).1
  rw [hsz] at hn
  clear hpos
  generalize oneOk s pre.length = okk at hn
  by_cases h1 : c < 128
  · have e : encOne c = [c] := by unfold encOne; rw [if_pos h1]
    rw [e] at hB ⊢
    have b0 : byteAt s pre.length = c := hB 0 (by simp)
    rw [b0] at hn
    rcases hn with ⟨q, -, ql, qc⟩ | ⟨q, -⟩ | ⟨q, -⟩ | ⟨q, -⟩ | ⟨-, -, q, -⟩
    · exact ⟨ql, qc⟩
    · omega
    · omega
    · omega
    · omega
  · by_cases h2 : c < 2048
    · have e : encOne c = [192 + c / 64, 128 + c % 64] := by unfold encOne; rw [if_neg h1, if_pos h2]
      rw [e] at hB hn ⊢
      have b0 : byteAt s pre.length = 192 + c / 64 := hB 0 (by simp)
      have b1 : byteAt s (pre.length + 1) = 128 + c % 64 := hB 1 (by simp)
      rw [b0, b1] at hn
      simp only [List.length_cons, List.length_nil] at hn ⊢
      rcases hn with ⟨q, -⟩ | ⟨q, q', -, ql, qc, -⟩ | ⟨q, -⟩ | ⟨q, -⟩ | ⟨-, -, -, r, -⟩
      · omega
      · exact ⟨ql, by rw [qc]; omega⟩
      · omega
      · omega
      · exact absurd ⟨by omega, by omega, by omega, by omega, by omega, by omega⟩ r
    · by_cases h3 : c < 65536
      · have e : encOne c = [224 + c / 4096, 128 + c / 64 % 64, 128 + c % 64] := by unfold encOne; rw [if_neg h1, if_neg h2, if_pos h3]
        rw [e] at hB hn ⊢
        have b0 : byteAt s pre.length = 224 + c / 4096 := hB 0 (by simp)
        have b1 : byteAt s (pre.length + 1) = 128 + c / 64 % 64 := hB 1 (by simp)
        have b2 : byteAt s (pre.length + 2) = 128 + c % 64 := hB 2 (by simp)
        rw [b0, b1, b2] at hn
        simp only [List.length_cons, List.length_nil] at hn ⊢
        have hv : ((224 + c / 4096) % 16 * 64 + (128 + c / 64 % 64) % 64) * 64 + (128 + c % 64) % 64 = c := by omega
        rw [hv] at hn
        rcases hn with ⟨q, -⟩ | ⟨q, q', -⟩ | ⟨q, q', -, ql, qc, -⟩ | ⟨q, -⟩ | ⟨-, -, -, -, r, -⟩
        · omega
        · omega
        · exact ⟨ql, qc⟩
        · omega
        · exact absurd ⟨by omega, by omega, by omega, by omega, by omega, by omega, by omega, by omega, hb.2.2⟩ r
      · have e : encOne c = [240 + c / 262144, 128 + c / 4096 % 64, 128 + c / 64 % 64, 128 + c % 64] := by unfold encOne; rw [if_neg h1, if_neg h2, if_neg h3]
        rw [e] at hB hn ⊢
        have b0 : byteAt s pre.length = 240 + c / 262144 := hB 0 (by simp)
        have b1 : byteAt s (pre.length + 1) = 128 + c / 4096 % 64 := hB 1 (by simp)
        have b2 : byteAt s (pre.length + 2) = 128 + c / 64 % 64 := hB 2 (by simp)
        have b3 : byteAt s (pre.length + 3) = 128 + c % 64 := hB 3 (by simp)
        rw [b0, b1, b2, b3] at hn
        simp only [List.length_cons, List.length_nil] at hn ⊢
        have hv : (((240 + c / 262144) % 8 * 64 + (128 + c / 4096 % 64) % 64) * 64 + (128 + c / 64 % 64) % 64) * 64 + (128 + c % 64) % 64 = c := by omega
        rw [hv] at hn
        rcases hn with ⟨q, -⟩ | ⟨q, q', -⟩ | ⟨q, q', -⟩ | ⟨q, q', -, ql, qc, -⟩ | ⟨-, -, -, -, -, r⟩
        · omega
        · omega
        · omega
        · exact ⟨ql, qc⟩
        · exact absurd ⟨by omega, by omega, by omega, by omega, by omega, by omega, by omega, by omega, by omega, by omega, hb.2.1⟩ r

theorem encs_cons (c : Int) (l : List Int) : encs (c :: l) = b8s (encOne c) ++ encs l := by simp [encs]

theorem decF_encs : ∀ (l : List Int) (pre : List UInt8) (f : Nat), l.length < f → l.all sgnB = true → decF ⟨(pre ++ encs l).toArray⟩ f pre.length = some l := by
  intro l
  induction l with
  | nil =>
    intro pre f hf _
    obtain ⟨g, rfl⟩ : ∃ g, f = g + 1 := ⟨f - 1, by simp at hf; omega⟩
    exact decF_end _ g _ (by show ¬ pre.length < (pre ++ encs []).toArray.size; simp [encs])
  | cons c l ih =>
    intro pre f hf hall
    obtain ⟨g, rfl⟩ : ∃ g, f = g + 1 := ⟨f - 1, by omega⟩
    simp only [List.all_cons, Bool.and_eq_true] at hall
    obtain ⟨hL, hC⟩ := one_enc pre (encs l) c hall.1
    rw [encs_cons]
    have hne : (encOne c).length ≠ 0 := by rw [encOne_length]; (repeat' split) <;> omega
    have hlt : pre.length < (⟨(pre ++ (b8s (encOne c) ++ encs l)).toArray⟩ : ByteArray).size := by
      show _ < (pre ++ (b8s (encOne c) ++ encs l)).toArray.size
      simp [b8s]; omega
    rw [decF_step _ g _ hlt (by rw [hL]; exact hne), hL, hC]
    have := ih (pre ++ b8s (encOne c)) g (by simp at hf; omega) hall.2
    rw [List.append_assoc] at this
    have e : (pre ++ b8s (encOne c)).length = pre.length + (encOne c).length := by simp [b8s]
    rw [e] at this
    rw [this]; rfl

theorem encs_ge (l : List Int) : l.length ≤ (encs l).length := by
  induction l with
  | nil => simp
  | cons c l ih =>
    rw [encs_cons]
    have : 0 < (encOne c).length := by rw [encOne_length]; (repeat' split) <;> omega
    simp [b8s]; omega

/-- Decode of Encode -/
theorem dec_enc (l : List Int) (h : encN l ≠ []) : decN ⟨(encN l).toArray⟩ = some l := by
  unfold encN at h ⊢
  by_cases hall : l.all sgnB = true
  · rw [if_pos hall]
    have := decF_encs l [] ((⟨(encs l).toArray⟩ : ByteArray).size + 1) (by
      have := encs_ge l
      show l.length < (encs l).toArray.size + 1
      simp; omega) hall
    exact this
  · rw [if_neg hall] at h; exact absurd rfl h

theorem drop_bytes (s : ByteArray) (k : Nat) (hk : k < s.size) : s.data.toList.drop k = UInt8.ofNat (byteN s k) :: s.data.toList.drop (k + 1) := by
  have hk' : k < s.data.toList.length := by simpa using hk
  rw [List.drop_eq_getElem_cons hk']
  congr 1
  unfold byteN
  rw [Array.getD_eq_getD_getElem?, Array.getElem?_eq_getElem (by simpa using hk)]
  simp

theorem b8_byte (n : Nat) (x : Int) (h : x = (n : Int)) : b8 x = UInt8.ofNat n := by subst h; unfold b8; simp

/-- the bytes of the sign that is read -/
theorem enc_one_at (s : ByteArray) (k : Nat) (hk : k < s.size) (h0 : oneL s k ≠ 0) : sgnB (oneC s k) = true ∧ b8s (encOne (oneC s k)) ++ s.data.toList.drop (k + oneL s k) = s.data.toList.drop k := by
  have h1 := byteN_lt s k
  have h2 := byteN_lt s (k + 1)
  have h3 := byteN_lt s (k + 2)
  have h4 := byteN_lt s (k + 3)
  have hn := oneOk_num s k hk _ _ _ _ (byteAt_N s k) (byteAt_N s (k + 1)) (byteAt_N s (k + 2)) (byteAt_N s (k + 3)) (by omega)
  rw [sgnB_iff]
  have d0 := drop_bytes s k hk
  have d1 := fun h => drop_bytes s (k + 1) h
  have d2 := fun h => drop_bytes s (k + 2) h
  have d3 := fun h => drop_bytes s (k + 3) h
  generalize byteN s k = b0 at *
  generalize byteN s (k + 1) = b1 at *
  generalize byteN s (k + 2) = b2 at *
  generalize byteN s (k + 3) = b3 at *
  rcases hn with ⟨a, ok, l, c⟩ | ⟨a, a', ok, l, c, r⟩ | ⟨a, a', ok, l, c, r⟩ | ⟨a, a', ok, l, c, r⟩ | ⟨ok, l, -⟩
  · refine ⟨by omega, ?_⟩
    have e : encOne (oneC s k) = [oneC s k] := by unfold encOne; rw [if_pos (by omega)]
    rw [e, l, d0]
    simp only [b8s, List.map_cons, List.map_nil, List.cons_append, List.nil_append]
    rw [b8_byte b0 _ c]
  · refine ⟨by omega, ?_⟩
    have e : encOne (oneC s k) = [192 + oneC s k / 64, 128 + oneC s k % 64] := by unfold encOne; rw [if_neg (by omega), if_pos (by omega)]
    rw [e, l, d0, d1 (by omega)]
    simp only [b8s, List.map_cons, List.map_nil, List.cons_append, List.nil_append]
    rw [b8_byte b0 _ (by omega), b8_byte b1 _ (by omega)]
  · refine ⟨by omega, ?_⟩
    have e : encOne (oneC s k) = [224 + oneC s k / 4096, 128 + oneC s k / 64 % 64, 128 + oneC s k % 64] := by unfold encOne; rw [if_neg (by omega), if_neg (by omega), if_pos (by omega)]
    rw [e, l, d0, d1 (by omega), d2 (by omega)]
    simp only [b8s, List.map_cons, List.map_nil, List.cons_append, List.nil_append]
    rw [b8_byte b0 _ (by omega), b8_byte b1 _ (by omega), b8_byte b2 _ (by omega)]
  · refine ⟨by omega, ?_⟩
    have e : encOne (oneC s k) = [240 + oneC s k / 262144, 128 + oneC s k / 4096 % 64, 128 + oneC s k / 64 % 64, 128 + oneC s k % 64] := by unfold encOne; rw [if_neg (by omega), if_neg (by omega), if_neg (by omega)]
    rw [e, l, d0, d1 (by omega), d2 (by omega), d3 (by omega)]
    simp only [b8s, List.map_cons, List.map_nil, List.cons_append, List.nil_append]
    rw [b8_byte b0 _ (by omega), b8_byte b1 _ (by omega), b8_byte b2 _ (by omega), b8_byte b3 _ (by omega)]
  · exact absurd l h0

theorem enc_decF (s : ByteArray) : ∀ (f k : Nat) (l : List Int), decF s f k = some l → l.all sgnB = true ∧ encs l = s.data.toList.drop k := by
  intro f
  induction f with
  | zero => intro k l h; cases h
  | succ f ih =>
    intro k l h
    by_cases hk : k < s.size
    · by_cases h0 : oneL s k = 0
      · rw [decF_bad s f k hk h0] at h; cases h
      · rw [decF_step s f k hk h0] at h
        obtain ⟨m, hm, rfl⟩ := Option.map_eq_some_iff.1 h
        obtain ⟨i1, i2⟩ := ih _ m hm
        obtain ⟨o1, o2⟩ := enc_one_at s k hk h0
        exact ⟨by simp [o1, i1], by rw [encs_cons, i2, o2]⟩
    · rw [decF_end s f k hk] at h
      cases h
      exact ⟨rfl, by rw [List.drop_eq_nil_of_le (by simpa using hk)]; rfl⟩

/-- Encode of Decode -/
theorem enc_dec (s : ByteArray) (l : List Int) (h : decN s = some l) : (⟨(encN l).toArray⟩ : ByteArray) = s := by
  obtain ⟨h1, h2⟩ := enc_decF s _ _ l h
  unfold encN
  rw [if_pos h1, h2, List.drop_zero]
end

section
open Go.RowKit

theorem keyN_ext {a b : ByteArray} (h : alikeB a b = true) : keyN a = keyN b := by
  unfold alikeB at h
  simp only [Bool.and_eq_true, beq_iff_eq] at h
  obtain ⟨⟨h1, h2⟩, h3⟩ := h
  have e : (keyN a).1 = (keyN b).1 := list_ext (by simpa [ByteArray.toList_eq] using h3)
  exact Prod.ext e (h1.trans h2.symm)
theorem alike_of {a b : ByteArray} (h : keyN a = keyN b) (hn : (nameL a).isSome = true) : alikeB a b = true := by
  unfold alikeB
  rw [← h, keyN_is, hn]
  simp
theorem alike_sym (a b : ByteArray) : alikeB b a = alikeB a b := by
  unfold alikeB
  rw [Bool.and_comm (keyN b).2 (keyN a).2]
  congr 1
  rw [Bool.eq_iff_iff, beq_iff_eq, beq_iff_eq]
  exact eq_comm
theorem alike_self (a : ByteArray) : alikeB a a = (nameL a).isSome := by
  unfold alikeB
  rw [keyN_is]
  cases (nameL a).isSome <;> simp
theorem alike_next {a b : ByteArray} (h : alikeB a b = true) (c : ByteArray) : alikeB b c = alikeB a c := by
  unfold alikeB; rw [keyN_ext h]
theorem alike_hash {a b : ByteArray} (h : alikeB a b = true) : hashN b = hashN a := by
  unfold hashN; rw [keyN_ext h]
theorem alike_name {a b : ByteArray} (h : alikeB a b = true) : (nameL a).isSome = true := by
  unfold alikeB at h
  simp only [Bool.and_eq_true] at h
  rw [← keyN_is]; exact h.1.1

/-- a name whose text is what m is written as -/
theorem name_enc {m : List Int} (h : (nameL ⟨(encN m).toArray⟩).isSome = true) : nameL ⟨(encN m).toArray⟩ = some m := by
  have hne : encN m ≠ [] := by
    intro e
    rw [e] at h
    have : nameL ⟨#[]⟩ = none := nameL_short rfl
    have e2 : (([] : List UInt8).toArray) = #[] := rfl
    rw [e2, this] at h
    cases h
  have hd := dec_enc m hne
  cases hn : nameL ⟨(encN m).toArray⟩ with
  | none => rw [hn] at h; cases h
  | some l =>
    have := (nameL_some hn).1
    rw [hd] at this
    exact this.symm
theorem alike_enc {a : ByteArray} {l m : List Int} (ha : nameL a = some l) (hk : keyL m = keyL l) (h : (nameL ⟨(encN m).toArray⟩).isSome = true) : alikeB a ⟨(encN m).toArray⟩ = true := by
  refine alike_of ?_ (by rw [ha]; rfl)
  rw [keyN_some ha, keyN_some (name_enc h), hk]
theorem name_dec {a : ByteArray} (h : (nameL a).isSome = true) : nameL a = some ((decN a).getD []) := by
  cases hn : nameL a with
  | none => rw [hn] at h; cases h
  | some l => rw [(nameL_some hn).1]; rfl
theorem alike_apart {a : ByteArray} (h : (nameL a).isSome = true) (hd : (nameL ⟨(encN (apartN ((decN a).getD []))).toArray⟩).isSome = true) : alikeB a ⟨(encN (apartN ((decN a).getD []))).toArray⟩ = true :=
  alike_enc (name_dec h) (key_apart _) hd
theorem alike_fold {a : ByteArray} (h : (nameL a).isSome = true) (hd : (nameL ⟨(encN (foldsN (apartN ((decN a).getD [])))).toArray⟩).isSome = true) : alikeB a ⟨(encN (foldsN (apartN ((decN a).getD [])))).toArray⟩ = true :=
  alike_enc (name_dec h) (key_fold _) hd
theorem alike_key {a : ByteArray} (h : (nameL a).isSome = true) (hk : (nameL (keyN a).1).isSome = true) : alikeB (keyN a).1 a = true := by
  have hn := name_dec h
  rw [keyN_some hn] at hk ⊢
  rw [alike_sym]
  exact alike_enc hn (key_key _) hk

theorem encN_size (l : List Int) (hl : l.length ≤ 100000) : (⟨(encN l).toArray⟩ : ByteArray).size ≤ 1048576 := by
  show (encN l).toArray.size ≤ 1048576
  have := encs_len l
  unfold encN
  split
  · simp; omega
  · simp
end

end Go.Proofs.YtchcdgkpaipkgaaGreatDoor
