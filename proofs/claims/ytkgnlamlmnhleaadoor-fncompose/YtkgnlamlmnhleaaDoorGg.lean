/- Signs: what is written is read as it was; what is read is what is written. No word of the program. Names that are one: what the law of Alike leans on. No walk. FnCompose's walk, given what the program's Compose and Pair answer. What the walk of FnCompose asks of the program's Compose and Pair. -/
import Derived.Test.YtkgnlamlmnhleaaDoorRows
import Derived.Test.YtkgnlamlmnhleaaDoorEnc
import Derived.Test.YtkgnlamlmnhleaaDoorDcd
import Derived.Test.YtkgnlamlmnhleaaDoorDecU
import Derived.Test.YtkgnlamlmnhleaaDoorGd
import Derived.Test.YtkgnlamlmnhleaaDoorGb
import Derived.Test.YtkgnlamlmnhleaaDoorGe
import Derived.Test.YtkgnlamlmnhleaaDoorGc
import Derived.Test.YtkgnlamlmnhleaaDoorGf
namespace Go.Proofs.YtkgnlamlmnhleaaDoor

section
theorem byteN_app (pre xs : List UInt8) (i : Nat) : byteN ⟨(pre ++ xs).toArray⟩ (pre.length + i) = (xs.getD i 0).toNat := by
  unfold byteN
  show ((pre ++ xs).toArray.getD (pre.length + i) 0).toNat = _
  rw [Array.getD_eq_getD_getElem?, List.getD_eq_getElem?_getD, List.getElem?_toArray, List.getElem?_append_right (Nat.le_add_right _ _), Nat.add_sub_cancel_left]

theorem b8_toNat (x : Int) (h : isB x) : ((b8 x).toNat : Int) = x := by
  unfold isB at h
  unfold b8
  simp
  omega

theorem bytesAt_enc (pre rest : List UInt8) (xs : List Int) (hx : ∀ x ∈ xs, isB x) (i : Nat) (hi : i < xs.length) :
    byteAt ⟨(pre ++ (b8s xs ++ rest)).toArray⟩ (pre.length + i) = xs.getD i 0 := by
  rw [byteAt_N, byteN_app]
  have e : (b8s xs ++ rest).getD i 0 = b8 (xs.getD i 0) := by
    rw [List.getD_eq_getElem?_getD, List.getElem?_append_left (by simpa [b8s] using hi)]
    simp [b8s, List.getD, hi]
  rw [e, b8_toNat]
  exact hx _ (by simp [List.getD, hi])

theorem encOne_B (c : Int) (h0 : 0 ≤ c) (h1 : c ≤ 1114111) : ∀ x ∈ encOne c, isB x := by
  intro x hx
  unfold encOne at hx
  unfold isB
  revert hx
  (repeat' split) <;> simp <;> omega

/-- where the bytes of a sign stand, it is read -/
theorem one_enc (pre rest : List UInt8) (c : Int) (h : sgnB c = true) :
    oneL ⟨(pre ++ (b8s (encOne c) ++ rest)).toArray⟩ pre.length = (encOne c).length ∧ oneC ⟨(pre ++ (b8s (encOne c) ++ rest)).toArray⟩ pre.length = c := by
  have hb := (sgnB_iff c).1 h
  have hB := bytesAt_enc pre rest (encOne c) (encOne_B c hb.1 hb.2.1)
  have hsz : (⟨(pre ++ (b8s (encOne c) ++ rest)).toArray⟩ : ByteArray).size = pre.length + ((encOne c).length + rest.length) := by
    show (pre ++ (b8s (encOne c) ++ rest)).toArray.size = _
    simp [b8s]
  generalize (⟨(pre ++ (b8s (encOne c) ++ rest)).toArray⟩ : ByteArray) = s at hB hsz
  have hpos : 0 < (encOne c).length := by rw [encOne_length]; (repeat' split) <;> omega
  have hn := oneOk_num s pre.length (by rw [hsz]; omega) _ _ _ _ rfl rfl rfl rfl (byteAt_bd s pre.length).1
  rw [hsz] at hn
  clear hpos
  generalize oneOk s pre.length = okk at hn
  by_cases h1 : c < 128
  · have e : encOne c = [c] := by unfold encOne; rw [if_pos h1]
    rw [e] at hB ⊢
    have b0 : byteAt s pre.length = c := hB 0 (by simp)
    rw [b0] at hn
    rcases hn with ⟨q, -, ql, qc⟩ | ⟨q, -⟩ | ⟨q, -⟩ | ⟨q, -⟩ | ⟨-, -, q, -⟩
    · exact ⟨ql, qc⟩
    · omega
    · omega
    · omega
    · omega
  · by_cases h2 : c < 2048
    · have e : encOne c = [192 + c / 64, 128 + c % 64] := by unfold encOne; rw [if_neg h1, if_pos h2]
      rw [e] at hB hn ⊢
      have b0 : byteAt s pre.length = 192 + c / 64 := hB 0 (by simp)
      have b1 : byteAt s (pre.length + 1) = 128 + c % 64 := hB 1 (by simp)
      rw [b0, b1] at hn
      simp only [List.length_cons, List.length_nil] at hn ⊢
      rcases hn with ⟨q, -⟩ | ⟨q, q', -, ql, qc, -⟩ | ⟨q, -⟩ | ⟨q, -⟩ | ⟨-, -, -, r, -⟩
      · omega
      · exact ⟨ql, by rw [qc]; omega⟩
      · omega
      · omega
      · exact absurd ⟨by omega, by omega, by omega, by omega, by omega, by omega⟩ r
    · by_cases h3 : c < 65536
      · have e : encOne c = [224 + c / 4096, 128 + c / 64 % 64, 128 + c % 64] := by unfold encOne; rw [if_neg h1, if_neg h2, if_pos h3]
        rw [e] at hB hn ⊢
        have b0 : byteAt s pre.length = 224 + c / 4096 := hB 0 (by simp)
        have b1 : byteAt s (pre.length + 1) = 128 + c / 64 % 64 := hB 1 (by simp)
        have b2 : byteAt s (pre.length + 2) = 128 + c % 64 := hB 2 (by simp)
        rw [b0, b1, b2] at hn
        simp only [List.length_cons, List.length_nil] at hn ⊢
        have hv : ((224 + c / 4096) % 16 * 64 + (128 + c / 64 % 64) % 64) * 64 + (128 + c % 64) % 64 = c := by omega
        rw [hv] at hn
        rcases hn with ⟨q, -⟩ | ⟨q, q', -⟩ | ⟨q, q', -, ql, qc, -⟩ | ⟨q, -⟩ | ⟨-, -, -, -, r, -⟩
        · omega
        · omega
        · exact ⟨ql, qc⟩
        · omega
        · exact absurd ⟨by omega, by omega, by omega, by omega, by omega, by omega, by omega, by omega, hb.2.2⟩ r
      · have e : encOne c = [240 + c / 262144, 128 + c / 4096 % 64, 128 + c / 64 % 64, 128 + c % 64] := by unfold encOne; rw [if_neg h1, if_neg h2, if_neg h3]
        rw [e] at hB hn ⊢
        have b0 : byteAt s pre.length = 240 + c / 262144 := hB 0 (by simp)
        have b1 : byteAt s (pre.length + 1) = 128 + c / 4096 % 64 := hB 1 (by simp)
        have b2 : byteAt s (pre.length + 2) = 128 + c / 64 % 64 := hB 2 (by simp)
        have b3 : byteAt s (pre.length + 3) = 128 + c % 64 := hB 3 (by simp)
        rw [b0, b1, b2, b3] at hn
        simp only [List.length_cons, List.length_nil] at hn ⊢
        have hv : (((240 + c / 262144) % 8 * 64 + (128 + c / 4096 % 64) % 64) * 64 + (128 + c / 64 % 64) % 64) * 64 + (128 + c % 64) % 64 = c := by omega
        rw [hv] at hn
        rcases hn with ⟨q, -⟩ | ⟨q, q', -⟩ | ⟨q, q', -⟩ | ⟨q, q', -, ql, qc, -⟩ | ⟨-, -, -, -, -, r⟩
        · omega
        · omega
        · omega
        · exact ⟨ql, qc⟩
        · exact absurd ⟨by omega, by omega, by omega, by omega, by omega, by omega, by omega, by omega, by omega, by omega, hb.2.1⟩ r

theorem encs_cons (c : Int) (l : List Int) : encs (c :: l) = b8s (encOne c) ++ encs l := by simp [encs]

theorem decF_encs : ∀ (l : List Int) (pre : List UInt8) (f : Nat), l.length < f → l.all sgnB = true → decF ⟨(pre ++ encs l).toArray⟩ f pre.length = some l := by
  intro l
  induction l with
  | nil =>
    intro pre f hf _
    obtain ⟨g, rfl⟩ : ∃ g, f = g + 1 := ⟨f - 1, by simp at hf; omega⟩
    exact decF_end _ g _ (by show ¬ pre.length < (pre ++ encs []).toArray.size; simp [encs])
  | cons c l ih =>
    intro pre f hf hall
    obtain ⟨g, rfl⟩ : ∃ g, f = g + 1 := ⟨f - 1, by omega⟩
    simp only [List.all_cons, Bool.and_eq_true] at hall
    obtain ⟨hL, hC⟩ := one_enc pre (encs l) c hall.1
    rw [encs_cons]
    have hne : (encOne c).length ≠ 0 := by rw [encOne_length]; (repeat' split) <;> omega
    have hlt : pre.length < (⟨(pre ++ (b8s (encOne c) ++ encs l)).toArray⟩ : ByteArray).size := by
      show _ < (pre ++ (b8s (encOne c) ++ encs l)).toArray.size
      simp [b8s]; omega
    rw [decF_step _ g _ hlt (by rw [hL]; exact hne), hL, hC]
    have := ih (pre ++ b8s (encOne c)) g (by simp at hf; omega) hall.2
    rw [List.append_assoc] at this
    have e : (pre ++ b8s (encOne c)).length = pre.length + (encOne c).length := by simp [b8s]
    rw [e] at this
    rw [this]; rfl

theorem encs_ge (l : List Int) : l.length ≤ (encs l).length := by
  induction l with
  | nil => simp
  | cons c l ih =>
    rw [encs_cons]
    have : 0 < (encOne c).length := by rw [encOne_length]; (repeat' split) <;> omega
    simp [b8s]; omega

/-- Decode of Encode -/
theorem dec_enc (l : List Int) (h : encN l ≠ []) : decN ⟨(encN l).toArray⟩ = some l := by
  unfold encN at h ⊢
  by_cases hall : l.all sgnB = true
  · rw [if_pos hall]
    have := decF_encs l [] ((⟨(encs l).toArray⟩ : ByteArray).size + 1) (by
      have := encs_ge l
      show l.length < (encs l).toArray.size + 1
      simp; omega) hall
    exact this
  · rw [if_neg hall] at h; exact absurd rfl h

theorem drop_bytes (s : ByteArray) (k : Nat) (hk : k < s.size) : s.data.toList.drop k = UInt8.ofNat (byteN s k) :: s.data.toList.drop (k + 1) := by
  have hk' : k < s.data.toList.length := by simpa using hk
  rw [List.drop_eq_getElem_cons hk']
  congr 1
  unfold byteN
  rw [Array.getD_eq_getD_getElem?, Array.getElem?_eq_getElem (by simpa using hk)]
  simp

theorem b8_byte (n : Nat) (x : Int) (h : x = (n : Int)) : b8 x = UInt8.ofNat n := by subst h; unfold b8; simp

/-- the bytes of the sign that is read -/
theorem enc_one_at (s : ByteArray) (k : Nat) (hk : k < s.size) (h0 : oneL s k ≠ 0) : sgnB (oneC s k) = true ∧ b8s (encOne (oneC s k)) ++ s.data.toList.drop (k + oneL s k) = s.data.toList.drop k := by
  have h1 := byteN_lt s k
  have h2 := byteN_lt s (k + 1)
  have h3 := byteN_lt s (k + 2)
  have h4 := byteN_lt s (k + 3)
  have hn := oneOk_num s k hk _ _ _ _ (byteAt_N s k) (byteAt_N s (k + 1)) (byteAt_N s (k + 2)) (byteAt_N s (k + 3)) (by omega)
  rw [sgnB_iff]
  have d0 := drop_bytes s k hk
  have d1 := fun h => drop_bytes s (k + 1) h
  have d2 := fun h => drop_bytes s (k + 2) h
  have d3 := fun h => drop_bytes s (k + 3) h
  generalize byteN s k = b0 at *
  generalize byteN s (k + 1) = b1 at *
  generalize byteN s (k + 2) = b2 at *
  generalize byteN s (k + 3) = b3 at *
  rcases hn with ⟨a, ok, l, c⟩ | ⟨a, a', ok, l, c, r⟩ | ⟨a, a', ok, l, c, r⟩ | ⟨a, a', ok, l, c, r⟩ | ⟨ok, l, -⟩
  · refine ⟨by omega, ?_⟩
    have e : encOne (oneC s k) = [oneC s k] := by unfold encOne; rw [if_pos (by omega)]
    rw [e, l, d0]
    simp only [b8s, List.map_cons, List.map_nil, List.cons_append, List.nil_append]
    rw [b8_byte b0 _ c]
  · refine ⟨by omega, ?_⟩
    have e : encOne (oneC s k) = [192 + oneC s k / 64, 128 + oneC s k % 64] := by unfold encOne; rw [if_neg (by omega), if_pos (by omega)]
    rw [e, l, d0, d1 (by omega)]
    simp only [b8s, List.map_cons, List.map_nil, List.cons_append, List.nil_append]
    rw [b8_byte b0 _ (by omega), b8_byte b1 _ (by omega)]
  · refine ⟨by omega, ?_⟩
    have e : encOne (oneC s k) = [224 + oneC s k / 4096, 128 + oneC s k / 64 % 64, 128 + oneC s k % 64] := by unfold encOne; rw [if_neg (by omega), if_neg (by omega), if_pos (by omega)]
    rw [e, l, d0, d1 (by omega), d2 (by omega)]
    simp only [b8s, List.map_cons, List.map_nil, List.cons_append, List.nil_append]
    rw [b8_byte b0 _ (by omega), b8_byte b1 _ (by omega), b8_byte b2 _ (by omega)]
  · refine ⟨by omega, ?_⟩
    have e : encOne (oneC s k) = [240 + oneC s k / 262144, 128 + oneC s k / 4096 % 64, 128 + oneC s k / 64 % 64, 128 + oneC s k % 64] := by unfold encOne; rw [if_neg (by omega), if_neg (by omega), if_neg (by omega)]
    rw [e, l, d0, d1 (by omega), d2 (by omega), d3 (by omega)]
    simp only [b8s, List.map_cons, List.map_nil, List.cons_append, List.nil_append]
    rw [b8_byte b0 _ (by omega), b8_byte b1 _ (by omega), b8_byte b2 _ (by omega), b8_byte b3 _ (by omega)]
  · exact absurd l h0

theorem enc_decF (s : ByteArray) : ∀ (f k : Nat) (l : List Int), decF s f k = some l → l.all sgnB = true ∧ encs l = s.data.toList.drop k := by
  intro f
  induction f with
  | zero => intro k l h; cases h
  | succ f ih =>
    intro k l h
    by_cases hk : k < s.size
    · by_cases h0 : oneL s k = 0
      · rw [decF_bad s f k hk h0] at h; cases h
      · rw [decF_step s f k hk h0] at h
        obtain ⟨m, hm, rfl⟩ := Option.map_eq_some_iff.1 h
        obtain ⟨i1, i2⟩ := ih _ m hm
        obtain ⟨o1, o2⟩ := enc_one_at s k hk h0
        exact ⟨by simp [o1, i1], by rw [encs_cons, i2, o2]⟩
    · rw [decF_end s f k hk] at h
      cases h
      exact ⟨rfl, by rw [List.drop_eq_nil_of_le (by simpa using hk)]; rfl⟩

/-- Encode of Decode -/
theorem enc_dec (s : ByteArray) (l : List Int) (h : decN s = some l) : (⟨(encN l).toArray⟩ : ByteArray) = s := by
  obtain ⟨h1, h2⟩ := enc_decF s _ _ l h
  unfold encN
  rw [if_pos h1, h2, List.drop_zero]
end

section
open Go.RowKit

theorem keyN_ext {a b : ByteArray} (h : alikeB a b = true) : keyN a = keyN b := by
  unfold alikeB at h
  simp only [Bool.and_eq_true, beq_iff_eq] at h
  obtain ⟨⟨h1, h2⟩, h3⟩ := h
  have e : (keyN a).1 = (keyN b).1 := list_ext (by simpa [ByteArray.toList_eq] using h3)
  exact Prod.ext e (h1.trans h2.symm)
theorem alike_of {a b : ByteArray} (h : keyN a = keyN b) (hn : (nameL a).isSome = true) : alikeB a b = true := by
  unfold alikeB
  rw [← h, keyN_is, hn]
  simp
theorem alike_sym (a b : ByteArray) : alikeB b a = alikeB a b := by
  unfold alikeB
  rw [Bool.and_comm (keyN b).2 (keyN a).2]
  congr 1
  rw [Bool.eq_iff_iff, beq_iff_eq, beq_iff_eq]
  exact eq_comm
theorem alike_self (a : ByteArray) : alikeB a a = (nameL a).isSome := by
  unfold alikeB
  rw [keyN_is]
  cases (nameL a).isSome <;> simp
theorem alike_next {a b : ByteArray} (h : alikeB a b = true) (c : ByteArray) : alikeB b c = alikeB a c := by
  unfold alikeB; rw [keyN_ext h]
theorem alike_hash {a b : ByteArray} (h : alikeB a b = true) : hashN b = hashN a := by
  unfold hashN; rw [keyN_ext h]
theorem alike_name {a b : ByteArray} (h : alikeB a b = true) : (nameL a).isSome = true := by
  unfold alikeB at h
  simp only [Bool.and_eq_true] at h
  rw [← keyN_is]; exact h.1.1

/-- a name whose text is what m is written as -/
theorem name_enc {m : List Int} (h : (nameL ⟨(encN m).toArray⟩).isSome = true) : nameL ⟨(encN m).toArray⟩ = some m := by
  have hne : encN m ≠ [] := by
    intro e
    rw [e] at h
    have : nameL ⟨#[]⟩ = none := nameL_short rfl
    have e2 : (([] : List UInt8).toArray) = #[] := rfl
    rw [e2, this] at h
    cases h
  have hd := dec_enc m hne
  cases hn : nameL ⟨(encN m).toArray⟩ with
  | none => rw [hn] at h; cases h
  | some l =>
    have := (nameL_some hn).1
    rw [hd] at this
    exact this.symm
theorem alike_enc {a : ByteArray} {l m : List Int} (ha : nameL a = some l) (hk : keyL m = keyL l) (h : (nameL ⟨(encN m).toArray⟩).isSome = true) : alikeB a ⟨(encN m).toArray⟩ = true := by
  refine alike_of ?_ (by rw [ha]; rfl)
  rw [keyN_some ha, keyN_some (name_enc h), hk]
theorem name_dec {a : ByteArray} (h : (nameL a).isSome = true) : nameL a = some ((decN a).getD []) := by
  cases hn : nameL a with
  | none => rw [hn] at h; cases h
  | some l => rw [(nameL_some hn).1]; rfl
theorem alike_apart {a : ByteArray} (h : (nameL a).isSome = true) (hd : (nameL ⟨(encN (apartN ((decN a).getD []))).toArray⟩).isSome = true) : alikeB a ⟨(encN (apartN ((decN a).getD []))).toArray⟩ = true :=
  alike_enc (name_dec h) (key_apart _) hd
theorem alike_fold {a : ByteArray} (h : (nameL a).isSome = true) (hd : (nameL ⟨(encN (foldsN (apartN ((decN a).getD [])))).toArray⟩).isSome = true) : alikeB a ⟨(encN (foldsN (apartN ((decN a).getD [])))).toArray⟩ = true :=
  alike_enc (name_dec h) (key_fold _) hd
theorem alike_key {a : ByteArray} (h : (nameL a).isSome = true) (hk : (nameL (keyN a).1).isSome = true) : alikeB (keyN a).1 a = true := by
  have hn := name_dec h
  rw [keyN_some hn] at hk ⊢
  rw [alike_sym]
  exact alike_enc hn (key_key _) hk

theorem encN_size (l : List Int) (hl : l.length ≤ 100000) : (⟨(encN l).toArray⟩ : ByteArray).size ≤ 1048576 := by
  show (encN l).toArray.size ≤ 1048576
  have := encs_len l
  unfold encN
  split
  · simp; omega
  · simp
end

section
open Go.RowKit

/-- what impl.Compose and impl.Pair answer -/
structure CmImpl (w0 : World) : Prop where
  c : ∀ (v : Value) (l : List Int) (w : World), Below w0.heap.size w0 w → IntsAt w v l → l.length ≤ 1048576 →
    Calls Tryd.prog 6 #[v] w fun e w' => ∃ u, e = .returned u ∧ IntRow w' w.heap.size u (composeN l) ∧ Below w.heap.size w w'
  p : ∀ (a b : Int) (w : World), Below w0.heap.size w0 w →
    Calls Tryd.prog 12 #[.int .i64 a, .int .i64 b] w fun e w' => e = .returned (pairV (pairN a b)) ∧ Below w.heap.size w w'
/-- names that are put together are alike -/
theorem compose_alike {l : List Int} (h1 : (nameL ⟨(encN l).toArray⟩).isSome = true) (h2 : (nameL ⟨(encN (composeN l)).toArray⟩).isSome = true) : alikeB ⟨(encN l).toArray⟩ ⟨(encN (composeN l)).toArray⟩ = true :=
  alike_enc (name_enc h1) (by unfold keyL; rw [compose_apart]) h2

set_option maxRecDepth 100000 in
set_option maxHeartbeats 4000000 in
theorem compose_walk {w : World} (I : CmImpl w) (S : Src) (ok : S.ok) (hl : Lies S w) (hT : Tabs w) :
    Calls Tryd.prog 3 #[.slice S.a S.len S.cap] w fun e w' => e = .returned (.bool true) ∧ Below w.heap.size w w' := by
  have hlen : S.len ≤ 1048576 := ok.1
  have HDR := sdrawCompose_any S ok w hl
  go_enter Tryd.func3, Tryd.ntmps3
  go_wp2_with (first | (go_at_call 4; go_in))
  refine HDR.mono ?_
  rintro _ w1 ⟨l, v, hll, rfl, rowl, b1⟩
  have hA9 := apart_len9 l
  have hC1 := compose_len l
  have HCA := compose_apart l
  have HCI := compose_idem l
  have HAL : Hid ((nameL ⟨(encN l).toArray⟩).isSome = true → (nameL ⟨(encN (composeN l)).toArray⟩).isSome = true → alikeB ⟨(encN l).toArray⟩ ⟨(encN (composeN l)).toArray⟩ = true) := compose_alike
  go_wp2_with fail
  refine (I.c v l w1 b1 rowl.at (by omega)).mono ?_
  rintro _ w2 ⟨x, rfl, rowx, b2⟩
  have B2 : Below w.heap.size w w2 := b1.trans (b2.mono b1.size)
  have hl2 := rowl.at.below b2
  have hx2 := rowx.at
  clear rowl rowx b1 b2 HDR
  have sC := fun W h => sCompose v l W (by omega) h
  have iA := fun W h => iApart x (composeN l) W h (by omega)
  rw [HCA] at iA
  have sA := fun W h => sApart v l W (by omega) h
  have iC := fun W b h => I.c x (composeN l) W b h (by omega)
  rw [HCI] at iC
  have eL := fun W h => sEncode v l W (by omega) h
  have eX := fun W h => sEncode x (composeN l) W (by omega) h
  have zL := encN_size l (by omega)
  have zX := encN_size (composeN l) (by omega)
  clear HCA HCI
  generalize composeN l = X at *
  generalize apartN l = A at *
  generalize (⟨(encN l).toArray⟩ : ByteArray) = tL at *
  generalize (⟨(encN X).toArray⟩ : ByteArray) = tX at *
  obtain ⟨la, lc, rfl, -⟩ := id hl2
  obtain ⟨xa, xc, rfl, -⟩ := id hx2
  go_wp2_with fail
  refine (sC w2 hl2).mono ?_
  rintro _ w3 ⟨y3, rfl, r3, b3⟩
  have C3 : Below w2.heap.size w2 w3 := b3
  go_wp2_with fail
  refine (sameInts_any _ y3 X X w3 (by omega) (hx2.below C3) r3.at).mono ?_
  rintro _ w4 ⟨rfl, b4⟩
  rw [decide_eq_true rfl]
  have C4 : Below w2.heap.size w2 w4 := C3.trans (b4.mono C3.size)
  clear r3 b3 b4
  go_wp2_with fail
  refine (iA w4 (hx2.below C4)).mono ?_
  rintro _ w5 ⟨y5, rfl, r5, b5⟩
  have C5 : Below w2.heap.size w2 w5 := C4.trans (b5.mono C4.size)
  go_wp2_with fail
  refine (sA w5 (hl2.below C5)).mono ?_
  rintro _ w6 ⟨y6, rfl, r6, b6⟩
  have C6 : Below w2.heap.size w2 w6 := C5.trans (b6.mono C5.size)
  have r5' := r5.below b6
  go_wp2_with fail
  refine (sameInts_any y5 y6 A A w6 (by omega) r5'.at r6.at).mono ?_
  rintro _ w7 ⟨rfl, b7⟩
  rw [decide_eq_true rfl]
  have C7 : Below w2.heap.size w2 w7 := C6.trans (b7.mono C6.size)
  clear r5 r5' r6 b5 b6 b7
  go_wp2_with fail
  refine (iC w7 (B2.trans (C7.mono B2.size)) (hx2.below C7)).mono ?_
  rintro _ w8 ⟨y8, rfl, r8, b8⟩
  have C8 : Below w2.heap.size w2 w8 := C7.trans (b8.mono C7.size)
  go_wp2_with fail
  refine (sameInts_any y8 _ X X w8 (by omega) r8.at (hx2.below C8)).mono ?_
  rintro _ w9 ⟨rfl, b9⟩
  rw [decide_eq_true rfl]
  have C9 : Below w2.heap.size w2 w9 := C8.trans (b9.mono C8.size)
  clear r8 b8 b9
  go_wp2_with fail
  refine (sA w9 (hl2.below C9)).mono ?_
  rintro _ w10 ⟨y10, rfl, r10, b10⟩
  have C10 : Below w2.heap.size w2 w10 := C9.trans (b10.mono C9.size)
  obtain ⟨a10, c10, rfl, -⟩ := r10.at
  have hlg : ¬ ((A.length : Int) < (X.length : Int)) := by omega
  clear r10 b10
  go_wp2_with fail
  refine (sdrawPair_any S ok w10 (hl.below (B2.trans (C10.mono B2.size)))).mono ?_
  rintro _ w11 ⟨a, b, rfl, b11⟩
  have C11 : Below w2.heap.size w2 w11 := C10.trans (b11.mono C10.size)
  have iP := fun W h => I.p a b W h
  have sP := fun W => sPair a b W
  have HPA := fun c => @pair_apart a b c
  unfold pairV at iP sP
  generalize pairN a b = po at iP sP HPA
  clear b11
  go_wp2_with fail
  refine (iP w11 (B2.trans (C11.mono B2.size))).mono ?_
  rintro _ w12 ⟨rfl, b12⟩
  have C12 : Below w2.heap.size w2 w12 := C11.trans (b12.mono C11.size)
  go_wp2_with fail
  refine (sP w12).mono ?_
  rintro _ w13 ⟨rfl, b13⟩
  have C13 : Below w2.heap.size w2 w13 := C12.trans (b13.mono C12.size)
  have hpp : (po.isSome != po.isSome) = false := by cases po.isSome <;> rfl
  clear b12 b13 iP sP
  go_wp2_with fail
  refine (eL w13 (hl2.below C13)).mono ?_
  rintro _ w14 ⟨rfl, b14⟩
  have C14 : Below w2.heap.size w2 w14 := C13.trans (b14.mono C13.size)
  go_wp2_with fail
  refine (eX w14 (hx2.below C14)).mono ?_
  rintro _ w15 ⟨rfl, b15⟩
  have C15 : Below w2.heap.size w2 w15 := C14.trans (b15.mono C14.size)
  clear b14 b15 eL eX sC iA sA iC
  have B15 := B2.trans (C15.mono B2.size)
  have nL := fun W => sNameOk tL W zL
  have nX := fun W => sNameOk tX W zX
  have aL := fun W (h : Below w.heap.size w W) => iAlike tL tX W (hT.below h) zL zX
  generalize (nameL tL).isSome = qL at nL HAL
  generalize (nameL tX).isSome = qX at nX HAL
  generalize alikeB tL tX = qA at aL HAL
  have iA1 := fun W v l h hl => iApart v l W h hl
  clear hl2 hx2 C3 C4 C5 C6 C7 C8 C9 C10 C11 C12 C13 C14 C15 hT hl I
  go_upto_region 14 with fail
  go_cut [82] (fun bv wx => bv = .bool false ∧ Below w15.heap.size w15 wx)
  case first =>
    cases qL
    · go_wp2_with fail
      refine (nL w15).mono ?_
      rintro _ w16 ⟨rfl, b16⟩
      go_wp2_with fail
      go_meet
      exact ⟨rfl, b16⟩
    · go_wp2_with fail
      refine (nL w15).mono ?_
      rintro _ w16 ⟨rfl, b16⟩
      cases qX
      · go_wp2_with fail
        refine (nX w16).mono ?_
        rintro _ w17 ⟨rfl, b17⟩
        go_wp2_with fail
        go_meet
        exact ⟨rfl, b16.trans (b17.mono b16.size)⟩
      · obtain rfl := HAL.out (by first | rfl | trivial) (by first | rfl | trivial)
        go_wp2_with fail
        refine (nX w16).mono ?_
        rintro _ w17 ⟨rfl, b17⟩
        have C17 := b16.trans (b17.mono b16.size)
        go_wp2_with fail
        refine (aL w17 (B15.trans (C17.mono B15.size))).mono ?_
        rintro _ w18 ⟨rfl, b18⟩
        go_wp2_with fail
        go_meet
        exact ⟨rfl, C17.trans (b18.mono C17.size)⟩
  case rest =>
    obtain ⟨rfl, hbx⟩ := hcut
    have Bc := B15.trans (hbx.mono B15.size)
    clear nL nX aL HAL hbx B15
    cases po with
    | none =>
      go_wp2
      go_ret
      exact ⟨rfl, Bc⟩
    | some c =>
      have hpa := HPA c rfl
      have hb1 := below_lit wc (.cells #[.int .i64 c] 3)
      have hr1 := (lit_at wc #[.int .i64 c] [c] 1 rfl rfl (by decide)).at
      have h1 := iA1 _ _ [c] hr1 (by simp)
      go_wp2_with fail
      refine h1.mono ?_
      rintro _ w16 ⟨y16, rfl, r16, b16⟩
      have B16 := Bc.trans ((hb1.trans (b16.mono hb1.size)).mono Bc.size)
      have hb2 := below_lit w16 (.cells #[.int .i64 a, .int .i64 b] 3)
      have hr2 := (lit_at w16 #[.int .i64 a, .int .i64 b] [a, b] 2 rfl rfl (by decide)).at
      have h2 := iA1 _ _ [a, b] hr2 (by simp)
      rw [hpa] at r16
      have hz := apart_len9 [a, b]
      go_wp2_with fail
      refine h2.mono ?_
      rintro _ w17 ⟨y17, rfl, r17, b17⟩
      have b17' := hb2.trans (b17.mono hb2.size)
      have B17 := B16.trans (b17'.mono B16.size)
      generalize apartN [a, b] = Z at r16 r17 hz
      go_wp2_with fail
      refine (sameInts_any y16 y17 Z Z w17 (by simp at hz; omega) (r16.below b17').at r17.at).mono ?_
      rintro _ w18 ⟨rfl, b18⟩
      rw [decide_eq_true rfl]
      go_wp2
      go_ret
      exact ⟨rfl, B17.trans (b18.mono B17.size)⟩
end

section
open Go.RowKit

theorem cmImpl (w0 : World) : CmImpl w0 := ⟨fun v l w _ hv hl => iCompose v l w hl hv, fun a b w _ => iPair a b w⟩
end

end Go.Proofs.YtkgnlamlmnhleaaDoor
