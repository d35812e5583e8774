/- Signs: spec.l3One. -/
import Derived.Test.YtlkemmdcjnaepaaDoorRows
import Derived.Test.YtlkemmdcjnaepaaDoorG02
import Derived.Deep.Cut
import Derived.Deep.CutRange
namespace Go.Proofs.YtlkemmdcjnaepaaDoor

section
open Go.RowKit

def byteAt (s : ByteArray) (i : Nat) : Int := ((s.data.getD i 0).toNat : Int)
theorem byteAt_get (s : ByteArray) (k : Nat) (h : k < s.size) : (s[k].toNat : Int) = byteAt s k := by
  have h' : k < s.data.size := h
  unfold byteAt
  rw [Array.getD, dif_pos h']; rfl
theorem byteAt_bd (s : ByteArray) (k : Nat) : 0 ≤ byteAt s k ∧ byteAt s k < 256 := by
  have := (s.data.getD k 0).toNat_lt
  unfold byteAt; omega

/-- how many bytes a sign has that begins with b, and what of it lies there -/
def leadN (b : Int) : Nat := if b < 128 then 1 else if 192 ≤ b ∧ b < 224 then 2 else if 224 ≤ b ∧ b < 240 then 3 else if 240 ≤ b ∧ b < 248 then 4 else 0
def leadC (b : Int) : Int := if b < 128 then b else if b < 224 then b % 32 else if b < 240 then b % 16 else b % 8
def contC (s : ByteArray) (at_ : Nat) : Nat → Int
  | 0 => leadC (byteAt s at_)
  | i + 1 => contC s at_ i * 64 + byteAt s (at_ + (i + 1)) % 64
def contOk (s : ByteArray) (at_ n : Nat) : Bool := (List.range (n - 1)).all fun i => inB (byteAt s (at_ + (i + 1))) 128 191
def oneOk (s : ByteArray) (at_ : Nat) : Bool :=
  leadN (byteAt s at_) != 0 && decide (at_ + leadN (byteAt s at_) ≤ s.size) && contOk s at_ (leadN (byteAt s at_)) && sgnB (contC s at_ (leadN (byteAt s at_) - 1)) &&
    ((encOne (contC s at_ (leadN (byteAt s at_) - 1))).length == leadN (byteAt s at_))
def oneC (s : ByteArray) (at_ : Nat) : Int := if oneOk s at_ then contC s at_ (leadN (byteAt s at_) - 1) else 0
def oneL (s : ByteArray) (at_ : Nat) : Nat := if oneOk s at_ then leadN (byteAt s at_) else 0

theorem leadC_bd (b : Int) (h : 0 ≤ b) (h1 : b < 256) : 0 ≤ leadC b ∧ leadC b < 256 := by
  unfold leadC
  split
  · omega
  · split
    · omega
    · split <;> omega
theorem contC_bd (s : ByteArray) (at_ i : Nat) (hi : i ≤ 3) : 0 ≤ contC s at_ i ∧ contC s at_ i < 268435456 := by
  have h0 : 0 ≤ contC s at_ 0 ∧ contC s at_ 0 < 256 := leadC_bd _ (byteAt_bd s at_).1 (byteAt_bd s at_).2
  have e1 : contC s at_ 1 = contC s at_ 0 * 64 + byteAt s (at_ + 1) % 64 := rfl
  have e2 : contC s at_ 2 = contC s at_ 1 * 64 + byteAt s (at_ + 2) % 64 := rfl
  have e3 : contC s at_ 3 = contC s at_ 2 * 64 + byteAt s (at_ + 3) % 64 := rfl
  rcases Nat.lt_or_ge i 1 with h | h
  · obtain rfl : i = 0 := by omega
    omega
  · rcases Nat.lt_or_ge i 2 with h | h
    · obtain rfl : i = 1 := by omega
      omega
    · rcases Nat.lt_or_ge i 3 with h | h
      · obtain rfl : i = 2 := by omega
        omega
      · obtain rfl : i = 3 := by omega
        omega
theorem contOk_no (s : ByteArray) (at_ n i : Nat) (hi : i + 1 < n) (h : inB (byteAt s (at_ + (i + 1))) 128 191 = false) : contOk s at_ n = false := by
  cases e : contOk s at_ n with
  | false => rfl
  | true =>
    have := List.all_eq_true.1 e i (List.mem_range.2 (by omega))
    rw [h] at this; cases this
theorem contOk_yes (s : ByteArray) (at_ n : Nat) (h : ∀ i, i + 1 < n → inB (byteAt s (at_ + (i + 1))) 128 191 = true) : contOk s at_ n = true :=
  List.all_eq_true.2 fun i hi => h i (by have := List.mem_range.1 hi; omega)

theorem enc_one (c : Int) (h : sgnB c = true) : encN [c] = b8s (encOne c) := by
  unfold encN encs
  simp [h]

theorem len_beq (a b : Nat) : (a == b) = ((a : Int) == (b : Int)) := by
  rw [Bool.eq_iff_iff, beq_iff_eq, beq_iff_eq]; omega

theorem enc_lit (c : Int) (h : sgnB c = true) (w : World) (cs : Array Value) (hcs : cs.toList = intsV [c]) :
    Calls Tryd.prog 54 #[.slice (some ⟨w.heap.size, 0, none⟩) 1 1] (w.alloc (.cells cs 3)) fun e w' =>
      ∃ S : ByteArray, (S.size : Int) = (encOne c).length ∧ e = .returned (.string S) ∧ Below (w.alloc (.cells cs 3)).heap.size (w.alloc (.cells cs 3)) w' :=
  (sEncode _ [c] _ (by simp) (lit_at w cs [c] 1 hcs rfl (by decide)).at).mono fun e w' ⟨he, hb⟩ => ⟨_, by
    rw [enc_one c h]; show ((b8s (encOne c)).toArray.size : Int) = _; simp [b8s], he, hb⟩

/-- the answer of spec.l3One -/
def oneV (s : ByteArray) (at_ : Nat) : Value := .tuple #[.int .i64 (oneC s at_), .int .i64 (oneL s at_ : Int)]
theorem oneV_no (s : ByteArray) (at_ : Nat) (h : oneOk s at_ = false) : oneV s at_ = .tuple #[.int .i64 0, .int .i64 0] := by
  unfold oneV oneC oneL; rw [h]; rfl
theorem oneV_yes (s : ByteArray) (at_ n : Nat) (hn : leadN (byteAt s at_) = n) (h : oneOk s at_ = true) : oneV s at_ = .tuple #[.int .i64 (contC s at_ (n - 1)), .int .i64 (n : Int)] := by
  unfold oneV oneC oneL; rw [h, hn]; rfl

theorem lead_cases (b : Int) : (b < 128 ∧ leadN b = 1 ∧ leadC b = b) ∨ (192 ≤ b ∧ b < 224 ∧ leadN b = 2 ∧ leadC b = b % 32) ∨ (224 ≤ b ∧ b < 240 ∧ leadN b = 3 ∧ leadC b = b % 16) ∨
    (240 ≤ b ∧ b < 248 ∧ leadN b = 4 ∧ leadC b = b % 8) ∨ (¬ b < 128 ∧ (b < 192 ∨ 248 ≤ b) ∧ leadN b = 0) := by
  unfold leadN leadC
  by_cases h1 : b < 128
  · left; simp [h1]
  · by_cases h2 : b < 192
    · right; right; right; right
      refine ⟨h1, .inl h2, ?_⟩
      rw [if_neg h1, if_neg (by omega), if_neg (by omega), if_neg (by omega)]
    · by_cases h3 : b < 224
      · right; left
        refine ⟨by omega, h3, ?_, ?_⟩
        · rw [if_neg h1, if_pos (by omega)]
        · rw [if_neg h1, if_pos h3]
      · by_cases h4 : b < 240
        · right; right; left
          refine ⟨by omega, h4, ?_, ?_⟩
          · rw [if_neg h1, if_neg (by omega), if_pos (by omega)]
          · rw [if_neg h1, if_neg h3, if_pos h4]
        · by_cases h5 : b < 248
          · right; right; right; left
            refine ⟨by omega, h5, ?_, ?_⟩
            · rw [if_neg h1, if_neg (by omega), if_neg (by omega), if_pos (by omega)]
            · rw [if_neg h1, if_neg h3, if_neg h4]
          · right; right; right; right
            refine ⟨h1, .inr (by omega), ?_⟩
            rw [if_neg h1, if_neg (by omega), if_neg (by omega), if_neg (by omega)]

set_option maxRecDepth 100000 in
set_option maxHeartbeats 2000000 in
theorem l3One_any (s : ByteArray) (k : Nat) (w : World) (hs : s.size ≤ 1048576) (hk : k < s.size) :
    Calls Tryd.prog 63 #[.string s, .int .i64 (k : Int)] w fun e w' => e = .returned (oneV s k) ∧ Below w.heap.size w w' := by
  have hb := byteAt_bd s k
  have hbe := byteAt_get s k hk
  have hlc := lead_cases (byteAt s k)
  have HNO := oneV_no s k
  have HYES := oneV_yes s k
  have HOK : Hid (oneOk s k = (leadN (byteAt s k) != 0 && decide (k + leadN (byteAt s k) ≤ s.size) && contOk s k (leadN (byteAt s k)) && sgnB (contC s k (leadN (byteAt s k) - 1)) &&
    ((encOne (contC s k (leadN (byteAt s k) - 1))).length == leadN (byteAt s k)))) := rfl
  have HC0 : Hid (contC s k 0 = leadC (byteAt s k)) := rfl
  generalize oneV s k = R at HNO HYES ⊢
  generalize oneOk s k = ok at HOK HNO HYES
  obtain ⟨n, HN⟩ : ∃ n, Hid (leadN (byteAt s k) = n) := ⟨_, rfl⟩
  obtain ⟨c0, HC⟩ : ∃ c, Hid (leadC (byteAt s k) = c) := ⟨_, rfl⟩
  rw [HN.out, HC.out] at hlc
  rw [HN.out] at HOK HYES
  rw [HC.out] at HC0
  clear HN HC
  generalize byteAt s k = b at hb hbe hlc
  rcases hlc with ⟨h1, rfl, hc0⟩ | ⟨h1, h2, rfl, hc0⟩ | ⟨h1, h2, rfl, hc0⟩ | ⟨h1, h2, rfl, hc0⟩ | ⟨h1, h2, rfl⟩
  · have HOK' : Hid (ok = (decide (k + 1 ≤ s.size) && contOk s k 1 && sgnB (contC s k 0) && ((encOne (contC s k 0)).length == 1))) := by show _ = _; rw [HOK.out]; simp
    have HYES' : Hid (ok = true → R = .tuple #[.int .i64 (contC s k 0), .int .i64 1]) := HYES 1 rfl
    have HNO' : Hid (ok = false → R = .tuple #[.int .i64 0, .int .i64 0]) := HNO
    clear HOK HYES HNO
    subst hc0
    by_cases hle : k + 1 ≤ s.size
    · go_enter Tryd.func63, Tryd.ntmps63
      go_wp2
      go_loop [8, 9, 10] (fun cv i _ => ∃ j : Nat, j + 1 ≤ 1 ∧ i = .int .i64 ((j : Int) + 1) ∧ cv = .int .i64 (contC s k j) ∧ ∀ t, t < j → inB (byteAt s (k + (t + 1))) 128 191 = true) (fun _ i _ => 1 - (intOf i).toNat)
      case atStart => exact ⟨0, by omega, rfl, by rw [HC0.out], fun t ht => by omega⟩
      case round =>
        obtain ⟨j, hj, rfl, rfl, hin⟩ := hrel
        have hbd := contC_bd s k j (by omega)
        by_cases hjn : j + 1 < 1
        · exfalso; omega
        · obtain rfl : j = 0 := by omega
          have HCO : Hid (contOk s k 1 = true) := contOk_yes s k 1 (fun i hi => hin i (by omega))
          rw [HCO.out] at HOK'
          generalize contC s k 0 = cj at hbd HOK' HYES' ⊢
          clear hin
          cases hsg : sgnB cj
          · have HR : Hid (R = .tuple #[.int .i64 0, .int .i64 0]) := HNO'.out (by rw [HOK'.out, hsg]; simp)
            go_wp2_with (go_at_call 70; refine (l3Sign_any _ _).mono ?_; rintro e w' ⟨rfl, rfl⟩)
            go_ret2
            exact ⟨by rw [HR.out]; rfl, Below.refl _ _⟩
          · rw [hsg] at HOK'
            have hEL := encOne_len cj
            have hEI : Hid (((encOne cj).length == 1) = (((encOne cj).length : Int) == 1)) := len_beq _ _
            have hENC := enc_lit cj hsg
            rw [hEI.out] at HOK'
            generalize (encOne cj).length = L at HOK' hEL hENC
            cases hLN : ((L : Int) == 1)
            · have HR : Hid (R = .tuple #[.int .i64 0, .int .i64 0]) := HNO'.out (by rw [HOK'.out, hLN]; simp)
              have hLN' : ((L : Int) != 1) = true := by simpa using hLN
              go_wp2_with (first | (go_at_call 70; refine (l3Sign_any _ _).mono ?_; rintro e w' ⟨rfl, rfl⟩) | (go_at_call 54; refine (hENC _ _ ?_).mono ?_; (· rfl); rintro e w1 ⟨S, hS, rfl, hb1⟩))
              go_ret2
              exact ⟨by rw [HR.out]; rfl, (below_lit _ _).trans (hb1.mono (by simp))⟩
            · have HR : Hid (R = .tuple #[.int .i64 cj, .int .i64 1]) := HYES'.out (by rw [HOK'.out, hLN]; simp [hle])
              have hLN' : ((L : Int) != 1) = false := by simpa using hLN
              go_wp2_with (first | (go_at_call 70; refine (l3Sign_any _ _).mono ?_; rintro e w' ⟨rfl, rfl⟩) | (go_at_call 54; refine (hENC _ _ ?_).mono ?_; (· rfl); rintro e w1 ⟨S, hS, rfl, hb1⟩))
              go_ret2
              exact ⟨by rw [HR.out]; rfl, (below_lit _ _).trans (hb1.mono (by simp))⟩
    · exfalso; omega
  · have HOK' : Hid (ok = (decide (k + 2 ≤ s.size) && contOk s k 2 && sgnB (contC s k 1) && ((encOne (contC s k 1)).length == 2))) := by show _ = _; rw [HOK.out]; simp
    have HYES' : Hid (ok = true → R = .tuple #[.int .i64 (contC s k 1), .int .i64 2]) := HYES 2 rfl
    have HNO' : Hid (ok = false → R = .tuple #[.int .i64 0, .int .i64 0]) := HNO
    clear HOK HYES HNO
    subst hc0
    have hm := and31 b (by omega) (by omega)
    by_cases hle : k + 2 ≤ s.size
    · go_enter Tryd.func63, Tryd.ntmps63
      go_wp2
      go_loop [8, 9, 10] (fun cv i _ => ∃ j : Nat, j + 1 ≤ 2 ∧ i = .int .i64 ((j : Int) + 1) ∧ cv = .int .i64 (contC s k j) ∧ ∀ t, t < j → inB (byteAt s (k + (t + 1))) 128 191 = true) (fun _ i _ => 2 - (intOf i).toNat)
      case atStart => exact ⟨0, by omega, rfl, by rw [HC0.out], fun t ht => by omega⟩
      case round =>
        obtain ⟨j, hj, rfl, rfl, hin⟩ := hrel
        have hbd := contC_bd s k j (by omega)
        by_cases hjn : j + 1 < 2
        · have hks : k + (j + 1) < s.size := by omega
          have hxb := byteAt_bd s (k + (j + 1))
          have hxe := byteAt_get s (k + (j + 1)) hks
          have HCS : Hid (contC s k (j + 1) = contC s k j * 64 + byteAt s (k + (j + 1)) % 64) := rfl
          have HNI : Hid (inB (byteAt s (k + (j + 1))) 128 191 = false → contOk s k 2 = false) := contOk_no s k 2 j hjn
          have HII : Hid (inB (byteAt s (k + (j + 1))) 128 191 = true → ∀ t, t < j + 1 → inB (byteAt s (k + (t + 1))) 128 191 = true) := fun h t ht => by
            by_cases htj : t < j
            · exact hin t htj
            · obtain rfl : t = j := by omega
              exact h
          have HX : Hid (inB (byteAt s (k + (j + 1))) 128 191 = (decide (128 ≤ byteAt s (k + (j + 1))) && decide (byteAt s (k + (j + 1)) ≤ 191))) := rfl
          generalize byteAt s (k + (j + 1)) = x at hxb hxe HCS HNI HII HX
          generalize contC s k j = cj at hbd HCS ⊢
          have hmx := and63 x (by omega) (by omega)
          clear hin
          by_cases hx1 : x < 128
          · have HR : Hid (R = .tuple #[.int .i64 0, .int .i64 0]) := HNO'.out (by rw [HOK'.out, HNI.out (by rw [HX.out]; simp; omega)]; simp)
            go_wp2
            go_ret2
            exact ⟨by rw [HR.out]; rfl, Below.refl _ _⟩
          · by_cases hx2 : x > 191
            · have HR : Hid (R = .tuple #[.int .i64 0, .int .i64 0]) := HNO'.out (by rw [HOK'.out, HNI.out (by rw [HX.out]; simp; omega)]; simp)
              go_wp2
              go_ret2
              exact ⟨by rw [HR.out]; rfl, Below.refl _ _⟩
            · go_wp2
              go_round
              case rel => exact ⟨j + 1, by omega, by go_num, by rw [HCS.out], HII.out (by rw [HX.out]; simp; omega)⟩
              case measure => simp [intOf]; omega
        · obtain rfl : j = 1 := by omega
          have HCO : Hid (contOk s k 2 = true) := contOk_yes s k 2 (fun i hi => hin i (by omega))
          rw [HCO.out] at HOK'
          generalize contC s k 1 = cj at hbd HOK' HYES' ⊢
          clear hin
          cases hsg : sgnB cj
          · have HR : Hid (R = .tuple #[.int .i64 0, .int .i64 0]) := HNO'.out (by rw [HOK'.out, hsg]; simp)
            go_wp2_with (go_at_call 70; refine (l3Sign_any _ _).mono ?_; rintro e w' ⟨rfl, rfl⟩)
            go_ret2
            exact ⟨by rw [HR.out]; rfl, Below.refl _ _⟩
          · rw [hsg] at HOK'
            have hEL := encOne_len cj
            have hEI : Hid (((encOne cj).length == 2) = (((encOne cj).length : Int) == 2)) := len_beq _ _
            have hENC := enc_lit cj hsg
            rw [hEI.out] at HOK'
            generalize (encOne cj).length = L at HOK' hEL hENC
            cases hLN : ((L : Int) == 2)
            · have HR : Hid (R = .tuple #[.int .i64 0, .int .i64 0]) := HNO'.out (by rw [HOK'.out, hLN]; simp)
              have hLN' : ((L : Int) != 2) = true := by simpa using hLN
              go_wp2_with (first | (go_at_call 70; refine (l3Sign_any _ _).mono ?_; rintro e w' ⟨rfl, rfl⟩) | (go_at_call 54; refine (hENC _ _ ?_).mono ?_; (· rfl); rintro e w1 ⟨S, hS, rfl, hb1⟩))
              go_ret2
              exact ⟨by rw [HR.out]; rfl, (below_lit _ _).trans (hb1.mono (by simp))⟩
            · have HR : Hid (R = .tuple #[.int .i64 cj, .int .i64 2]) := HYES'.out (by rw [HOK'.out, hLN]; simp [hle])
              have hLN' : ((L : Int) != 2) = false := by simpa using hLN
              go_wp2_with (first | (go_at_call 70; refine (l3Sign_any _ _).mono ?_; rintro e w' ⟨rfl, rfl⟩) | (go_at_call 54; refine (hENC _ _ ?_).mono ?_; (· rfl); rintro e w1 ⟨S, hS, rfl, hb1⟩))
              go_ret2
              exact ⟨by rw [HR.out]; rfl, (below_lit _ _).trans (hb1.mono (by simp))⟩
    · have HR : Hid (R = .tuple #[.int .i64 0, .int .i64 0]) := HNO'.out (by rw [HOK'.out]; simp [hle])
      go_enter Tryd.func63, Tryd.ntmps63
      go_wp2
      go_ret2
      exact ⟨by rw [HR.out]; rfl, Below.refl _ _⟩
  · have HOK' : Hid (ok = (decide (k + 3 ≤ s.size) && contOk s k 3 && sgnB (contC s k 2) && ((encOne (contC s k 2)).length == 3))) := by show _ = _; rw [HOK.out]; simp
    have HYES' : Hid (ok = true → R = .tuple #[.int .i64 (contC s k 2), .int .i64 3]) := HYES 3 rfl
    have HNO' : Hid (ok = false → R = .tuple #[.int .i64 0, .int .i64 0]) := HNO
    clear HOK HYES HNO
    subst hc0
    have hm := and15 b (by omega) (by omega)
    by_cases hle : k + 3 ≤ s.size
    · go_enter Tryd.func63, Tryd.ntmps63
      go_wp2
      go_loop [8, 9, 10] (fun cv i _ => ∃ j : Nat, j + 1 ≤ 3 ∧ i = .int .i64 ((j : Int) + 1) ∧ cv = .int .i64 (contC s k j) ∧ ∀ t, t < j → inB (byteAt s (k + (t + 1))) 128 191 = true) (fun _ i _ => 3 - (intOf i).toNat)
      case atStart => exact ⟨0, by omega, rfl, by rw [HC0.out], fun t ht => by omega⟩
      case round =>
        obtain ⟨j, hj, rfl, rfl, hin⟩ := hrel
        have hbd := contC_bd s k j (by omega)
        by_cases hjn : j + 1 < 3
        · have hks : k + (j + 1) < s.size := by omega
          have hxb := byteAt_bd s (k + (j + 1))
          have hxe := byteAt_get s (k + (j + 1)) hks
          have HCS : Hid (contC s k (j + 1) = contC s k j * 64 + byteAt s (k + (j + 1)) % 64) := rfl
          have HNI : Hid (inB (byteAt s (k + (j + 1))) 128 191 = false → contOk s k 3 = false) := contOk_no s k 3 j hjn
          have HII : Hid (inB (byteAt s (k + (j + 1))) 128 191 = true → ∀ t, t < j + 1 → inB (byteAt s (k + (t + 1))) 128 191 = true) := fun h t ht => by
            by_cases htj : t < j
            · exact hin t htj
            · obtain rfl : t = j := by omega
              exact h
          have HX : Hid (inB (byteAt s (k + (j + 1))) 128 191 = (decide (128 ≤ byteAt s (k + (j + 1))) && decide (byteAt s (k + (j + 1)) ≤ 191))) := rfl
          generalize byteAt s (k + (j + 1)) = x at hxb hxe HCS HNI HII HX
          generalize contC s k j = cj at hbd HCS ⊢
          have hmx := and63 x (by omega) (by omega)
          clear hin
          by_cases hx1 : x < 128
          · have HR : Hid (R = .tuple #[.int .i64 0, .int .i64 0]) := HNO'.out (by rw [HOK'.out, HNI.out (by rw [HX.out]; simp; omega)]; simp)
            go_wp2
            go_ret2
            exact ⟨by rw [HR.out]; rfl, Below.refl _ _⟩
          · by_cases hx2 : x > 191
            · have HR : Hid (R = .tuple #[.int .i64 0, .int .i64 0]) := HNO'.out (by rw [HOK'.out, HNI.out (by rw [HX.out]; simp; omega)]; simp)
              go_wp2
              go_ret2
              exact ⟨by rw [HR.out]; rfl, Below.refl _ _⟩
            · go_wp2
              go_round
              case rel => exact ⟨j + 1, by omega, by go_num, by rw [HCS.out], HII.out (by rw [HX.out]; simp; omega)⟩
              case measure => simp [intOf]; omega
        · obtain rfl : j = 2 := by omega
          have HCO : Hid (contOk s k 3 = true) := contOk_yes s k 3 (fun i hi => hin i (by omega))
          rw [HCO.out] at HOK'
          generalize contC s k 2 = cj at hbd HOK' HYES' ⊢
          clear hin
          cases hsg : sgnB cj
          · have HR : Hid (R = .tuple #[.int .i64 0, .int .i64 0]) := HNO'.out (by rw [HOK'.out, hsg]; simp)
            go_wp2_with (go_at_call 70; refine (l3Sign_any _ _).mono ?_; rintro e w' ⟨rfl, rfl⟩)
            go_ret2
            exact ⟨by rw [HR.out]; rfl, Below.refl _ _⟩
          · rw [hsg] at HOK'
            have hEL := encOne_len cj
            have hEI : Hid (((encOne cj).length == 3) = (((encOne cj).length : Int) == 3)) := len_beq _ _
            have hENC := enc_lit cj hsg
            rw [hEI.out] at HOK'
            generalize (encOne cj).length = L at HOK' hEL hENC
            cases hLN : ((L : Int) == 3)
            · have HR : Hid (R = .tuple #[.int .i64 0, .int .i64 0]) := HNO'.out (by rw [HOK'.out, hLN]; simp)
              have hLN' : ((L : Int) != 3) = true := by simpa using hLN
              go_wp2_with (first | (go_at_call 70; refine (l3Sign_any _ _).mono ?_; rintro e w' ⟨rfl, rfl⟩) | (go_at_call 54; refine (hENC _ _ ?_).mono ?_; (· rfl); rintro e w1 ⟨S, hS, rfl, hb1⟩))
              go_ret2
              exact ⟨by rw [HR.out]; rfl, (below_lit _ _).trans (hb1.mono (by simp))⟩
            · have HR : Hid (R = .tuple #[.int .i64 cj, .int .i64 3]) := HYES'.out (by rw [HOK'.out, hLN]; simp [hle])
              have hLN' : ((L : Int) != 3) = false := by simpa using hLN
              go_wp2_with (first | (go_at_call 70; refine (l3Sign_any _ _).mono ?_; rintro e w' ⟨rfl, rfl⟩) | (go_at_call 54; refine (hENC _ _ ?_).mono ?_; (· rfl); rintro e w1 ⟨S, hS, rfl, hb1⟩))
              go_ret2
              exact ⟨by rw [HR.out]; rfl, (below_lit _ _).trans (hb1.mono (by simp))⟩
    · have HR : Hid (R = .tuple #[.int .i64 0, .int .i64 0]) := HNO'.out (by rw [HOK'.out]; simp [hle])
      go_enter Tryd.func63, Tryd.ntmps63
      go_wp2
      go_ret2
      exact ⟨by rw [HR.out]; rfl, Below.refl _ _⟩
  · have HOK' : Hid (ok = (decide (k + 4 ≤ s.size) && contOk s k 4 && sgnB (contC s k 3) && ((encOne (contC s k 3)).length == 4))) := by show _ = _; rw [HOK.out]; simp
    have HYES' : Hid (ok = true → R = .tuple #[.int .i64 (contC s k 3), .int .i64 4]) := HYES 4 rfl
    have HNO' : Hid (ok = false → R = .tuple #[.int .i64 0, .int .i64 0]) := HNO
    clear HOK HYES HNO
    subst hc0
    have hm := and7 b (by omega) (by omega)
    by_cases hle : k + 4 ≤ s.size
    · go_enter Tryd.func63, Tryd.ntmps63
      go_wp2
      go_loop [8, 9, 10] (fun cv i _ => ∃ j : Nat, j + 1 ≤ 4 ∧ i = .int .i64 ((j : Int) + 1) ∧ cv = .int .i64 (contC s k j) ∧ ∀ t, t < j → inB (byteAt s (k + (t + 1))) 128 191 = true) (fun _ i _ => 4 - (intOf i).toNat)
      case atStart => exact ⟨0, by omega, rfl, by rw [HC0.out], fun t ht => by omega⟩
      case round =>
        obtain ⟨j, hj, rfl, rfl, hin⟩ := hrel
        have hbd := contC_bd s k j (by omega)
        by_cases hjn : j + 1 < 4
        · have hks : k + (j + 1) < s.size := by omega
          have hxb := byteAt_bd s (k + (j + 1))
          have hxe := byteAt_get s (k + (j + 1)) hks
          have HCS : Hid (contC s k (j + 1) = contC s k j * 64 + byteAt s (k + (j + 1)) % 64) := rfl
          have HNI : Hid (inB (byteAt s (k + (j + 1))) 128 191 = false → contOk s k 4 = false) := contOk_no s k 4 j hjn
          have HII : Hid (inB (byteAt s (k + (j + 1))) 128 191 = true → ∀ t, t < j + 1 → inB (byteAt s (k + (t + 1))) 128 191 = true) := fun h t ht => by
            by_cases htj : t < j
            · exact hin t htj
            · obtain rfl : t = j := by omega
              exact h
          have HX : Hid (inB (byteAt s (k + (j + 1))) 128 191 = (decide (128 ≤ byteAt s (k + (j + 1))) && decide (byteAt s (k + (j + 1)) ≤ 191))) := rfl
          generalize byteAt s (k + (j + 1)) = x at hxb hxe HCS HNI HII HX
          generalize contC s k j = cj at hbd HCS ⊢
          have hmx := and63 x (by omega) (by omega)
          clear hin
          by_cases hx1 : x < 128
          · have HR : Hid (R = .tuple #[.int .i64 0, .int .i64 0]) := HNO'.out (by rw [HOK'.out, HNI.out (by rw [HX.out]; simp; omega)]; simp)
            go_wp2
            go_ret2
            exact ⟨by rw [HR.out]; rfl, Below.refl _ _⟩
          · by_cases hx2 : x > 191
            · have HR : Hid (R = .tuple #[.int .i64 0, .int .i64 0]) := HNO'.out (by rw [HOK'.out, HNI.out (by rw [HX.out]; simp; omega)]; simp)
              go_wp2
              go_ret2
              exact ⟨by rw [HR.out]; rfl, Below.refl _ _⟩
            · go_wp2
              go_round
              case rel => exact ⟨j + 1, by omega, by go_num, by rw [HCS.out], HII.out (by rw [HX.out]; simp; omega)⟩
              case measure => simp [intOf]; omega
        · obtain rfl : j = 3 := by omega
          have HCO : Hid (contOk s k 4 = true) := contOk_yes s k 4 (fun i hi => hin i (by omega))
          rw [HCO.out] at HOK'
          generalize contC s k 3 = cj at hbd HOK' HYES' ⊢
          clear hin
          cases hsg : sgnB cj
          · have HR : Hid (R = .tuple #[.int .i64 0, .int .i64 0]) := HNO'.out (by rw [HOK'.out, hsg]; simp)
            go_wp2_with (go_at_call 70; refine (l3Sign_any _ _).mono ?_; rintro e w' ⟨rfl, rfl⟩)
            go_ret2
            exact ⟨by rw [HR.out]; rfl, Below.refl _ _⟩
          · rw [hsg] at HOK'
            have hEL := encOne_len cj
            have hEI : Hid (((encOne cj).length == 4) = (((encOne cj).length : Int) == 4)) := len_beq _ _
            have hENC := enc_lit cj hsg
            rw [hEI.out] at HOK'
            generalize (encOne cj).length = L at HOK' hEL hENC
            cases hLN : ((L : Int) == 4)
            · have HR : Hid (R = .tuple #[.int .i64 0, .int .i64 0]) := HNO'.out (by rw [HOK'.out, hLN]; simp)
              have hLN' : ((L : Int) != 4) = true := by simpa using hLN
              go_wp2_with (first | (go_at_call 70; refine (l3Sign_any _ _).mono ?_; rintro e w' ⟨rfl, rfl⟩) | (go_at_call 54; refine (hENC _ _ ?_).mono ?_; (· rfl); rintro e w1 ⟨S, hS, rfl, hb1⟩))
              go_ret2
              exact ⟨by rw [HR.out]; rfl, (below_lit _ _).trans (hb1.mono (by simp))⟩
            · have HR : Hid (R = .tuple #[.int .i64 cj, .int .i64 4]) := HYES'.out (by rw [HOK'.out, hLN]; simp [hle])
              have hLN' : ((L : Int) != 4) = false := by simpa using hLN
              go_wp2_with (first | (go_at_call 70; refine (l3Sign_any _ _).mono ?_; rintro e w' ⟨rfl, rfl⟩) | (go_at_call 54; refine (hENC _ _ ?_).mono ?_; (· rfl); rintro e w1 ⟨S, hS, rfl, hb1⟩))
              go_ret2
              exact ⟨by rw [HR.out]; rfl, (below_lit _ _).trans (hb1.mono (by simp))⟩
    · have HR : Hid (R = .tuple #[.int .i64 0, .int .i64 0]) := HNO'.out (by rw [HOK'.out]; simp [hle])
      go_enter Tryd.func63, Tryd.ntmps63
      go_wp2
      go_ret2
      exact ⟨by rw [HR.out]; rfl, Below.refl _ _⟩
  · have HR : Hid (R = .tuple #[.int .i64 0, .int .i64 0]) := HNO (by rw [HOK.out]; rfl)
    clear HOK HYES HNO
    rcases h2 with h2 | h2
    · go_enter Tryd.func63, Tryd.ntmps63
      go_wp2
      go_ret2
      exact ⟨by rw [HR.out]; rfl, Below.refl _ _⟩
    · go_enter Tryd.func63, Tryd.ntmps63
      go_wp2
      go_ret2
      exact ⟨by rw [HR.out]; rfl, Below.refl _ _⟩
end

end Go.Proofs.YtlkemmdcjnaepaaDoor
