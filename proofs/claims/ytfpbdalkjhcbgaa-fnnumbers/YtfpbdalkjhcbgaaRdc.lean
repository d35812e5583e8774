/- What impl.readDigits and impl.ReadDec answer. -/
import Derived.Test.YtfpbdalkjhcbgaaRows
import Derived.Test.YtfpbdalkjhcbgaaUh
import Derived.Test.YtfpbdalkjhcbgaaRdcNum
import Derived.WalkKit
import Derived.WalkSpells
import Derived.WalkLawsBesides
import Derived.WalkMore
namespace Go.Proofs.Ytfpbdalkjhcbgaa
open Go.RowKit

/-- what readDigits comes to -/
def RdDig (l : List UInt8) (n : Int) (ok : Bool) : Prop :=
  (1 ≤ l.length ∧ l.length ≤ 9 ∧ Good l ∧ n = valL l ∧ ok = true) ∨ (¬ (1 ≤ l.length ∧ l.length ≤ 9 ∧ Good l) ∧ n = 0 ∧ ok = false)

theorem Good_step (l : List UInt8) (k : Nat) (b : UInt8) (e : l.take (k + 1) = l.take k ++ [b]) (hk : k < l.length) (hg : Good (l.take k)) (hb : isD b = true) (hv : k = 0 ∨ valL (l.take k) ≠ 0) : Good (l.take (k + 1)) := by
  refine ⟨?_, fun i h1 h2 => ?_⟩
  · rw [e]
    intro x hx
    rcases List.mem_append.1 hx with h | h
    · exact hg.1 x h
    · simp at h; subst h; exact hb
  · have hik : i ≤ k := by rw [List.length_take] at h2; omega
    rw [List.take_take, Nat.min_eq_left (by omega)]
    by_cases hi : i < k
    · have := hg.2 i h1 (by rw [List.length_take]; omega)
      rwa [List.take_take, Nat.min_eq_left (by omega)] at this
    · obtain rfl : i = k := by omega
      rcases hv with h | h
      · omega
      · exact h

theorem Good_fail (l : List UInt8) (k : Nat) (b : UInt8) (e : l.take (k + 1) = l.take k ++ [b]) (hk : k < l.length) (h : isD b = false ∨ (0 < k ∧ valL (l.take k) = 0)) : ¬ Good l := by
  intro hg
  rcases h with h | ⟨h1, h2⟩
  · have hm : b ∈ l := List.mem_of_mem_take (i := k + 1) (by rw [e]; simp)
    rw [hg.1 b hm] at h; cases h
  · exact hg.2 k h1 hk h2

set_option maxRecDepth 100000 in
set_option maxHeartbeats 400000 in
theorem readDigits_any (s : ByteArray) (w : World) (hs : s.size ≤ maxLen) :
    Calls Try.prog 20 #[.string s] w fun e w' => ∃ (n : Int) (ok : Bool), e = .returned (.tuple #[.int .i64 n, .bool ok]) ∧ RdDig s.data.toList n ok ∧ w = w' := by
  unfold maxLen at hs
  have hss : s.data.toList.length = s.size := by rw [Array.length_toList]; rfl
  have HSS : Hid (s.data.toList.length = s.size) := hss
  by_cases hlen : s.size < 1 ∨ 9 < s.size
  · have HR : Hid (RdDig s.data.toList 0 false) := Or.inr ⟨by omega, rfl, rfl⟩
    clear hss
    rcases hlen with h | h
    all_goals
      go_enter Try.func20, Try.ntmps20
      go_wp2
      go_step3
      go_wp2
      try rw [Exit.noGoto_ret]
      go_ret2
      exact ⟨0, false, rfl, HR.out, rfl⟩
  · have hl1 : 1 ≤ s.size := by omega
    have hl9 : s.size ≤ 9 := by omega
    clear hss hlen
    go_enter Try.func20, Try.ntmps20
    go_wp2
    go_step3
    go_wp2
    go_step3
    go_wp2
    go_loop [4, 5, 18] (fun v o i => ∃ k : Nat, k ≤ s.size ∧ i = .int .i64 k ∧ o = .bool true ∧ v = .int .i64 (valL (s.data.toList.take k)) ∧ Good (s.data.toList.take k)) (fun _ _ i => s.size - (intOf i).toNat)
    case atStart => exact ⟨0, by omega, rfl, rfl, rfl, by simp [Good]⟩
    case round =>
      obtain ⟨k, hk, rfl, rfl, rfl, hg⟩ := hrel
      have HG : Hid (Good (s.data.toList.take k)) := hg
      have hb : 0 ≤ valL (s.data.toList.take k) ∧ valL (s.data.toList.take k) < 1000000000 := valL_le _ 9 hg.1 (by simp; omega)
      clear hg
      by_cases hlt : k < s.size
      · have HT : Hid (s.data.toList.take (k + 1) = s.data.toList.take k ++ [s[k]]) := take_snoc s k hlt
        have HV : Hid (valL (s.data.toList.take (k + 1)) = valL (s.data.toList.take k) * 10 + ((s[k].toNat : Int) - 48)) := by rw [HT.out]; exact valL_snoc _ _
        cases hd : inB (s[k].toNat : Int) 48 57
        · have HR : Hid (RdDig s.data.toList 0 false) := Or.inr ⟨fun h => Good_fail _ k _ HT.out (by rw [HSS.out]; exact hlt) (Or.inl hd) h.2.2, rfl, rfl⟩
          go_wp2_with (go_at_call 28; refine (isDigit_any _ _).mono ?_; rintro e w' ⟨rfl, rfl⟩)
          try rw [Exit.noGoto_ret]
          go_ret2
          exact ⟨0, false, rfl, HR.out, rfl⟩
        · have hd2 := inB_le hd
          by_cases hz : 0 < k ∧ valL (s.data.toList.take k) = 0
          · have HR : Hid (RdDig s.data.toList 0 false) := Or.inr ⟨fun h => Good_fail _ k _ HT.out (by rw [HSS.out]; exact hlt) (Or.inr hz) h.2.2, rfl, rfl⟩
            have hk0 := hz.1
            have hnz : (valL (s.data.toList.take k) == 0) = true := by rw [beq_iff_eq]; exact hz.2
            clear hz
            go_wp2_with (go_at_call 28; refine (isDigit_any _ _).mono ?_; rintro e w' ⟨rfl, rfl⟩)
            try rw [Exit.noGoto_ret]
            go_ret2
            exact ⟨0, false, rfl, HR.out, rfl⟩
          · have HN : Hid (Good (s.data.toList.take (k + 1))) := Good_step _ k _ HT.out (by rw [HSS.out]; exact hlt) HG.out hd (by omega)
            by_cases hk0 : 0 < k
            · have hnz : (valL (s.data.toList.take k) == 0) = false := by rw [beq_eq_false_iff_ne]; omega
              clear hz
              go_wp2_with (go_at_call 28; refine (isDigit_any _ _).mono ?_; rintro e w' ⟨rfl, rfl⟩)
              go_round
              case rel => exact ⟨k + 1, by omega, by go_num, rfl, by rw [HV.out]; go_num, HN.out⟩
              case measure => simp [intOf]; omega
            · clear hz
              go_wp2_with (go_at_call 28; refine (isDigit_any _ _).mono ?_; rintro e w' ⟨rfl, rfl⟩)
              go_round
              case rel => exact ⟨k + 1, by omega, by go_num, rfl, by rw [HV.out]; go_num, HN.out⟩
              case measure => simp [intOf]; omega
      · have hkd : s.data.toList.take k = s.data.toList := List.take_of_length_le (by rw [HSS.out]; omega)
        have HR : Hid (RdDig s.data.toList (valL (s.data.toList.take k)) true) := by
          have h := HG.out
          rw [hkd] at h ⊢
          exact Or.inl ⟨by rw [HSS.out]; exact hl1, by rw [HSS.out]; exact hl9, h, rfl, rfl⟩
        clear hkd
        go_wp2
        try rw [Exit.noGoto_ret]
        go_ret2
        exact ⟨_, true, rfl, HR.out, rfl⟩

theorem RdDig_bd (l : List UInt8) (n : Int) (ok : Bool) (h : RdDig l n ok) : 0 ≤ n ∧ n < 1000000000 := by
  rcases h with ⟨_, h2, hg, rfl, _⟩ | ⟨_, rfl, _⟩
  · exact valL_le l 9 hg.1 h2
  · omega

/-- a text that opens with the sign is read by what stands behind it -/
theorem dec_minus (l r : List UInt8) (n : Int) (ok : Bool) (hl : l = 45 :: r) (h : RdDig r n ok) : RdDec l (-n) (ok && decide (0 < n)) := by
  subst hl
  rcases h with ⟨h1, h2, hg, rfl, rfl⟩ | ⟨h, rfl, rfl⟩
  · have hb := valL_le r 9 hg.1 h2
    have hd := dp_valL r 18 (by intro h; rw [h] at h1; simp at h1) (by omega) hg
    by_cases hp : 0 < valL r
    · refine Or.inl ⟨by omega, by omega, ?_, by simp [hp]⟩
      have e : (-valL r) = -(((valL r).toNat : Nat) : Int) := by omega
      rw [e, decL_neg _ (by omega), hd]
    · have h0 : valL r = 0 := by omega
      refine Or.inr ⟨fun m m1 m2 he => ?_, by omega, by simp [hp]⟩
      by_cases hm : m < 0
      · obtain ⟨a, ha⟩ := Int.eq_ofNat_of_zero_le (show 0 ≤ -m by omega)
        obtain rfl : m = -(a : Int) := by omega
        rw [decL_neg a (by omega)] at he
        have h5 := congrArg valL (List.cons.inj he).2
        rw [valL_dp _ _ (fits10_all a (by omega))] at h5
        omega
      · obtain ⟨a, rfl⟩ := Int.eq_ofNat_of_zero_le (show 0 ≤ m by omega)
        rw [decL_nonneg] at he
        have := dp_isD 18 a 45 (by rw [he]; simp)
        revert this; decide
  · refine Or.inr ⟨fun m m1 m2 he => ?_, rfl, rfl⟩
    by_cases hm : m < 0
    · obtain ⟨a, ha⟩ := Int.eq_ofNat_of_zero_le (show 0 ≤ -m by omega)
      obtain rfl : m = -(a : Int) := by omega
      rw [decL_neg a (by omega)] at he
      have h5 := (List.cons.inj he).2
      have hs := fits_small (-(a : Int)) m1 m2
      rw [Int.natAbs_neg, Int.natAbs_natCast] at hs
      have h6 := dp_more 8 a hs 10
      have h7 := dp_length 8 a
      rw [← h6] at h7
      exact h ⟨by rw [← h5]; exact h7.1, by rw [← h5]; exact h7.2, by rw [← h5]; exact Good_dp _ _ (fits10_all a (by omega))⟩
    · obtain ⟨a, rfl⟩ := Int.eq_ofNat_of_zero_le (show 0 ≤ m by omega)
      rw [decL_nonneg] at he
      have := dp_isD 18 a 45 (by rw [he]; simp)
      revert this; decide

theorem dec_plain (l : List UInt8) (n : Int) (ok : Bool) (hl : ∀ r, l ≠ 45 :: r) (h : RdDig l n ok) : RdDec l n ok := by
  rcases h with ⟨h1, h2, hg, rfl, rfl⟩ | ⟨h, rfl, rfl⟩
  · have hb := valL_le l 9 hg.1 h2
    have hd := dp_valL l 18 (by intro h; rw [h] at h1; simp at h1) (by omega) hg
    refine Or.inl ⟨by omega, by omega, ?_, rfl⟩
    have e : valL l = (((valL l).toNat : Nat) : Int) := by omega
    rw [e, decL_nonneg, hd]
  · refine Or.inr ⟨fun m m1 m2 he => ?_, rfl, rfl⟩
    by_cases hm : m < 0
    · obtain ⟨a, ha⟩ := Int.eq_ofNat_of_zero_le (show 0 ≤ -m by omega)
      obtain rfl : m = -(a : Int) := by omega
      rw [decL_neg a (by omega)] at he
      exact hl _ he.symm
    · obtain ⟨a, rfl⟩ := Int.eq_ofNat_of_zero_le (show 0 ≤ m by omega)
      rw [decL_nonneg] at he
      have hs := fits_small (a : Int) m1 m2
      rw [Int.natAbs_natCast] at hs
      have h6 := dp_more 8 a hs 10
      have h7 := dp_length 8 a
      rw [← h6] at h7
      exact h ⟨by rw [← he]; exact h7.1, by rw [← he]; exact h7.2, by rw [← he]; exact Good_dp _ _ (fits10_all a (by omega))⟩

set_option maxRecDepth 100000 in
set_option maxHeartbeats 400000 in
theorem iReadDec_any (s : ByteArray) (w : World) (hs : s.size ≤ maxLen) :
    Calls Try.prog 11 #[.string s] w fun e w' => ∃ (n : Int) (ok : Bool), e = .returned (.tuple #[.int .i64 n, .bool ok]) ∧ RdDec s.data.toList n ok ∧ w = w' := by
  have hss : s.data.toList.length = s.size := by rw [Array.length_toList]; rfl
  by_cases h0 : s.size = 0
  · have HL : Hid (∀ r, s.data.toList ≠ 45 :: r) := by intro r h; have := congrArg List.length h; rw [hss] at this; simp at this; omega
    have hz : ¬ ((0 : Int) < (s.size : Int)) := by omega
    clear hss
    go_enter Try.func11, Try.ntmps11
    go_wp2_with (go_at_call 20; refine (readDigits_any _ _ hs).mono ?_; rintro e w' ⟨n, ok, rfl, hr, rfl⟩)
    go_ret2
    exact ⟨n, ok, rfl, dec_plain _ _ _ HL.out hr, rfl⟩
  · have hp : 0 < s.size := by omega
    by_cases hm : s[0] = 45
    · have hb : ((s[0].toNat : Int) == 45) = true := by rw [hm]; rfl
      have HL : Hid (s.data.toList = 45 :: (s.extract 1 s.size).data.toList) := by
        have h1 : s.data.toList = s.data.toList[0] :: s.data.toList.drop 1 := by rw [← List.drop_eq_getElem_cons, List.drop_zero]
        have h2 : (s.extract 1 s.size).data.toList = s.data.toList.drop 1 := by rw [Lib.extract_data, List.take_of_length_le (by rw [List.length_drop, hss]; omega)]
        rw [h2]
        have h3 : s.data.toList[0] = 45 := hm
        rw [h3] at h1
        exact h1
      have hsx : (s.extract 1 s.size).size ≤ maxLen := by rw [ByteArray.size_extract]; omega
      clear hss hm h0
      go_enter Try.func11, Try.ntmps11
      go_wp2_with fail
      refine (readDigits_any _ _ hsx).mono ?_
      rintro e w' ⟨n, ok, rfl, hr, rfl⟩
      have hbd := RdDig_bd _ _ _ hr
      have HR : Hid (RdDec s.data.toList (-n) (ok && decide (0 < n))) := dec_minus _ _ _ _ HL.out hr
      clear hr
      cases ok
      all_goals
        go_wp2
        go_ret2
        exact ⟨_, _, rfl, HR.out, rfl⟩
    · have hb : ((s[0].toNat : Int) == 45) = false := by
        rw [beq_eq_false_iff_ne]; intro h; exact hm (UInt8.toNat_inj.1 (by have : (45 : UInt8).toNat = 45 := rfl; omega))
      have HL : Hid (∀ r, s.data.toList ≠ 45 :: r) := by
        intro r h
        have h1 : s.data.toList[0]? = some 45 := by rw [h]; rfl
        rw [List.getElem?_eq_getElem (by rw [hss]; exact hp)] at h1
        exact hm (Option.some.inj h1)
      clear hss hm h0
      go_enter Try.func11, Try.ntmps11
      go_wp2_with (go_at_call 20; refine (readDigits_any _ _ hs).mono ?_; rintro e w' ⟨n, ok, rfl, hr, rfl⟩)
      go_ret2
      exact ⟨n, ok, rfl, dec_plain _ _ _ HL.out hr, rfl⟩

end Go.Proofs.Ytfpbdalkjhcbgaa
