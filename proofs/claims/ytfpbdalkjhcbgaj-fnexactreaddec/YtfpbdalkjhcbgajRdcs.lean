/- What spec.ReadDec answers. -/
import Derived.Test.YtfpbdalkjhcbgajRows
import Derived.Test.YtfpbdalkjhcbgajRdcNum
import Derived.Test.YtfpbdalkjhcbgajDc
import Derived.WalkKit
import Derived.WalkSpells
import Derived.WalkLawsBesides
namespace Go.Proofs.Ytfpbdalkjhcbgaj
open Go.RowKit

theorem sDec_any (m : Int) (w : World) (h1 : -9223372036854775808 ≤ m) (h2 : m ≤ 9223372036854775807) :
    Calls Try.prog 11 #[.int .i64 m] w fun e w' => e = .returned (.string ⟨(decL m).toArray⟩) ∧ Below w.heap.size w w' := by
  by_cases hz : m = 0
  · subst hz; exact sDec_zero w
  · by_cases hp : 0 < m
    · obtain ⟨n, rfl⟩ := Int.eq_ofNat_of_zero_le (show 0 ≤ m by omega)
      exact sDec_pos n w (by omega) (by omega)
    · obtain ⟨n, hn⟩ := Int.eq_ofNat_of_zero_le (show 0 ≤ -m by omega)
      obtain rfl : m = -(n : Int) := by omega
      exact sDec_neg n w (by omega) (by omega)

/-- the digits among l -/
def fl (l : List UInt8) : List UInt8 := l.filter isD

theorem fl_snoc (l : List UInt8) (b : UInt8) : fl (l ++ [b]) = fl l ++ if isD b then [b] else [] := by
  unfold fl; rw [List.filter_append]; cases h : isD b <;> simp [h]

theorem fl_isD (l : List UInt8) : ∀ b ∈ fl l, isD b = true := fun _ hb => (List.mem_filter.1 hb).2

theorem fl_length (l : List UInt8) : (fl l).length ≤ l.length := List.length_filter_le _ _

theorem fl_dp (f a : Nat) : fl (dp f a) = dp f a := List.filter_eq_self.2 (fun _ hb => dp_isD f a _ hb)

theorem dec_of (m : Int) (h1 : -1000000000 < m) (h2 : m < 1000000000) : (decL m).length ≤ 10 ∧ (fl (decL m)).length ≤ 9 ∧ valL (fl (decL m)) = m.natAbs ∧ (m < 0 → ∃ r, decL m = 45 :: r) ∧ (0 ≤ m → ∀ r, decL m ≠ 45 :: r) := by
  have hs := fits_small m h1 h2
  have h6 := dp_more 8 m.natAbs hs 10
  have h7 := dp_length 8 m.natAbs
  have hv := valL_dp 8 m.natAbs hs
  have hm45 : isD 45 = false := by decide
  unfold decL
  rw [h6]
  by_cases hn : m < 0
  · rw [if_pos hn]
    have e : fl ([45] ++ dp 8 m.natAbs) = dp 8 m.natAbs := by
      have := fl_dp 8 m.natAbs
      unfold fl at this ⊢
      rw [List.filter_append, this, List.filter_cons, hm45]
      simp
    rw [e]
    refine ⟨by simp; omega, by omega, hv, fun _ => ⟨_, rfl⟩, fun h => by omega⟩
  · rw [if_neg hn, List.nil_append, fl_dp]
    refine ⟨by omega, by omega, hv, fun h => by omega, fun _ r he => ?_⟩
    have := dp_isD 8 m.natAbs 45 (by rw [he]; simp)
    rw [hm45] at this; cases this

theorem take_eleven (l : List UInt8) (h : l.length ≤ 10) : l.take 11 = l := List.take_of_length_le (by omega)

theorem fin_no_minus (l r : List UInt8) (hl : l = 45 :: r) (h : 9 < (fl (l.take 11)).length ∨ 10 < l.length ∨ decL (-valL (fl (l.take 11))) ≠ l) : RdDec l 0 false := by
  refine Or.inr ⟨fun m h1 h2 he => ?_, rfl, rfl⟩
  have hd := dec_of m h1 h2
  rw [he] at hd
  rw [take_eleven l hd.1] at h
  have hneg : m < 0 := by
    by_cases hm : m < 0
    · exact hm
    · exact absurd hl (hd.2.2.2.2 (by omega) r)
  rcases h with h | h | h
  · omega
  · omega
  · rw [hd.2.2.1] at h
    rw [show (-((m.natAbs : Nat) : Int)) = m from by omega] at h
    exact h he

theorem fin_no_plain (l : List UInt8) (hl : ∀ r, l ≠ 45 :: r) (h : 9 < (fl (l.take 11)).length ∨ 10 < l.length ∨ decL (valL (fl (l.take 11))) ≠ l) : RdDec l 0 false := by
  refine Or.inr ⟨fun m h1 h2 he => ?_, rfl, rfl⟩
  have hd := dec_of m h1 h2
  rw [he] at hd
  rw [take_eleven l hd.1] at h
  have hneg : ¬ m < 0 := by
    intro hm
    obtain ⟨r, hr⟩ := hd.2.2.2.1 hm
    exact hl r hr
  rcases h with h | h | h
  · omega
  · omega
  · rw [hd.2.2.1] at h
    rw [show ((m.natAbs : Nat) : Int) = m from by omega] at h
    exact h he

def SaysDec (l : List UInt8) (e : Ending) : Prop := ∃ (n : Int) (ok : Bool), e = .returned (.tuple #[.int .i64 n, .bool ok]) ∧ RdDec l n ok

set_option maxRecDepth 100000 in
set_option maxHeartbeats 800000 in
theorem sReadDec_any (s : ByteArray) (w : World) (hs : s.size ≤ 1048576) :
    Calls Try.prog 13 #[.string s] w fun e w' => SaysDec s.data.toList e ∧ Below w.heap.size w w' := by
  have hss : s.data.toList.length = s.size := by rw [Array.length_toList]; rfl
  have HSS : Hid (s.data.toList.length = s.size) := hss
  clear hss
  go_enter Try.func13, Try.ntmps13
  go_wp2
  go_loop [4, 5, 6] (fun v c i => ∃ k : Nat, k ≤ s.size ∧ k ≤ 11 ∧ i = .int .i64 k ∧ c = .int .i64 (fl (s.data.toList.take k)).length ∧ v = .int .i64 (valL (fl (s.data.toList.take k)))) (fun _ _ i => 11 - (intOf i).toNat)
  case atStart => exact ⟨0, by omega, by omega, rfl, rfl, rfl⟩
  case round =>
    obtain ⟨k, hk, hk11, rfl, rfl, rfl⟩ := hrel
    have hfl := fl_length (s.data.toList.take k)
    have hfl2 : (s.data.toList.take k).length ≤ k := by rw [List.length_take]; omega
    have hb : 0 ≤ valL (fl (s.data.toList.take k)) ∧ valL (fl (s.data.toList.take k)) < 100000000000 := valL_le _ 11 (fl_isD _) (by omega)
    by_cases hlt : k < s.size ∧ k < 11
    · obtain ⟨h1, h2⟩ := hlt
      have HT : Hid (fl (s.data.toList.take (k + 1)) = fl (s.data.toList.take k) ++ if isD s[k] then [s[k]] else []) := by rw [take_snoc s k h1]; exact fl_snoc _ _
      have hb10 : valL (fl (s.data.toList.take k)) < 10000000000 := (valL_le _ 10 (fl_isD _) (by omega)).2
      cases hd : inB (s[k].toNat : Int) 48 57
      · have HE : Hid (fl (s.data.toList.take (k + 1)) = fl (s.data.toList.take k)) := by show _ = _; rw [HT.out, show isD s[k] = false from hd]; simp
        rcases inB_no hd with hd2 | hd2
        all_goals
          clear hd
          go_wp2
          go_round
          case rel => exact ⟨k + 1, by omega, by omega, by go_num, by rw [HE.out], by rw [HE.out]⟩
          case measure => simp [intOf]; omega
      · have hd2 := inB_le hd
        have HE : Hid (fl (s.data.toList.take (k + 1)) = fl (s.data.toList.take k) ++ [s[k]]) := by show _ = _; rw [HT.out, show isD s[k] = true from hd]; simp
        clear hd
        go_wp2
        go_round
        case rel => exact ⟨k + 1, by omega, by omega, by go_num, by rw [HE.out, List.length_append, List.length_singleton]; go_num, by rw [HE.out, valL_snoc]⟩
        case measure => simp [intOf]; omega
    · have hke : s.data.toList.take k = s.data.toList.take 11 := by
        by_cases h11 : k = 11
        · rw [h11]
        · rw [List.take_of_length_le (by rw [HSS.out]; omega), List.take_of_length_le (by rw [HSS.out]; omega)]
      rw [hke] at hfl hb
      rw [hke]
      have hcl : (fl (s.data.toList.take 11)).length ≤ 11 := by rw [List.length_take] at hfl; omega
      obtain ⟨n0, HN⟩ : ∃ n0, Hid (n0 = valL (fl (s.data.toList.take 11))) := ⟨_, rfl⟩
      obtain ⟨c0, HC⟩ : ∃ c0, Hid (c0 = (fl (s.data.toList.take 11)).length) := ⟨_, rfl⟩
      have HB9 : Hid (c0 ≤ 9 → n0 < 1000000000) := by
        intro h; rw [HN.out]; exact (valL_le _ 9 (fl_isD _) (by rw [← HC.out]; exact h)).2
      rw [← HN.out] at hb ⊢
      rw [← HC.out] at hcl ⊢
      clear hke hfl hfl2
      have htl : s.toList = s.data.toList := ByteArray.toList_eq s
      have hcase : (∃ r, s.data.toList = 45 :: r) ∨ ∀ r, s.data.toList ≠ 45 :: r := by
        by_cases h : ∃ r, s.data.toList = 45 :: r
        · exact Or.inl h
        · exact Or.inr fun r hr => h ⟨r, hr⟩
      have hex : ¬ k < s.size ∨ (k < s.size ∧ ¬ k < 11) := by omega
      clear hlt
      rcases hcase with ⟨r, hr⟩ | hr
      · have hp : 0 < s.size := by have := congrArg List.length hr; rw [HSS.out] at this; simp at this; omega
        have hb0 : ((s[0].toNat : Int) == 45) = true := by
          have h1 : s.data.toList[0]? = some 45 := by rw [hr]; rfl
          rw [List.getElem?_eq_getElem (by rw [HSS.out]; exact hp)] at h1
          have h2 : s[0] = 45 := Option.some.inj h1
          rw [h2]; rfl
        have HNO : Hid (9 < c0 ∨ 10 < s.size ∨ decL (-n0) ≠ s.data.toList → RdDec s.data.toList 0 false) := by
          intro h; refine fin_no_minus _ r hr ?_; rw [← HN.out, ← HC.out, HSS.out]; exact h
        clear hr
        by_cases h9 : 9 < c0
        · rcases hex with hx | ⟨hx, hx2⟩
          all_goals
            go_wp2
            all_goals (go_ret2; exact ⟨⟨0, false, rfl, HNO.out (Or.inl h9)⟩, Below.refl _ _⟩)
        · by_cases h10 : 10 < s.size
          · rcases hex with hx | ⟨hx, hx2⟩
            all_goals
              go_wp2
              all_goals (go_ret2; exact ⟨⟨0, false, rfl, HNO.out (Or.inr (Or.inl h10))⟩, Below.refl _ _⟩)
          · have hn9 := HB9.out (by omega)
            by_cases hd : decL (-n0) = s.data.toList
            · have HE : Hid (RdDec s.data.toList (-n0) true) := Or.inl ⟨by omega, by omega, hd, rfl⟩
              have hcmp : (decL (-n0) == s.toList) = true := by rw [htl, beq_iff_eq]; exact hd
              clear hd htl
              rcases hex with hx | ⟨hx, hx2⟩
              all_goals
                go_wp2_with (go_at_call 11; refine (sDec_any _ _ (by omega) (by omega)).mono ?_; rintro e w1 ⟨rfl, hb1⟩)
                all_goals (go_ret2; exact ⟨⟨_, true, rfl, HE.out⟩, hb1⟩)
            · have HE : Hid (RdDec s.data.toList 0 false) := HNO.out (Or.inr (Or.inr hd))
              have hcmp : (decL (-n0) == s.toList) = false := by rw [htl, beq_eq_false_iff_ne]; exact hd
              clear hd htl
              rcases hex with hx | ⟨hx, hx2⟩
              all_goals
                go_wp2_with (go_at_call 11; refine (sDec_any _ _ (by omega) (by omega)).mono ?_; rintro e w1 ⟨rfl, hb1⟩)
                all_goals (go_ret2; exact ⟨⟨0, false, rfl, HE.out⟩, hb1⟩)
      · have HNO : Hid (9 < c0 ∨ 10 < s.size ∨ decL n0 ≠ s.data.toList → RdDec s.data.toList 0 false) := by
          intro h; refine fin_no_plain _ hr ?_; rw [← HN.out, ← HC.out, HSS.out]; exact h
        have hfirst : ¬ 0 < s.size ∨ ∃ hp : 0 < s.size, ((s[0].toNat : Int) == 45) = false := by
          by_cases hp : 0 < s.size
          · refine Or.inr ⟨hp, ?_⟩
            rw [beq_eq_false_iff_ne]
            intro h
            have h2 : s[0] = 45 := UInt8.toNat_inj.1 (by have : (45 : UInt8).toNat = 45 := rfl; omega)
            have h3 : s.data.toList = s.data.toList[0]'(by rw [HSS.out]; exact hp) :: s.data.toList.drop 1 := by rw [← List.drop_eq_getElem_cons, List.drop_zero]
            have h4 : s.data.toList[0]'(by rw [HSS.out]; exact hp) = 45 := h2
            rw [h4] at h3
            exact hr _ h3
          · exact Or.inl hp
        clear hr
        rcases hfirst with hp | ⟨hp, hb0⟩
        · by_cases h9 : 9 < c0
          · rcases hex with hx | ⟨hx, hx2⟩
            all_goals
              go_wp2
              all_goals (go_ret2; exact ⟨⟨0, false, rfl, HNO.out (Or.inl h9)⟩, Below.refl _ _⟩)
          · by_cases h10 : 10 < s.size
            · rcases hex with hx | ⟨hx, hx2⟩
              all_goals
                go_wp2
                all_goals (go_ret2; exact ⟨⟨0, false, rfl, HNO.out (Or.inr (Or.inl h10))⟩, Below.refl _ _⟩)
            · have hn9 := HB9.out (by omega)
              by_cases hd : decL n0 = s.data.toList
              · have HE : Hid (RdDec s.data.toList n0 true) := Or.inl ⟨by omega, by omega, hd, rfl⟩
                have hcmp : (decL n0 == s.toList) = true := by rw [htl, beq_iff_eq]; exact hd
                clear hd htl
                rcases hex with hx | ⟨hx, hx2⟩
                all_goals
                  go_wp2_with (go_at_call 11; refine (sDec_any _ _ (by omega) (by omega)).mono ?_; rintro e w1 ⟨rfl, hb1⟩)
                  all_goals (go_ret2; exact ⟨⟨_, true, rfl, HE.out⟩, hb1⟩)
              · have HE : Hid (RdDec s.data.toList 0 false) := HNO.out (Or.inr (Or.inr hd))
                have hcmp : (decL n0 == s.toList) = false := by rw [htl, beq_eq_false_iff_ne]; exact hd
                clear hd htl
                rcases hex with hx | ⟨hx, hx2⟩
                all_goals
                  go_wp2_with (go_at_call 11; refine (sDec_any _ _ (by omega) (by omega)).mono ?_; rintro e w1 ⟨rfl, hb1⟩)
                  all_goals (go_ret2; exact ⟨⟨0, false, rfl, HE.out⟩, hb1⟩)
        · by_cases h9 : 9 < c0
          · rcases hex with hx | ⟨hx, hx2⟩
            all_goals
              go_wp2
              all_goals (go_ret2; exact ⟨⟨0, false, rfl, HNO.out (Or.inl h9)⟩, Below.refl _ _⟩)
          · by_cases h10 : 10 < s.size
            · rcases hex with hx | ⟨hx, hx2⟩
              all_goals
                go_wp2
                all_goals (go_ret2; exact ⟨⟨0, false, rfl, HNO.out (Or.inr (Or.inl h10))⟩, Below.refl _ _⟩)
            · have hn9 := HB9.out (by omega)
              by_cases hd : decL n0 = s.data.toList
              · have HE : Hid (RdDec s.data.toList n0 true) := Or.inl ⟨by omega, by omega, hd, rfl⟩
                have hcmp : (decL n0 == s.toList) = true := by rw [htl, beq_iff_eq]; exact hd
                clear hd htl
                rcases hex with hx | ⟨hx, hx2⟩
                all_goals
                  go_wp2_with (go_at_call 11; refine (sDec_any _ _ (by omega) (by omega)).mono ?_; rintro e w1 ⟨rfl, hb1⟩)
                  all_goals (go_ret2; exact ⟨⟨_, true, rfl, HE.out⟩, hb1⟩)
              · have HE : Hid (RdDec s.data.toList 0 false) := HNO.out (Or.inr (Or.inr hd))
                have hcmp : (decL n0 == s.toList) = false := by rw [htl, beq_eq_false_iff_ne]; exact hd
                clear hd htl
                rcases hex with hx | ⟨hx, hx2⟩
                all_goals
                  go_wp2_with (go_at_call 11; refine (sDec_any _ _ (by omega) (by omega)).mono ?_; rintro e w1 ⟨rfl, hb1⟩)
                  all_goals (go_ret2; exact ⟨⟨0, false, rfl, HE.out⟩, hb1⟩)

end Go.Proofs.Ytfpbdalkjhcbgaj
