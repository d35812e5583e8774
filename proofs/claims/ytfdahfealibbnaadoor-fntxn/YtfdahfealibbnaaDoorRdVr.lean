/- What spec.ReadVar and impl.ReadVar answer, at every string. -/
import Derived.Test.YtfdahfealibbnaaDoorRows
import Derived.Test.YtfdahfealibbnaaDoorVarNum
import Derived.Test.YtfdahfealibbnaaDoorVr
import Derived.WalkKit
import Derived.WalkSpells
import Derived.WalkLawsBesides
import Derived.Deep.RegionWith
namespace Go.Proofs.YtfdahfealibbnaaDoor
open Go.RowKit

set_option maxRecDepth 100000 in
set_option maxHeartbeats 400000 in
theorem iReadVar_any (s : ByteArray) (w : World) (hs : s.size ≤ maxLen) :
    Calls Tryd.prog 64 #[.string s] w fun e w' => ∃ n k : Int, e = .returned (.tuple #[.int .i64 n, .int .i64 k]) ∧ RdVar s.data.toList n k ∧ w = w' := by
  unfold maxLen at hs
  go_enter Tryd.func64, Tryd.ntmps64
  go_wp2
  all_goals
    go_loop [4, 10] (fun v i => ∃ k : Nat, k ≤ 7 ∧ k ≤ s.size ∧ i = .int .i64 k ∧ v = .int .i64 (leV (s.data.toList.take k)) ∧ high (s.data.toList.take k)) (fun _ i => 7 - (intOf i).toNat)
    case atStart => exact ⟨0, by omega, Nat.zero_le _, rfl, rfl, by simp [high]⟩
    case round =>
      obtain ⟨k, hk7, hks, rfl, rfl, hh⟩ := hrel
      have HH : Hid (high (s.data.toList.take k)) := hh
      clear hh
      by_cases hlt : k < 7 ∧ k < s.size
      · obtain ⟨h7, hsz⟩ := hlt
        have hd : 0 ≤ leV (s.data.toList.take k) ∧ leV (s.data.toList.take k) ≤ 562949953421311 := by have := leV_bd (s.data.toList.take k) 7 (by simp; omega); omega
        have hc := s[k].toNat_lt
        have HT : Hid (s.data.toList.take (k + 1) = s.data.toList.take k ++ [s[k]]) := take_snoc s k hsz
        have HO : Hid (bits .or .i64 (leV (s.data.toList.take k)) (wrap64 ((s[k].toNat : Int) % 128 * 2 ^ (7 * k))) = leV (s.data.toList.take (k + 1))) := by
          rw [HT.out]; exact or7 _ k _ (by simp; omega) h7
        by_cases hb : 128 ≤ s[k].toNat
        · go_wp2
          go_round
          case rel => exact ⟨k + 1, by omega, by omega, by go_num, by rw [HO.out], by rw [HT.out]; exact high_snoc _ _ HH.out hb⟩
          case measure => simp [intOf]; omega
        · by_cases hz : s[k].toNat = 0 ∧ 0 < k
          · have hz1 : ((s[k].toNat : Int) == 0) = true := by rw [beq_iff_eq]; omega
            have hz2 : 0 < k := hz.2
            have HR : Hid (RdVar s.data.toList 0 0) := rd_nought _ k _ HT.out (by simpa using hsz) HH.out (UInt8.toNat_inj.1 (by simpa using hz.1)) hz.2
            clear hz
            go_wp2
            go_ret2
            exact ⟨0, 0, rfl, HR.out, rfl⟩
          · have HR : Hid (RdVar s.data.toList (leV (s.data.toList.take (k + 1))) ((k : Int) + 1)) := rd_some _ k _ HT.out (by simpa using hsz) h7 HH.out (by omega) (fun h => hz ⟨by rw [h.1]; rfl, h.2⟩)
            by_cases hz1 : s[k].toNat = 0
            · have hz2 : k ≤ 0 := by omega
              have hz3 : ((s[k].toNat : Int) == 0) = true := by rw [beq_iff_eq]; omega
              clear hz hz1
              go_wp2
              go_ret2
              refine ⟨_, _, rfl, ?_, rfl⟩
              rw [HO.out]
              exact HR.out
            · have hz3 : ((s[k].toNat : Int) == 0) = false := by rw [beq_eq_false_iff_ne]; omega
              clear hz
              go_wp2
              go_ret2
              refine ⟨_, _, rfl, ?_, rfl⟩
              rw [HO.out]
              exact HR.out
      · have HR : Hid (RdVar s.data.toList 0 0) := rd_end _ k (by simp; omega) HH.out
        go_wp2
        go_ret2
        exact ⟨0, 0, rfl, HR.out, rfl⟩

set_option maxRecDepth 100000 in
set_option maxHeartbeats 400000 in
theorem sReadVar_any (s : ByteArray) (w : World) (hs : s.size ≤ maxLen) :
    Calls Tryd.prog 50 #[.string s] w fun e w' => ∃ n k : Int, e = .returned (.tuple #[.int .i64 n, .int .i64 k]) ∧ RdVar s.data.toList n k ∧ Below w.heap.size w w' := by
  unfold maxLen at hs
  go_enter Tryd.func50, Tryd.ntmps50
  go_wp2
  go_loopw [4] (fun v wr => ∃ k : Nat, 1 ≤ k ∧ k ≤ 8 ∧ k ≤ s.size + 1 ∧ v = .int .i64 k ∧ (∀ j, 1 ≤ j → j < k → isV (s.data.toList.take j) = false) ∧ Below w.heap.size w wr) (fun v _ => 8 - (intOf v).toNat)
  case atStart => exact ⟨1, by omega, by omega, by omega, rfl, fun j h1 h2 => by omega, Below.refl _ _⟩
  case round =>
    obtain ⟨k, hk1, hk8, hks, rfl, hno, hbel⟩ := hrel
    have HN : Hid (∀ j, 1 ≤ j → j < k → isV (s.data.toList.take j) = false) := hno
    clear hno
    by_cases hlt : k < 8 ∧ k ≤ s.size
    · obtain ⟨h8, hsz⟩ := hlt
      go_wp2
      go_loop [5, 6] (fun v i => ∃ j : Nat, j ≤ k ∧ i = .int .i64 ((j : Int) - 1) ∧ v = .int .i64 (leV ((s.data.toList.take k).drop j))) (fun _ i => (intOf i + 1).toNat)
      case atStart => exact ⟨k, Nat.le_refl _, rfl, by rw [List.drop_of_length_le (by simp; omega)]; rfl⟩
      case round =>
        obtain ⟨j, hjk, rfl, rfl⟩ := hrel
        by_cases hj : 1 ≤ j
        · obtain ⟨i, rfl⟩ : ∃ i, j = i + 1 := ⟨j - 1, by omega⟩
          have his : i < s.size := by omega
          have HD : Hid (leV ((s.data.toList.take k).drop i) = (s[i].toNat : Int) % 128 + 128 * leV ((s.data.toList.take k).drop (i + 1))) := by
            have hi : i < (s.data.toList.take k).length := by simp; omega
            rw [List.drop_eq_getElem_cons hi, leV, List.getElem_take]; rfl
          have hd : 0 ≤ leV ((s.data.toList.take k).drop (i + 1)) ∧ leV ((s.data.toList.take k).drop (i + 1)) ≤ 4398046511103 := by have := leV_bd ((s.data.toList.take k).drop (i + 1)) 6 (by simp; omega); omega
          have hc := s[i].toNat_lt
          go_wp2
          go_round
          case rel => exact ⟨i, by omega, rfl, by rw [HD.out]; go_num⟩
          case measure => simp [intOf]
        · obtain rfl : j = 0 := by omega
          rw [List.drop_zero]
          have hbm : inB (leV (s.data.toList.take k)) 0 562949953421311 = true := by
            have := leV_bd (s.data.toList.take k) 7 (by simp; omega)
            exact inB_mk (by omega) (by omega)
          have HV := varL_isV (s.data.toList.take k) 6 (by simp; omega) (by intro h; have := congrArg List.length h; rw [List.length_take, List.length_nil, Array.length_toList] at this; have hss : s.data.size = s.size := rfl; omega)
          have HV2 : Hid (varL 6 (leV (s.data.toList.take k)) = s.data.toList.take k ↔ isV (s.data.toList.take k) = true) := HV
          clear HV
          obtain ⟨m, HM⟩ : ∃ m, Hid (m = leV (s.data.toList.take k)) := ⟨_, rfl⟩
          rw [← HM.out] at hbm HV2 ⊢
          go_wp2
          go_region_with (go_at_call 21; refine (sVar_yes _ _ hbm).mono ?_; rintro e w1 ⟨rfl, hb1⟩)
          have hbel1 : Below w.heap.size w w1 := hbel.drew.trans (hb1.mono hbel.size)
          clear hb1 hbm
          have het := ext_take s k
          have hcmp : (varL 6 m == (s.extract 0 k).toList) = isV (s.data.toList.take k) := by
            rw [het, Bool.eq_iff_iff, beq_iff_eq]; exact HV2.out
          rw [hcmp]
          clear hcmp het
          cases hv : isV (s.data.toList.take k)
          · go_wp2
            go_roundw
            case rel =>
              refine ⟨k + 1, by omega, by omega, by omega, by go_num, fun j h1 h2 => ?_, hbel1⟩
              by_cases hjk : j < k
              · exact HN.out j h1 hjk
              · rw [show j = k from by omega]; exact hv
            case measure => simp [intOf]; omega
          · go_wp2
            go_ret2
            exact ⟨m, k, rfl, Or.inl ⟨k, hk1, by omega, by simpa using hsz, hv, HM.out, rfl⟩, hbel1⟩
    · have HR : Hid (RdVar s.data.toList 0 0) := Or.inr ⟨fun j h1 h2 h3 => HN.out j h1 (by rw [Array.length_toList] at h3; have hss : s.data.size = s.size := rfl; omega), rfl, rfl⟩
      by_cases h8 : k ≤ 7
      · go_wp2
        go_ret2
        exact ⟨0, 0, rfl, HR.out, hbel⟩
      · go_wp2
        go_ret2
        exact ⟨0, 0, rfl, HR.out, hbel⟩

end Go.Proofs.YtfdahfealibbnaaDoor
