/- What spec.ReadVar and impl.ReadVar answer, at every string. -/
import Derived.Test.YtfpbdalkjhcbgaaRows
import Derived.Test.YtfpbdalkjhcbgaaVarNum
import Derived.Test.YtfpbdalkjhcbgaaVr
import Derived.WalkKit
import Derived.WalkSpells
import Derived.WalkLawsBesides
import Derived.Deep.RegionWith
namespace Go.Proofs.Ytfpbdalkjhcbgaa
open Go.RowKit

set_option maxRecDepth 100000 in
set_option maxHeartbeats 400000 in
theorem iReadVar_any (s : ByteArray) (w : World) (hs : s.size ≤ maxLen) :
    Calls Try.prog 8 #[.string s] w fun e w' => ∃ n k : Int, e = .returned (.tuple #[.int .i64 n, .int .i64 k]) ∧ RdVar s.data.toList n k ∧ w = w' := by
  unfold maxLen at hs
  go_enter Try.func8, Try.ntmps8
  go_wp2
  all_goals
    go_loop [4, 10] (fun v i => ∃ k : Nat, k ≤ 7 ∧ k ≤ s.size ∧ i = .int .i64 k ∧ v = .int .i64 (leV (s.data.toList.take k)) ∧ high (s.data.toList.take k)) (fun _ i => 7 - (intOf i).toNat)
    case atStart => exact ⟨0, by omega, Nat.zero_le _, rfl, rfl, by simp [high]⟩
    case round =>
      obtain ⟨k, hk7, hks, rfl, rfl, hh⟩ := hrel
      have HH : Hid (high (s.data.toList.take k)) := hh
      clear hh
      by_cases hlt : k < 7 ∧ k < s.size
      · obtain ⟨h7, hsz⟩ := hlt
        have hd : 0 ≤ leV (s.data.toList.take k) ∧ leV (s.data.toList.take k) ≤ 562949953421311 := by have := leV_bd (s.data.toList.take k) 7 (by simp; omega); omega
        have hc := s[k].toNat_lt
        have HT : Hid (s.data.toList.take (k + 1) = s.data.toList.take k ++ [s[k]]) := take_snoc s k hsz
        have HO : Hid (bits .or .i64 (leV (s.data.toList.take k)) (wrap64 ((s[k].toNat : Int) % 128 * 2 ^ (7 * k))) = leV (s.data.toList.take (k + 1))) := by
          rw [HT.out]; exact or7 _ k _ (by simp; omega) h7
        by_cases hb : 128 ≤ s[k].toNat
        · go_wp2
          go_round
          case rel => exact ⟨k + 1, by omega, by omega, by go_num, by rw [HO.out], by rw [HT.out]; exact high_snoc _ _ HH.out hb⟩
          case measure => simp [intOf]; omega
        · by_cases hz : s[k].toNat = 0 ∧ 0 < k
          · have hz1 : ((s[k].toNat : Int) == 0) = true := by rw [beq_iff_eq]; omega
            have hz2 : 0 < k := hz.2
            have HR : Hid (RdVar s.data.toList 0 0) := rd_nought _ k _ HT.out (by simpa using hsz) HH.out (UInt8.toNat_inj.1 (by simpa using hz.1)) hz.2
            clear hz
            go_wp2
            go_ret2
            exact ⟨0, 0, rfl, HR.out, rfl⟩
          · have HR : Hid (RdVar s.data.toList (leV (s.data.toList.take (k + 1))) ((k : Int) + 1)) := rd_some _ k _ HT.out (by simpa using hsz) h7 HH.out (by omega) (fun h => hz ⟨by rw [h.1]; rfl, h.2⟩)
            by_cases hz1 : s[k].toNat = 0
            · have hz2 : k ≤ 0 := by omega
              have hz3 : ((s[k].toNat : Int) == 0) = true := by rw [beq_iff_eq]; omega
              clear hz hz1
              go_wp2
              go_ret2
              refine ⟨_, _, rfl, ?_, rfl⟩
              rw [HO.out]
              exact HR.out
            · have hz3 : ((s[k].toNat : Int) == 0) = false := by rw [beq_eq_false_iff_ne]; omega
              clear hz
              go_wp2
              go_ret2
              refine ⟨_, _, rfl, ?_, rfl⟩
              rw [HO.out]
              exact HR.out
      · have HR : Hid (RdVar s.data.toList 0 0) := rd_end _ k (by simp; omega) HH.out
        go_wp2
        go_ret2
        exact ⟨0, 0, rfl, HR.out, rfl⟩

end Go.Proofs.Ytfpbdalkjhcbgaa
