/- spec.Crc: its contract. -/
import Derived.Test.YtfdahfealibbnaaDoorRows
import Derived.Test.YtfdahfealibbnaaDoorCrcNum
import Derived.WalkKit
import Derived.WalkSpells
import Derived.WalkLawsBesides
namespace Go.Proofs.YtfdahfealibbnaaDoor
open Go.RowKit

theorem crcN_succ (s : ByteArray) (k : Nat) (h : k < s.size) : crcN s (k + 1) = hvN 8 (crcN s k ^^^ s[k].toNat) := by
  show hvN 8 (crcN s k ^^^ (s.data.getD k 0).toNat) = _
  have : s.data.getD k 0 = s[k] := by
    have h' : k < s.data.size := h
    rw [Array.getD, dif_pos h']; rfl
  rw [this]

set_option maxRecDepth 100000 in
set_option maxHeartbeats 400000 in
theorem sCrc (s : ByteArray) (hs : s.size ≤ 1048576) (w : World) :
    Calls Tryd.prog 24 #[.string s] w fun e w' => e = .returned (.int .i64 (4294967295 - (crcN s s.size : Int))) ∧ w = w' := by
  go_enter Tryd.func24, Tryd.ntmps24
  go_wp2
  go_loop [3, 4] (fun v i => ∃ k : Nat, k ≤ s.size ∧ i = .int .i64 k ∧ v = .int .i64 (crcN s k : Int)) (fun _ i => s.size - (intOf i).toNat)
  case atStart => exact ⟨0, Nat.zero_le _, rfl, rfl⟩
  case round =>
    obtain ⟨k, hk, rfl, rfl⟩ := hrel
    by_cases hlt : k < s.size
    · have HS : Hid (crcN s (k + 1) = hvN 8 (crcN s k ^^^ s[k].toNat)) := crcN_succ s k hlt
      have hb := s[k].toNat_lt
      have hc := crcN_lt s k
      obtain ⟨c, HC⟩ : ∃ c, Hid (c = crcN s k) := ⟨_, rfl⟩
      rw [← HC.out] at hc HS ⊢
      generalize hbe : s[k].toNat = b at hb HS
      have hx : bits .xor .i64 (c : Int) (b : Int) = ((c ^^^ b : Nat) : Int) := xor_i64 c b hc (by omega)
      have hd := xor_byte_lt c b hc hb
      obtain ⟨d, HD⟩ : ∃ d, Hid (d = c ^^^ b) := ⟨_, rfl⟩
      rw [← HD.out] at hx hd HS
      go_wp2
      go_loop [3, 5] (fun v j => ∃ m : Nat, m ≤ 8 ∧ j = .int .i64 m ∧ v = .int .i64 (hvN m d : Int)) (fun _ j => 8 - (intOf j).toNat)
      case atStart => exact ⟨0, by omega, rfl, rfl⟩
      case round =>
        obtain ⟨m, hm, rfl, rfl⟩ := hrel
        by_cases hm8 : m < 8
        · have hy := hvN_lt m d hd
          have HM : Hid (hvN (m + 1) d = hv (hvN m d)) := rfl
          obtain ⟨y, HY⟩ : ∃ y, Hid (y = hvN m d) := ⟨_, rfl⟩
          rw [← HY.out] at hy HM ⊢
          by_cases ho : y % 2 = 1
          · have hxp : bits .xor .i64 ((y : Int) / 2) 2197175160 = ((y / 2 ^^^ 2197175160 : Nat) : Int) := xor_i64 (y / 2) 2197175160 (by omega) (by omega)
            have ho' : (y : Int) % 2 = 1 := by omega
            have HV : Hid (hv y = y / 2 ^^^ 2197175160) := if_pos ho
            go_wp2
            go_round
            case rel => exact ⟨m + 1, by omega, by go_num, by rw [HM.out, HV.out]⟩
            case measure => simp [intOf]; omega
          · have ho' : (y : Int) % 2 = 0 := by omega
            have HV : Hid (hv y = y / 2) := if_neg ho
            go_wp2
            go_round
            case rel => exact ⟨m + 1, by omega, by go_num, by rw [HM.out, HV.out]; simp⟩
            case measure => simp [intOf]; omega
        · obtain rfl : m = 8 := by omega
          go_wp2
          go_round
          case rel => exact ⟨k + 1, by omega, by go_num, by rw [HS.out]⟩
          case measure => simp [intOf]; omega
    · obtain rfl : k = s.size := by omega
      have hc := crcN_lt s s.size
      go_wp2
      go_ret
      exact ⟨rfl, rfl⟩

end Go.Proofs.YtfdahfealibbnaaDoor
