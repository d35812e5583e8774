/- Devices: the bit of a mask; impl.choice.has. -/
import Derived.Test.YtpmdhoiodbjojaaRows
import Derived.Test.YtpmdhoiodbjojaaSDr
namespace Go.Proofs.Ytpmdhoiodbjojaa
open Go.RowKit

set_option maxRecDepth 100000 in
set_option maxHeartbeats 1000000 in
theorem has_any (c : Int) (i : Nat) (w : World) (hi : i < 64) :
    Calls Try.prog 38 #[.int .i64 c, .int .i64 i] w fun e w' => e = .returned (.bool (bitB c i)) ∧ w = w' := by
  have h0 : (0 : Int) ≤ (i : Int) := by omega
  have h1 : (i : Int) ≤ 64 := by omega
  by_cases hc : 0 ≤ c
  · have HE : Hid (bitB c i = (bits .and .i64 (c / 2 ^ i) 1 == 1)) := by show _ = _; unfold bitB; rw [decide_eq_true hc, Bool.true_and]
    go_enter Try.func38, Try.ntmps38
    go_wp2
    go_ret
    exact ⟨ret_bool HE.out.symm, rfl⟩
  · have HE : Hid (bitB c i = false) := by show _ = _; unfold bitB; rw [decide_eq_false hc, Bool.false_and]
    go_enter Try.func38, Try.ntmps38
    go_wp2
    go_ret
    exact ⟨ret_bool HE.out.symm, rfl⟩

end Go.Proofs.Ytpmdhoiodbjojaa
