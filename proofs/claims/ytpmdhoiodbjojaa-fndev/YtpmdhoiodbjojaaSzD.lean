/- Draws: spec.l1Size. -/
import Derived.Test.YtpmdhoiodbjojaaRows
import Derived.Test.YtpmdhoiodbjojaaCur
namespace Go.Proofs.Ytpmdhoiodbjojaa
open Go.RowKit

set_option maxRecDepth 100000 in
set_option maxHeartbeats 1000000 in
theorem size_any (S : Src) (ok : S.ok) (m : Int) (hm : 0 ≤ m) (hm2 : m ≤ 1000) (w : World) :
    Calls Try.prog 36 #[.slice S.a S.len S.cap, .int .i64 m] w fun e w' => ∃ r : Int, r ≤ 1000 ∧ e = .returned (.int .i64 r) ∧ w = w' := by
  obtain ⟨a, len, cap, zs⟩ := S
  have hlen : len ≤ 1048576 := ok.1
  have hq : (len : Int).tdiv 20 = ((len / 20 : Nat) : Int) := by rw [Int.tdiv_eq_ediv_of_nonneg (by omega)]; omega
  have hq2 : (len : Int) / 20 = ((len / 20 : Nat) : Int) := by omega
  obtain ⟨b, HB⟩ : ∃ b, Hid (b = len / 20) := ⟨_, rfl⟩
  rw [← HB.out] at hq hq2
  have hb : b ≤ 1048576 := by rw [HB.out]; omega
  have hw1 : IntKind.i64.wrap (2 + (b : Int)) = 2 + (b : Int) := by rw [IntKind.wrap_i64]; omega
  have hw2 : IntKind.i64.wrap (b : Int) = (b : Int) := by rw [IntKind.wrap_i64]; omega
  dsimp only
  by_cases h : m < 2 + (b : Int)
  · go_enter Try.func36, Try.ntmps36
    go_wp2
    go_ret
    exact ⟨m, hm2, rfl, rfl⟩
  · go_enter Try.func36, Try.ntmps36
    go_wp2
    go_ret
    exact ⟨_, by omega, rfl, rfl⟩

end Go.Proofs.Ytpmdhoiodbjojaa
