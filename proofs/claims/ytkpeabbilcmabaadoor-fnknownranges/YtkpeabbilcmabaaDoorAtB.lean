/- laws.at of the bytes: some number from 0 to 255. -/
import Derived.Test.YtkpeabbilcmabaaDoorRows
import Derived.Test.YtkpeabbilcmabaaDoorSrcD
import Derived.Test.YtkpeabbilcmabaaDoorNum
import Derived.WalkSpells
namespace Go.Proofs.YtkpeabbilcmabaaDoor
open Go.RowKit

set_option maxRecDepth 100000 in
theorem atB_any (S : Src) (ok : S.ok) (j : Nat) (hj : j ≤ 100) :
    ∃ x : Int, 0 ≤ x ∧ x ≤ 255 ∧ ∀ w', Lies S w' → Calls Tryd.prog 7 #[.slice S.a S.len S.cap, .int .i64 j] w' fun e w'' => e = .returned (.int .i64 x) ∧ w' = w'' := by
  have hlen : S.len ≤ 1048576 := ok.1
  have hb := ok.2 j
  by_cases h : j < S.len
  · refine ⟨S.zs.getD j 0, hb.1, hb.2, fun w' hl' => ?_⟩
    obtain ⟨b, off, ha, hc1⟩ := hl' j h
    rw [ha]
    generalize S.zs.getD j 0 = x at hc1 hb ⊢
    have h' : (j : Int) < (S.len : Int) := by omega
    have h0 : (0 : Int) ≤ (j : Int) := by omega
    have hwx : IntKind.i64.wrap x = x := by rw [IntKind.wrap_i64]; omega
    go_enter Tryd.func7, Tryd.ntmps7
    go_wp2
    go_ret
    exact ⟨ret_int (by first | rfl | (simp; done) | (simp; omega)), rfl⟩
  · have hm : 0 ≤ ((j : Int) * 37 + (S.len : Int) * 11).tmod 256 ∧ ((j : Int) * 37 + (S.len : Int) * 11).tmod 256 ≤ 255 := by
      rw [Int.tmod_eq_emod_of_nonneg (by omega)]; omega
    refine ⟨((j : Int) * 37 + (S.len : Int) * 11).tmod 256, hm.1, hm.2, fun w' _ => ?_⟩
    have hjl : ¬ ((j : Int) < (S.len : Int)) := by omega
    have w1 : IntKind.i64.wrap ((j : Int) * 37) = (j : Int) * 37 := by rw [IntKind.wrap_i64]; omega
    have w2 : IntKind.i64.wrap ((S.len : Int) * 11) = (S.len : Int) * 11 := by rw [IntKind.wrap_i64]; omega
    have w3 : IntKind.i64.wrap ((j : Int) * 37 + (S.len : Int) * 11) = (j : Int) * 37 + (S.len : Int) * 11 := by rw [IntKind.wrap_i64]; omega
    generalize S.len = n at *
    go_enter Tryd.func7, Tryd.ntmps7
    go_wp2
    go_ret
    first
      | exact ⟨ret_int (by first | rfl | (simp; done) | (simp; omega)), rfl⟩
      | exact ⟨ret_int (by rw [w1, w2, w3]; rfl), rfl⟩

end Go.Proofs.YtkpeabbilcmabaaDoor
