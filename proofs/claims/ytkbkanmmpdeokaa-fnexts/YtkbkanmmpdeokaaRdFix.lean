/- What spec.l1In, impl.widthOk, spec.ReadFixed and impl.ReadFixed answer, at every argument. -/
import Derived.Test.YtkbkanmmpdeokaaRows
import Derived.Test.YtkbkanmmpdeokaaNum
import Derived.WalkKit
import Derived.WalkSpells
import Derived.WalkLawsBesides
namespace Go.Proofs.Ytkbkanmmpdeokaa
open Go.RowKit

theorem in_any (x l h : Int) (w : World) :
    Calls Try.prog 42 #[.int .i64 x, .int .i64 l, .int .i64 h] w fun e w' => e = .returned (.bool (inB x l h)) ∧ w = w' := by
  go_enter Try.func42, Try.ntmps42
  go_wp2
  all_goals go_ret
  · exact ⟨ret_bool (by simp [inB]; omega), rfl⟩
  · exact ⟨ret_bool (by simp [inB]; omega), rfl⟩





end Go.Proofs.Ytkbkanmmpdeokaa
