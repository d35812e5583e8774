/- What spec.l1In, impl.widthOk, spec.ReadFixed and impl.ReadFixed answer, at every argument. -/
import Derived.Test.YtfdahfealibbnaaDoorRows
import Derived.Test.YtfdahfealibbnaaDoorNum
import Derived.WalkKit
import Derived.WalkSpells
import Derived.WalkLawsBesides
namespace Go.Proofs.YtfdahfealibbnaaDoor
open Go.RowKit

theorem in_any (x l h : Int) (w : World) :
    Calls Tryd.prog 43 #[.int .i64 x, .int .i64 l, .int .i64 h] w fun e w' => e = .returned (.bool (inB x l h)) ∧ w = w' := by
  go_enter Tryd.func43, Tryd.ntmps43
  go_wp2
  all_goals go_ret
  · exact ⟨ret_bool (by simp [inB]; omega), rfl⟩
  · exact ⟨ret_bool (by simp [inB]; omega), rfl⟩

theorem widthOk_any (x : Int) (w : World) :
    Calls Tryd.prog 60 #[.int .i64 x] w fun e w' => e = .returned (.bool (inB x 1 7)) ∧ w = w' := by
  go_enter Tryd.func60, Tryd.ntmps60
  go_wp2
  all_goals go_ret
  · exact ⟨ret_bool (by simp [inB]; omega), rfl⟩
  · exact ⟨ret_bool (by simp [inB]; omega), rfl⟩

end Go.Proofs.YtfdahfealibbnaaDoor
