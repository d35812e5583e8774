/- What spec.l1In, impl.widthOk, spec.ReadFixed and impl.ReadFixed answer, at every argument. -/
import Derived.Test.YtkgnlamlmnhleaaDoorRows
import Derived.Test.YtkgnlamlmnhleaaDoorNum
import Derived.WalkKit
import Derived.WalkSpells
import Derived.WalkLawsBesides
namespace Go.Proofs.YtkgnlamlmnhleaaDoor
open Go.RowKit

theorem in_any (x l h : Int) (w : World) :
    Calls Tryd.prog 29 #[.int .i64 x, .int .i64 l, .int .i64 h] w fun e w' => e = .returned (.bool (inB x l h)) ∧ w = w' := by
  go_enter Tryd.func29, Tryd.ntmps29
  go_wp2
  all_goals go_ret
  · exact ⟨ret_bool (by simp [inB]; omega), rfl⟩
  · exact ⟨ret_bool (by simp [inB]; omega), rfl⟩





end Go.Proofs.YtkgnlamlmnhleaaDoor
