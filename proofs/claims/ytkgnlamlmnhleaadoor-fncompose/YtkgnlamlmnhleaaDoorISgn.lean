/- Signs: impl.isSign. -/
import Derived.Test.YtkgnlamlmnhleaaDoorRows
import Derived.Test.YtkgnlamlmnhleaaDoorSgn
import Derived.Test.YtkgnlamlmnhleaaDoorIBtw
import Derived.WalkKit
import Derived.WalkSpells
import Derived.WalkLawsBesides
namespace Go.Proofs.YtkgnlamlmnhleaaDoor
open Go.RowKit

theorem isSign_any (c : Int) (w : World) :
    Calls Tryd.prog 61 #[.int .i64 c] w fun e w' => e = .returned (.bool (sgnB c)) ∧ w = w' := by
  have HR : Hid (sgnB c = (inB c 0 1114111 && !inB c 55296 57343)) := rfl
  cases h1 : inB c 0 1114111
  · go_enter Tryd.func61, Tryd.ntmps61
    go_wp2_with (go_at_call 35; refine (btw_any _ _ _ _).mono ?_; rintro e w' ⟨rfl, rfl⟩)
    go_ret
    exact ⟨by rw [HR.out, h1]; rfl, rfl⟩
  · go_enter Tryd.func61, Tryd.ntmps61
    go_wp2_with (go_at_call 35; refine (btw_any _ _ _ _).mono ?_; rintro e w' ⟨rfl, rfl⟩)
    go_ret
    exact ⟨by rw [HR.out, h1]; simp, rfl⟩

end Go.Proofs.YtkgnlamlmnhleaaDoor
