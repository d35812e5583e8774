/- The walk of an exact law of chapter 3, over whatever contract of the program's function holds in every world that has the old blocks of the first. -/
import Derived.Test.YtappmenbhddaiakDoorRows
import Derived.Test.YtappmenbhddaiakDoorKno
import Derived.WalkKit
import Derived.WalkSpells
import Derived.WalkLawsBesides
namespace Go.Proofs.YtappmenbhddaiakDoor
open Go.RowKit

theorem wKnown (c : Int) (w : World) (hI : ∀ w', Below w.heap.size w w' → Calls Tryd.prog 5 #[.int .i64 c] w' fun e w'' => e = .returned (.bool (knB c)) ∧ Below w'.heap.size w' w'') :
    Calls Tryd.prog 3 #[.int .i64 c] w fun e w' => e = .returned (.bool true) ∧ Below w.heap.size w w' := by
  have hS := sKnown c w
  generalize knB c = r at hI hS
  go_enter Tryd.func3, Tryd.ntmps3
  go_wp2_with fail
  refine hS.mono ?_
  rintro e w1 ⟨rfl, hb1⟩
  go_wp2_with fail
  refine (hI w1 hb1).mono ?_
  rintro e w2 ⟨rfl, hb2⟩
  go_wp2
  go_ret
  exact ⟨rfl, hb1.trans (hb2.mono hb1.size)⟩

end Go.Proofs.YtappmenbhddaiakDoor
