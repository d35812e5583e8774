/- The walk of the exact law of Pair, over whatever contract of the program's function holds in every world that has the old blocks of the first. -/
import Derived.Test.YtkgnlamlmnhleaaRows
import Derived.Test.YtkgnlamlmnhleaaSPa
import Derived.WalkKit
import Derived.WalkSpells
import Derived.WalkLawsBesides
namespace Go.Proofs.Ytkgnlamlmnhleaa
open Go.RowKit

set_option maxRecDepth 100000 in
theorem wPair (a b : Int) (w : World) (hI : ∀ w', Below w.heap.size w w' → Calls Try.prog 13 #[.int .i64 a, .int .i64 b] w' fun e w'' => e = .returned (pairV (pairN a b)) ∧ Below w'.heap.size w' w'') :
    Calls Try.prog 4 #[.int .i64 a, .int .i64 b] w fun e w' => e = .returned (.bool true) ∧ Below w.heap.size w w' := by
  have hS := sPair a b w
  unfold pairV at hI hS
  generalize (pairN a b).getD 0 = x at hI hS
  generalize (pairN a b).isSome = y at hI hS
  go_enter Try.func4, Try.ntmps4
  go_wp2_with fail
  refine hS.mono ?_
  rintro e w1 ⟨rfl, b1⟩
  go_wp2_with fail
  refine (hI w1 b1).mono ?_
  rintro e w2 ⟨rfl, b2⟩
  have hx : (x == x) = true := by simp
  cases y
  all_goals
    go_wp2
    go_ret
    exact ⟨rfl, b1.trans (b2.mono b1.size)⟩

end Go.Proofs.Ytkgnlamlmnhleaa
