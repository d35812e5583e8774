/- A bitmap: spec.BitsOk, Runs, FindRun, FreeOf, SetRun. -/
import Derived.Test.YtkbkanmmpdeokaaRows
import Derived.Test.YtkbkanmmpdeokaaBtT
import Derived.Test.YtkbkanmmpdeokaaRnR
import Derived.Test.YtkbkanmmpdeokaaBoL
namespace Go.Proofs.Ytkbkanmmpdeokaa
open Go.RowKit Go.Sort


theorem runStep_free {b : List Bool} {s : Nat × List Rn} {k : Nat} (h : k < b.length) (hb : b[k]! = false) : runStep b s k = s := by unfold runStep; rw [if_pos ⟨h, hb⟩]
theorem runStep_set {b : List Bool} {s : Nat × List Rn} {k : Nat} (h : ¬ (k < b.length ∧ b[k]! = false)) : runStep b s k = (k + 1, if s.1 < k then s.2 ++ [⟨s.1, (k : Int) - s.1⟩] else s.2) := by unfold runStep; rw [if_neg h]

end Go.Proofs.Ytkbkanmmpdeokaa
