/- Ranges of signs: spec.RangesOk, InRanges, CountOf. -/
import Derived.Test.YtkpeabbilcmababDoorRows
import Derived.Test.YtkpeabbilcmababDoorRgR
import Derived.Test.YtkpeabbilcmababDoorRdFix
import Derived.WalkKit
import Derived.WalkSpells
import Derived.WalkLawsBesides
import Derived.Deep.QuietTactic
import Derived.BigQuiet
import Derived.Deep.Onto
import Derived.Lib.QuietBelow
namespace Go.Proofs.YtkpeabbilcmababDoor
open Go.RowKit Go.Sort

theorem inQ_any (x a b : Int) (w : World) (d : Nat) (os : Array Obj) :
    Calls Tryd.prog 13 #[.int .i64 x, .int .i64 a, .int .i64 b] (grow (redrawn w d) os) fun e w'' => e = .returned (.bool (inB x a b)) ∧ ∃ p : Regrown, w'' = grow (redrawn w p.d) p.os :=
  Calls.regrown_of ((in_any x a b _).mono fun _ _ h => ⟨h.1, h.2 ▸ Below.refl _ _⟩)
theorem rgOk_in (p : Int) (r : Rg) : rgOk p r = (decide (p < r.a) && inB r.a 0 1114111 && inB r.b r.a 1114111) := by
  simp only [rgOk, inB, Bool.and_assoc]



/-- the sum of the first ones -/
theorem rgSum_take (l : List Rg) (k : Nat) (h : k < l.length) : rgSum (l.take (k + 1)) = rgSum (l.take k) + l[k]!.b - l[k]!.a + 1 := by
  rw [List.take_succ_eq_append_getElem h, rgSum_append, getElem!_pos l k h]
  simp only [rgSum]; omega
theorem RgR.take {l : List Rg} (h : RgR l) (k : Nat) : RgR (l.take k) := ⟨h.gap.sublist (List.take_sublist _ _), fun r hr => h.one r (List.mem_of_mem_take hr)⟩

end Go.Proofs.YtkpeabbilcmababDoor
