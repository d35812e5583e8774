/- FindRun's law, given what both sides answer. Made by mkwex.py. -/
import Derived.Test.YthnpjlnilkbamaaDoorRows
import Derived.Test.YthnpjlnilkbamaaDoorOwK
import Derived.Test.YthnpjlnilkbamaaDoorBoL
namespace Go.Proofs.YthnpjlnilkbamaaDoor
open Go.RowKit Go.Sort

set_option maxRecDepth 100000 in
set_option maxHeartbeats 4000000 in
theorem wFindRun (v0 : Value) (l0 : List Bool) (l1 : Int) (M0 : Int) (w : World) (hv0 : BosAt w v0 l0) (hc0 : l0.length ≤ 9223372036854775807) 
    (hS : l0.length ≤ 1048576 → ∀ w' u0, Below w.heap.size w w' → BosAt w' u0 l0 → Calls Tryd.prog 16 #[u0, .int .i64 l1] w' fun e w'' => e = .returned (.int .i64 M0) ∧ Below w'.heap.size w' w'')
    (hI : l0.length ≤ 1048576 → ∀ w' u0, Below w.heap.size w w' → BosAt w' u0 l0 → Calls Tryd.prog 15 #[u0, .int .i64 l1] w' fun e w'' => e = .returned (.int .i64 M0) ∧ Below w'.heap.size w' w'') :
    Calls Tryd.prog 5 #[v0, .int .i64 l1] w fun e w' => e = .returned (.bool true) ∧ Below w.heap.size w w' := by
  obtain ⟨a0, ca0, ev0⟩ : ∃ a ca, v0 = .slice a l0.length ca := by obtain ⟨a, ca, e, _⟩ := hv0; exact ⟨a, ca, e⟩
  subst ev0
  by_cases hbig : (1048576 : Int) < l0.length
  · go_enter Tryd.func5, Tryd.ntmps5
    go_wp2_with fail
    go_ret
    exact ⟨rfl, Below.refl _ _⟩
  have k0 : l0.length ≤ 1048576 := by omega
  go_enter Tryd.func5, Tryd.ntmps5
  have hS := hS k0
  have hI := hI k0
  go_wp2_with fail
  refine (toBoS_any _ l0 w k0 (hv0.below (Below.refl _ _))).mono ?_
  rintro e w1 ⟨p0, rfl, t1, b1⟩
  have B1 : Below w.heap.size w w1 := b1
  have z1 := b1.size
  have p0_1 := OwB.new t1
  go_wp2_with fail
  refine (hS w1 p0 B1 (show BoRow _ _ _ _ from p0_1.row).at).mono ?_
  rintro e w2 ⟨rfl, b2⟩
  have B2 : Below w.heap.size w w2 := B1.trans (b2.mono B1.size)
  have z2 := b2.size
  have p0_2 := p0_1.below b2
  go_wp2_with fail
  refine (toBoS_any _ l0 w2 k0 (hv0.below B2)).mono ?_
  rintro e w3 ⟨x0, rfl, t3, b3⟩
  have B3 : Below w.heap.size w w3 := B2.trans (b3.mono B2.size)
  have z3 := b3.size
  have x0_3 := OwB.new t3
  go_wp2_with fail
  refine (hI w3 x0 B3 (show BoRow _ _ _ _ from x0_3.row).at).mono ?_
  rintro e w4 ⟨rfl, b4⟩
  have B4 : Below w.heap.size w w4 := B3.trans (b4.mono B3.size)
  have z4 := b4.size
  have x0_4 := x0_3.below b4
  have hb0 : (M0 != M0) = false := by simp
  go_wp2_with fail
  refine (toBoS_any _ l0 w4 k0 (hv0.below B4)).mono ?_
  rintro e w5 ⟨y0, rfl, t5, b5⟩
  have B5 : Below w.heap.size w w5 := B4.trans (b5.mono B4.size)
  have z5 := b5.size
  have x0_5 := x0_4.below b5
  have y0_5 := OwB.new t5
  go_wp2_with fail
  refine (eqBoS_any x0 y0 l0 l0 w5 (by omega) (show BoRow _ _ _ _ from x0_5.row).at (show BoRow _ _ _ _ from y0_5.row).at).mono ?_
  rintro e w6 ⟨rfl, b6⟩
  rw [decide_eq_true rfl]
  have B6 : Below w.heap.size w w6 := B5.trans (b6.mono B5.size)
  have z6 := b6.size
  have x0_6 := x0_5.below b6
  have y0_6 := y0_5.below b6
  go_wp2
  go_ret
  exact ⟨rfl, B6⟩

end Go.Proofs.YthnpjlnilkbamaaDoor
