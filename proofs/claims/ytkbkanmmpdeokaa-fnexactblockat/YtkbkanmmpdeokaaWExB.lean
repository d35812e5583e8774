/- BlockAt's law, given what both sides answer. Made by mkwex.py. -/
import Derived.Test.YtkbkanmmpdeokaaRows
import Derived.Test.YtkbkanmmpdeokaaOwK
import Derived.Test.YtkbkanmmpdeokaaExL
namespace Go.Proofs.Ytkbkanmmpdeokaa
open Go.RowKit Go.Sort

set_option maxRecDepth 100000 in
set_option maxHeartbeats 4000000 in
theorem wBlockAt (v0 : Value) (l0 : List Ex) (l1 : Int) (M0 : Int) (w : World) (hv0 : ExsAt w v0 l0) (hc0 : l0.length ≤ 9223372036854775807) 
    (hS : l0.length ≤ 1048576 → ∀ w' u0, Below w.heap.size w w' → ExsAt w' u0 l0 → Calls Try.prog 15 #[u0, .int .i64 l1] w' fun e w'' => e = .returned (.int .i64 M0) ∧ Below w'.heap.size w' w'')
    (hI : l0.length ≤ 1048576 → ∀ w' u0, Below w.heap.size w w' → ExsAt w' u0 l0 → Calls Try.prog 14 #[u0, .int .i64 l1] w' fun e w'' => e = .returned (.int .i64 M0) ∧ Below w'.heap.size w' w'') :
    Calls Try.prog 5 #[v0, .int .i64 l1] w fun e w' => e = .returned (.bool true) ∧ Below w.heap.size w w' := by
  go_enter Try.func5, Try.ntmps5
  go_wp2_with fail
  refine (szExS_any v0 l0 1048576 w (by omega) (by omega) hv0 hc0).mono ?_
  rintro e w1 ⟨r0, rfl, ⟨hr0a, hr0b⟩, HR0, b1⟩
  have B1 : Below w.heap.size w w1 := b1
  have z1 := b1.size
  by_cases q0 : r0 < 0
  · go_wp2
    go_ret
    exact ⟨rfl, B1⟩
  have k0 : l0.length ≤ 1048576 := HR0.out (by omega)
  have q0' : ¬ r0 < 0 := q0
  have hS := hS k0
  have hI := hI k0
  go_wp2_with fail
  refine (toExS_any v0 l0 w1 k0 (hv0.below B1)).mono ?_
  rintro e w2 ⟨p0, rfl, t2, b2⟩
  have B2 : Below w.heap.size w w2 := B1.trans (b2.mono B1.size)
  have z2 := b2.size
  have p0_2 := OwB.new t2
  go_wp2_with fail
  refine (hS w2 p0 B2 (show ExRow _ _ _ _ from p0_2.row).at).mono ?_
  rintro e w3 ⟨rfl, b3⟩
  have B3 : Below w.heap.size w w3 := B2.trans (b3.mono B2.size)
  have z3 := b3.size
  have p0_3 := p0_2.below b3
  go_wp2_with fail
  refine (toExS_any v0 l0 w3 k0 (hv0.below B3)).mono ?_
  rintro e w4 ⟨x0, rfl, t4, b4⟩
  have B4 : Below w.heap.size w w4 := B3.trans (b4.mono B3.size)
  have z4 := b4.size
  have x0_4 := OwB.new t4
  go_wp2_with fail
  refine (hI w4 x0 B4 (show ExRow _ _ _ _ from x0_4.row).at).mono ?_
  rintro e w5 ⟨rfl, b5⟩
  have B5 : Below w.heap.size w w5 := B4.trans (b5.mono B4.size)
  have z5 := b5.size
  have x0_5 := x0_4.below b5
  have hb0 : (M0 != M0) = false := by simp
  go_wp2_with fail
  refine (toExS_any v0 l0 w5 k0 (hv0.below B5)).mono ?_
  rintro e w6 ⟨y0, rfl, t6, b6⟩
  have B6 : Below w.heap.size w w6 := B5.trans (b6.mono B5.size)
  have z6 := b6.size
  have x0_6 := x0_5.below b6
  have y0_6 := OwB.new t6
  go_wp2_with fail
  refine (eqExS_any x0 y0 l0 l0 w6 (by omega) (show ExRow _ _ _ _ from x0_6.row).at (show ExRow _ _ _ _ from y0_6.row).at).mono ?_
  rintro e w7 ⟨rfl, b7⟩
  rw [decide_eq_true rfl]
  have B7 : Below w.heap.size w w7 := B6.trans (b7.mono B6.size)
  have z7 := b7.size
  have x0_7 := x0_6.below b7
  have y0_7 := y0_6.below b7
  go_wp2
  go_ret
  exact ⟨rfl, B7⟩

end Go.Proofs.Ytkbkanmmpdeokaa
