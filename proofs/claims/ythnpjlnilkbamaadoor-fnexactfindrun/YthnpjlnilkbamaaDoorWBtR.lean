/- Runs's law, given what both sides answer. Made by mkwex.py. -/
import Derived.Test.YthnpjlnilkbamaaDoorRows
import Derived.Test.YthnpjlnilkbamaaDoorOwK
import Derived.Test.YthnpjlnilkbamaaDoorBoL
import Derived.Test.YthnpjlnilkbamaaDoorRnL
namespace Go.Proofs.YthnpjlnilkbamaaDoor
open Go.RowKit Go.Sort

set_option maxRecDepth 100000 in
set_option maxHeartbeats 4000000 in
theorem wRuns (v0 : Value) (l0 : List Bool) (M0 : List Rn) (w : World) (hv0 : BosAt w v0 l0) (hc0 : l0.length ≤ 9223372036854775807) (hM0 : M0.length ≤ 2097152)
    (hS : l0.length ≤ 1048576 → ∀ w' u0, Below w.heap.size w w' → BosAt w' u0 l0 → Calls Tryd.prog 17 #[u0] w' fun e w'' => ∃ x0, e = .returned (x0) ∧ RnRow w'' w'.heap.size x0 M0 ∧ Below w'.heap.size w' w'')
    (hI : l0.length ≤ 1048576 → ∀ w' u0, Below w.heap.size w w' → BosAt w' u0 l0 → Calls Tryd.prog 8 #[u0] w' fun e w'' => ∃ x0, e = .returned (x0) ∧ RnRow w'' w'.heap.size x0 M0 ∧ Below w'.heap.size w' w'') :
    Calls Tryd.prog 4 #[v0] w fun e w' => e = .returned (.bool true) ∧ Below w.heap.size w w' := by
  obtain ⟨a0, ca0, ev0⟩ : ∃ a ca, v0 = .slice a l0.length ca := by obtain ⟨a, ca, e, _⟩ := hv0; exact ⟨a, ca, e⟩
  subst ev0
  by_cases hbig : (1048576 : Int) < l0.length
  · go_enter Tryd.func4, Tryd.ntmps4
    go_wp2_with fail
    go_ret
    exact ⟨rfl, Below.refl _ _⟩
  have k0 : l0.length ≤ 1048576 := by omega
  go_enter Tryd.func4, Tryd.ntmps4
  have hS := hS k0
  have hI := hI k0
  go_wp2_with fail
  refine (toBoS_any _ l0 w k0 (hv0.below (Below.refl _ _))).mono ?_
  rintro e w1 ⟨p0, rfl, t1, b1⟩
  have B1 : Below w.heap.size w w1 := b1
  have z1 := b1.size
  have p0_1 := OwB.new t1
  go_wp2_with fail
  refine (hS w1 p0 B1 (show BoRow _ _ _ _ from p0_1.row).at).mono ?_
  rintro e w2 ⟨s0, rfl, t2s0, b2⟩
  have B2 : Below w.heap.size w w2 := B1.trans (b2.mono B1.size)
  have z2 := b2.size
  have p0_2 := p0_1.below b2
  have s0_2 := OwB.new t2s0
  go_wp2_with fail
  refine (toBoS_any _ l0 w2 k0 (hv0.below B2)).mono ?_
  rintro e w3 ⟨x0, rfl, t3, b3⟩
  have B3 : Below w.heap.size w w3 := B2.trans (b3.mono B2.size)
  have z3 := b3.size
  have s0_3 := s0_2.below b3
  have x0_3 := OwB.new t3
  go_wp2_with fail
  refine (hI w3 x0 B3 (show BoRow _ _ _ _ from x0_3.row).at).mono ?_
  rintro e w4 ⟨g0, rfl, t4g0, b4⟩
  have B4 : Below w.heap.size w w4 := B3.trans (b4.mono B3.size)
  have z4 := b4.size
  have s0_4 := s0_3.below b4
  have x0_4 := x0_3.below b4
  have g0_4 := OwB.new t4g0
  go_wp2_with fail
  refine (eqRnS_any g0 s0 M0 M0 w4 (by omega) (show RnRow _ _ _ _ from g0_4.row).at (show RnRow _ _ _ _ from s0_4.row).at).mono ?_
  rintro e w5 ⟨rfl, b5⟩
  rw [decide_eq_true rfl]
  have B5 : Below w.heap.size w w5 := B4.trans (b5.mono B4.size)
  have z5 := b5.size
  have s0_5 := s0_4.below b5
  have x0_5 := x0_4.below b5
  have g0_5 := g0_4.below b5
  go_wp2_with fail
  refine (toBoS_any _ l0 w5 k0 (hv0.below B5)).mono ?_
  rintro e w6 ⟨y0, rfl, t6, b6⟩
  have B6 : Below w.heap.size w w6 := B5.trans (b6.mono B5.size)
  have z6 := b6.size
  have s0_6 := s0_5.below b6
  have x0_6 := x0_5.below b6
  have g0_6 := g0_5.below b6
  have y0_6 := OwB.new t6
  go_wp2_with fail
  refine (eqBoS_any x0 y0 l0 l0 w6 (by omega) (show BoRow _ _ _ _ from x0_6.row).at (show BoRow _ _ _ _ from y0_6.row).at).mono ?_
  rintro e w7 ⟨rfl, b7⟩
  rw [decide_eq_true rfl]
  have B7 : Below w.heap.size w w7 := B6.trans (b7.mono B6.size)
  have z7 := b7.size
  have s0_7 := s0_6.below b7
  have x0_7 := x0_6.below b7
  have g0_7 := g0_6.below b7
  have y0_7 := y0_6.below b7
  go_wp2_with fail
  refine (markBoS_any x0 l0 1 w2.heap.size w7 x0_7.row (by omega) (by omega) (by omega)).mono ?_
  rintro e w8 ⟨rfl, t8, g8⟩
  have b8 := OwB.bel (B := w.heap.size) x0_7 g8 (by have := B7.size; omega) B7.size
  have B8 : Below w.heap.size w w8 := B7.trans b8
  have z8 := g8.size
  have s0_8 := s0_7.kept x0_7 g8 (by omega)
  have g0_8 := g0_7.kept x0_7 g8 (by omega)
  have x0_8 := x0_7.marked t8
  go_wp2_with fail
  refine (eqRnS_any g0 s0 M0 M0 w8 (by omega) (show RnRow _ _ _ _ from g0_8.row).at (show RnRow _ _ _ _ from s0_8.row).at).mono ?_
  rintro e w9 ⟨rfl, b9⟩
  rw [decide_eq_true rfl]
  have B9 : Below w.heap.size w w9 := B8.trans (b9.mono B8.size)
  have z9 := b9.size
  have s0_9 := s0_8.below b9
  have g0_9 := g0_8.below b9
  go_wp2_with fail
  refine (markRnS_any g0 M0 1 w3.heap.size w9 g0_9.row (by omega) (by omega) (by omega)).mono ?_
  rintro e w10 ⟨rfl, t10, g10⟩
  have b10 := OwB.bel (B := w.heap.size) g0_9 g10 (by have := B9.size; omega) B9.size
  have B10 : Below w.heap.size w w10 := B9.trans b10
  have z10 := g10.size
  have s0_10 := s0_9.kept g0_9 g10 (by omega)
  have g0_10 := g0_9.marked t10
  go_wp2_with fail
  refine (heldRnS_marks g0 M0.length 1 w10 (by omega) (by omega) (by omega) (show RnRow _ _ _ _ from g0_10.row).at).mono ?_
  rintro e w11 ⟨rfl, b11⟩
  have B11 : Below w.heap.size w w11 := B10.trans (b11.mono B10.size)
  have z11 := b11.size
  have s0_11 := s0_10.below b11
  have g0_11 := g0_10.below b11
  go_wp2_with fail
  refine (toBoS_any _ l0 w11 k0 (hv0.below B11)).mono ?_
  rintro e w12 ⟨d0, rfl, t12, b12⟩
  have B12 : Below w.heap.size w w12 := B11.trans (b12.mono B11.size)
  have z12 := b12.size
  have s0_12 := s0_11.below b12
  have g0_12 := g0_11.below b12
  have d0_12 := OwB.new t12
  go_wp2_with fail
  refine (hI w12 d0 B12 (show BoRow _ _ _ _ from d0_12.row).at).mono ?_
  rintro e w13 ⟨h0, rfl, t13h0, b13⟩
  have B13 : Below w.heap.size w w13 := B12.trans (b13.mono B12.size)
  have z13 := b13.size
  have s0_13 := s0_12.below b13
  have g0_13 := g0_12.below b13
  have d0_13 := d0_12.below b13
  have h0_13 := OwB.new t13h0
  go_wp2_with fail
  refine (eqRnS_any h0 s0 M0 M0 w13 (by omega) (show RnRow _ _ _ _ from h0_13.row).at (show RnRow _ _ _ _ from s0_13.row).at).mono ?_
  rintro e w14 ⟨rfl, b14⟩
  rw [decide_eq_true rfl]
  have B14 : Below w.heap.size w w14 := B13.trans (b14.mono B13.size)
  have z14 := b14.size
  have s0_14 := s0_13.below b14
  have g0_14 := g0_13.below b14
  have d0_14 := d0_13.below b14
  have h0_14 := h0_13.below b14
  go_wp2_with fail
  refine (heldRnS_marks g0 M0.length 1 w14 (by omega) (by omega) (by omega) (show RnRow _ _ _ _ from g0_14.row).at).mono ?_
  rintro e w15 ⟨rfl, b15⟩
  have B15 : Below w.heap.size w w15 := B14.trans (b15.mono B14.size)
  have z15 := b15.size
  have s0_15 := s0_14.below b15
  have g0_15 := g0_14.below b15
  have d0_15 := d0_14.below b15
  have h0_15 := h0_14.below b15
  go_wp2
  go_ret
  exact ⟨rfl, B15⟩

end Go.Proofs.YthnpjlnilkbamaaDoor
