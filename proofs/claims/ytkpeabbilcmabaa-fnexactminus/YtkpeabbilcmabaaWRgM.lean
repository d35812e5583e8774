/- Minus's law, given what both sides answer. Made by mkwex.py. -/
import Derived.Test.YtkpeabbilcmabaaRows
import Derived.Test.YtkpeabbilcmabaaOwK
import Derived.Test.YtkpeabbilcmabaaRgL
namespace Go.Proofs.Ytkpeabbilcmabaa
open Go.RowKit Go.Sort

set_option maxRecDepth 100000 in
set_option maxHeartbeats 4000000 in
theorem wMinus (v0 : Value) (l0 : List Rg) (v1 : Value) (l1 : List Rg) (M0 : List Rg) (w : World) (hv0 : RgsAt w v0 l0) (hc0 : l0.length ≤ 9223372036854775807) (hv1 : RgsAt w v1 l1) (hc1 : l1.length ≤ 9223372036854775807) (hM0 : M0.length ≤ 2097152)
    (hS : l0.length ≤ 1048576 → l1.length ≤ 1048576 → ∀ w' u0 u1, Below w.heap.size w w' → RgsAt w' u0 l0 → RgsAt w' u1 l1 → Calls Try.prog 24 #[u0, u1] w' fun e w'' => ∃ x0, e = .returned (x0) ∧ RgRow w'' w'.heap.size x0 M0 ∧ Below w'.heap.size w' w'')
    (hI : l0.length ≤ 1048576 → l1.length ≤ 1048576 → ∀ w' u0 u1, Below w.heap.size w w' → RgsAt w' u0 l0 → RgsAt w' u1 l1 → Calls Try.prog 11 #[u0, u1] w' fun e w'' => ∃ x0, e = .returned (x0) ∧ RgRow w'' w'.heap.size x0 M0 ∧ Below w'.heap.size w' w'') :
    Calls Try.prog 7 #[v0, v1] w fun e w' => e = .returned (.bool true) ∧ Below w.heap.size w w' := by
  go_enter Try.func7, Try.ntmps7
  go_wp2_with fail
  refine (szRgS_any v0 l0 1048576 w (by omega) (by omega) hv0 hc0).mono ?_
  rintro e w1 ⟨r0, rfl, ⟨hr0a, hr0b⟩, HR0, b1⟩
  have B1 : Below w.heap.size w w1 := b1
  have z1 := b1.size
  by_cases q0 : r0 < 0
  · go_wp2
    go_ret
    exact ⟨rfl, B1⟩
  have k0 : l0.length ≤ 1048576 := HR0.out (by omega)
  have q0' : ¬ r0 < 0 := q0
  go_wp2_with fail
  refine (szRgS_any v1 l1 r0 w1 (by omega) (by omega) (hv1.below B1) hc1).mono ?_
  rintro e w2 ⟨r1, rfl, ⟨hr1a, hr1b⟩, HR1, b2⟩
  have B2 : Below w.heap.size w w2 := B1.trans (b2.mono B1.size)
  have z2 := b2.size
  by_cases q1 : r1 < 0
  · go_wp2
    go_ret
    exact ⟨rfl, B2⟩
  have k1 : l1.length ≤ 1048576 := HR1.out (by omega)
  have q1' : ¬ r1 < 0 := q1
  have hS := hS k0 k1
  have hI := hI k0 k1
  go_wp2_with fail
  refine (toRgS_any v0 l0 w2 k0 (hv0.below B2)).mono ?_
  rintro e w3 ⟨p0, rfl, t3, b3⟩
  have B3 : Below w.heap.size w w3 := B2.trans (b3.mono B2.size)
  have z3 := b3.size
  have p0_3 := OwB.new t3
  go_wp2_with fail
  refine (toRgS_any v1 l1 w3 k1 (hv1.below B3)).mono ?_
  rintro e w4 ⟨p1, rfl, t4, b4⟩
  have B4 : Below w.heap.size w w4 := B3.trans (b4.mono B3.size)
  have z4 := b4.size
  have p0_4 := p0_3.below b4
  have p1_4 := OwB.new t4
  go_wp2_with fail
  refine (hS w4 p0 p1 B4 (show RgRow _ _ _ _ from p0_4.row).at (show RgRow _ _ _ _ from p1_4.row).at).mono ?_
  rintro e w5 ⟨s0, rfl, t5s0, b5⟩
  have B5 : Below w.heap.size w w5 := B4.trans (b5.mono B4.size)
  have z5 := b5.size
  have p0_5 := p0_4.below b5
  have p1_5 := p1_4.below b5
  have s0_5 := OwB.new t5s0
  go_wp2_with fail
  refine (toRgS_any v0 l0 w5 k0 (hv0.below B5)).mono ?_
  rintro e w6 ⟨x0, rfl, t6, b6⟩
  have B6 : Below w.heap.size w w6 := B5.trans (b6.mono B5.size)
  have z6 := b6.size
  have s0_6 := s0_5.below b6
  have x0_6 := OwB.new t6
  go_wp2_with fail
  refine (toRgS_any v1 l1 w6 k1 (hv1.below B6)).mono ?_
  rintro e w7 ⟨x1, rfl, t7, b7⟩
  have B7 : Below w.heap.size w w7 := B6.trans (b7.mono B6.size)
  have z7 := b7.size
  have s0_7 := s0_6.below b7
  have x0_7 := x0_6.below b7
  have x1_7 := OwB.new t7
  go_wp2_with fail
  refine (hI w7 x0 x1 B7 (show RgRow _ _ _ _ from x0_7.row).at (show RgRow _ _ _ _ from x1_7.row).at).mono ?_
  rintro e w8 ⟨g0, rfl, t8g0, b8⟩
  have B8 : Below w.heap.size w w8 := B7.trans (b8.mono B7.size)
  have z8 := b8.size
  have s0_8 := s0_7.below b8
  have x0_8 := x0_7.below b8
  have x1_8 := x1_7.below b8
  have g0_8 := OwB.new t8g0
  go_wp2_with fail
  refine (eqRgS_any g0 s0 M0 M0 w8 (by omega) (show RgRow _ _ _ _ from g0_8.row).at (show RgRow _ _ _ _ from s0_8.row).at).mono ?_
  rintro e w9 ⟨rfl, b9⟩
  rw [decide_eq_true rfl]
  have B9 : Below w.heap.size w w9 := B8.trans (b9.mono B8.size)
  have z9 := b9.size
  have s0_9 := s0_8.below b9
  have x0_9 := x0_8.below b9
  have x1_9 := x1_8.below b9
  have g0_9 := g0_8.below b9
  go_wp2_with fail
  refine (toRgS_any v0 l0 w9 k0 (hv0.below B9)).mono ?_
  rintro e w10 ⟨y0, rfl, t10, b10⟩
  have B10 : Below w.heap.size w w10 := B9.trans (b10.mono B9.size)
  have z10 := b10.size
  have s0_10 := s0_9.below b10
  have x0_10 := x0_9.below b10
  have x1_10 := x1_9.below b10
  have g0_10 := g0_9.below b10
  have y0_10 := OwB.new t10
  go_wp2_with fail
  refine (eqRgS_any x0 y0 l0 l0 w10 (by omega) (show RgRow _ _ _ _ from x0_10.row).at (show RgRow _ _ _ _ from y0_10.row).at).mono ?_
  rintro e w11 ⟨rfl, b11⟩
  rw [decide_eq_true rfl]
  have B11 : Below w.heap.size w w11 := B10.trans (b11.mono B10.size)
  have z11 := b11.size
  have s0_11 := s0_10.below b11
  have x0_11 := x0_10.below b11
  have x1_11 := x1_10.below b11
  have g0_11 := g0_10.below b11
  have y0_11 := y0_10.below b11
  go_wp2_with fail
  refine (toRgS_any v1 l1 w11 k1 (hv1.below B11)).mono ?_
  rintro e w12 ⟨y1, rfl, t12, b12⟩
  have B12 : Below w.heap.size w w12 := B11.trans (b12.mono B11.size)
  have z12 := b12.size
  have s0_12 := s0_11.below b12
  have x0_12 := x0_11.below b12
  have x1_12 := x1_11.below b12
  have g0_12 := g0_11.below b12
  have y1_12 := OwB.new t12
  go_wp2_with fail
  refine (eqRgS_any x1 y1 l1 l1 w12 (by omega) (show RgRow _ _ _ _ from x1_12.row).at (show RgRow _ _ _ _ from y1_12.row).at).mono ?_
  rintro e w13 ⟨rfl, b13⟩
  rw [decide_eq_true rfl]
  have B13 : Below w.heap.size w w13 := B12.trans (b13.mono B12.size)
  have z13 := b13.size
  have s0_13 := s0_12.below b13
  have x0_13 := x0_12.below b13
  have x1_13 := x1_12.below b13
  have g0_13 := g0_12.below b13
  have y1_13 := y1_12.below b13
  go_wp2_with fail
  refine (markRgS_any x0 l0 1 w5.heap.size w13 x0_13.row (by omega) (by omega) (by omega)).mono ?_
  rintro e w14 ⟨rfl, t14, g14⟩
  have b14 := OwB.bel (B := w.heap.size) x0_13 g14 (by have := B13.size; omega) B13.size
  have B14 : Below w.heap.size w w14 := B13.trans b14
  have z14 := g14.size
  have s0_14 := s0_13.kept x0_13 g14 (by omega)
  have x1_14 := x1_13.kept x0_13 g14 (by omega)
  have g0_14 := g0_13.kept x0_13 g14 (by omega)
  have x0_14 := x0_13.marked t14
  go_wp2_with fail
  refine (markRgS_any x1 l1 (1 + 2 * l0.length) w6.heap.size w14 x1_14.row (by omega) (by omega) (by omega)).mono ?_
  rintro e w15 ⟨rfl, t15, g15⟩
  have b15 := OwB.bel (B := w.heap.size) x1_14 g15 (by have := B14.size; omega) B14.size
  have B15 : Below w.heap.size w w15 := B14.trans b15
  have z15 := g15.size
  have s0_15 := s0_14.kept x1_14 g15 (by omega)
  have g0_15 := g0_14.kept x1_14 g15 (by omega)
  have x1_15 := x1_14.marked t15
  go_wp2_with fail
  refine (eqRgS_any g0 s0 M0 M0 w15 (by omega) (show RgRow _ _ _ _ from g0_15.row).at (show RgRow _ _ _ _ from s0_15.row).at).mono ?_
  rintro e w16 ⟨rfl, b16⟩
  rw [decide_eq_true rfl]
  have B16 : Below w.heap.size w w16 := B15.trans (b16.mono B15.size)
  have z16 := b16.size
  have s0_16 := s0_15.below b16
  have g0_16 := g0_15.below b16
  go_wp2_with fail
  refine (markRgS_any g0 M0 1 w7.heap.size w16 g0_16.row (by omega) (by omega) (by omega)).mono ?_
  rintro e w17 ⟨rfl, t17, g17⟩
  have b17 := OwB.bel (B := w.heap.size) g0_16 g17 (by have := B16.size; omega) B16.size
  have B17 : Below w.heap.size w w17 := B16.trans b17
  have z17 := g17.size
  have s0_17 := s0_16.kept g0_16 g17 (by omega)
  have g0_17 := g0_16.marked t17
  go_wp2_with fail
  refine (heldRgS_marks g0 M0.length 1 w17 (by omega) (by omega) (by omega) (show RgRow _ _ _ _ from g0_17.row).at).mono ?_
  rintro e w18 ⟨rfl, b18⟩
  have B18 : Below w.heap.size w w18 := B17.trans (b18.mono B17.size)
  have z18 := b18.size
  have s0_18 := s0_17.below b18
  have g0_18 := g0_17.below b18
  go_wp2_with fail
  refine (toRgS_any v0 l0 w18 k0 (hv0.below B18)).mono ?_
  rintro e w19 ⟨d0, rfl, t19, b19⟩
  have B19 : Below w.heap.size w w19 := B18.trans (b19.mono B18.size)
  have z19 := b19.size
  have s0_19 := s0_18.below b19
  have g0_19 := g0_18.below b19
  have d0_19 := OwB.new t19
  go_wp2_with fail
  refine (toRgS_any v1 l1 w19 k1 (hv1.below B19)).mono ?_
  rintro e w20 ⟨d1, rfl, t20, b20⟩
  have B20 : Below w.heap.size w w20 := B19.trans (b20.mono B19.size)
  have z20 := b20.size
  have s0_20 := s0_19.below b20
  have g0_20 := g0_19.below b20
  have d0_20 := d0_19.below b20
  have d1_20 := OwB.new t20
  go_wp2_with fail
  refine (hI w20 d0 d1 B20 (show RgRow _ _ _ _ from d0_20.row).at (show RgRow _ _ _ _ from d1_20.row).at).mono ?_
  rintro e w21 ⟨h0, rfl, t21h0, b21⟩
  have B21 : Below w.heap.size w w21 := B20.trans (b21.mono B20.size)
  have z21 := b21.size
  have s0_21 := s0_20.below b21
  have g0_21 := g0_20.below b21
  have d0_21 := d0_20.below b21
  have d1_21 := d1_20.below b21
  have h0_21 := OwB.new t21h0
  go_wp2_with fail
  refine (eqRgS_any h0 s0 M0 M0 w21 (by omega) (show RgRow _ _ _ _ from h0_21.row).at (show RgRow _ _ _ _ from s0_21.row).at).mono ?_
  rintro e w22 ⟨rfl, b22⟩
  rw [decide_eq_true rfl]
  have B22 : Below w.heap.size w w22 := B21.trans (b22.mono B21.size)
  have z22 := b22.size
  have s0_22 := s0_21.below b22
  have g0_22 := g0_21.below b22
  have d0_22 := d0_21.below b22
  have d1_22 := d1_21.below b22
  have h0_22 := h0_21.below b22
  go_wp2_with fail
  refine (heldRgS_marks g0 M0.length 1 w22 (by omega) (by omega) (by omega) (show RgRow _ _ _ _ from g0_22.row).at).mono ?_
  rintro e w23 ⟨rfl, b23⟩
  have B23 : Below w.heap.size w w23 := B22.trans (b23.mono B22.size)
  have z23 := b23.size
  have s0_23 := s0_22.below b23
  have g0_23 := g0_22.below b23
  have d0_23 := d0_22.below b23
  have d1_23 := d1_22.below b23
  have h0_23 := h0_22.below b23
  go_wp2
  go_ret
  exact ⟨rfl, B23⟩

end Go.Proofs.Ytkpeabbilcmabaa
