/- PutBlock's law, given what both sides answer. Made by mkwex.py. -/
import Derived.Test.YtkbkanmmpdeokaaRows
import Derived.Test.YtkbkanmmpdeokaaOwK
import Derived.Test.YtkbkanmmpdeokaaExL
namespace Go.Proofs.Ytkbkanmmpdeokaa
open Go.RowKit Go.Sort

set_option maxRecDepth 100000 in
set_option maxHeartbeats 4000000 in
theorem wPutBlock (v0 : Value) (l0 : List Ex) (l1 : Int) (l2 : Int) (M0 : List Ex) (M1 : Bool) (w : World) (hv0 : ExsAt w v0 l0) (hc0 : l0.length ≤ 9223372036854775807) (hM0 : M0.length ≤ 2097152)
    (hS : l0.length ≤ 1048576 → ∀ w' u0, Below w.heap.size w w' → ExsAt w' u0 l0 → Calls Try.prog 12 #[u0, .int .i64 l1, .int .i64 l2] w' fun e w'' => ∃ x0, e = .returned (.tuple #[x0, .bool M1]) ∧ ExRow w'' w'.heap.size x0 M0 ∧ Below w'.heap.size w' w'')
    (hI : l0.length ≤ 1048576 → ∀ w' u0, Below w.heap.size w w' → ExsAt w' u0 l0 → Calls Try.prog 11 #[u0, .int .i64 l1, .int .i64 l2] w' fun e w'' => ∃ x0, e = .returned (.tuple #[x0, .bool M1]) ∧ ExRow w'' w'.heap.size x0 M0 ∧ Below w'.heap.size w' w'') :
    Calls Try.prog 6 #[v0, .int .i64 l1, .int .i64 l2] w fun e w' => e = .returned (.bool true) ∧ Below w.heap.size w w' := by
  go_enter Try.func6, Try.ntmps6
  go_wp2_with fail
  refine (szExS_any v0 l0 1048576 w (by omega) (by omega) hv0 hc0).mono ?_
  rintro e w1 ⟨r0, rfl, ⟨hr0a, hr0b⟩, HR0, b1⟩
  have B1 : Below w.heap.size w w1 := b1
  have z1 := b1.size
  by_cases q0 : r0 < 0
  · go_wp2
    go_ret
    exact ⟨rfl, B1⟩
  have k0 : l0.length ≤ 1048576 := HR0.out (by omega)
  have q0' : ¬ r0 < 0 := q0
  have hS := hS k0
  have hI := hI k0
  go_wp2_with fail
  refine (toExS_any v0 l0 w1 k0 (hv0.below B1)).mono ?_
  rintro e w2 ⟨p0, rfl, t2, b2⟩
  have B2 : Below w.heap.size w w2 := B1.trans (b2.mono B1.size)
  have z2 := b2.size
  have p0_2 := OwB.new t2
  go_wp2_with fail
  refine (hS w2 p0 B2 (show ExRow _ _ _ _ from p0_2.row).at).mono ?_
  rintro e w3 ⟨s0, rfl, t3s0, b3⟩
  have B3 : Below w.heap.size w w3 := B2.trans (b3.mono B2.size)
  have z3 := b3.size
  have p0_3 := p0_2.below b3
  have s0_3 := OwB.new t3s0
  go_wp2_with fail
  refine (toExS_any v0 l0 w3 k0 (hv0.below B3)).mono ?_
  rintro e w4 ⟨x0, rfl, t4, b4⟩
  have B4 : Below w.heap.size w w4 := B3.trans (b4.mono B3.size)
  have z4 := b4.size
  have s0_4 := s0_3.below b4
  have x0_4 := OwB.new t4
  go_wp2_with fail
  refine (hI w4 x0 B4 (show ExRow _ _ _ _ from x0_4.row).at).mono ?_
  rintro e w5 ⟨g0, rfl, t5g0, b5⟩
  have B5 : Below w.heap.size w w5 := B4.trans (b5.mono B4.size)
  have z5 := b5.size
  have s0_5 := s0_4.below b5
  have x0_5 := x0_4.below b5
  have g0_5 := OwB.new t5g0
  have hb1 : (M1 != M1) = false := by simp
  go_wp2_with fail
  refine (eqExS_any g0 s0 M0 M0 w5 (by omega) (show ExRow _ _ _ _ from g0_5.row).at (show ExRow _ _ _ _ from s0_5.row).at).mono ?_
  rintro e w6 ⟨rfl, b6⟩
  rw [decide_eq_true rfl]
  have B6 : Below w.heap.size w w6 := B5.trans (b6.mono B5.size)
  have z6 := b6.size
  have s0_6 := s0_5.below b6
  have x0_6 := x0_5.below b6
  have g0_6 := g0_5.below b6
  go_wp2_with fail
  refine (toExS_any v0 l0 w6 k0 (hv0.below B6)).mono ?_
  rintro e w7 ⟨y0, rfl, t7, b7⟩
  have B7 : Below w.heap.size w w7 := B6.trans (b7.mono B6.size)
  have z7 := b7.size
  have s0_7 := s0_6.below b7
  have x0_7 := x0_6.below b7
  have g0_7 := g0_6.below b7
  have y0_7 := OwB.new t7
  go_wp2_with fail
  refine (eqExS_any x0 y0 l0 l0 w7 (by omega) (show ExRow _ _ _ _ from x0_7.row).at (show ExRow _ _ _ _ from y0_7.row).at).mono ?_
  rintro e w8 ⟨rfl, b8⟩
  rw [decide_eq_true rfl]
  have B8 : Below w.heap.size w w8 := B7.trans (b8.mono B7.size)
  have z8 := b8.size
  have s0_8 := s0_7.below b8
  have x0_8 := x0_7.below b8
  have g0_8 := g0_7.below b8
  have y0_8 := y0_7.below b8
  go_wp2_with fail
  refine (markExS_any x0 l0 1 w3.heap.size w8 x0_8.row (by omega) (by omega) (by omega)).mono ?_
  rintro e w9 ⟨rfl, t9, g9⟩
  have b9 := OwB.bel (B := w.heap.size) x0_8 g9 (by have := B8.size; omega) B8.size
  have B9 : Below w.heap.size w w9 := B8.trans b9
  have z9 := g9.size
  have s0_9 := s0_8.kept x0_8 g9 (by omega)
  have g0_9 := g0_8.kept x0_8 g9 (by omega)
  have x0_9 := x0_8.marked t9
  go_wp2_with fail
  refine (eqExS_any g0 s0 M0 M0 w9 (by omega) (show ExRow _ _ _ _ from g0_9.row).at (show ExRow _ _ _ _ from s0_9.row).at).mono ?_
  rintro e w10 ⟨rfl, b10⟩
  rw [decide_eq_true rfl]
  have B10 : Below w.heap.size w w10 := B9.trans (b10.mono B9.size)
  have z10 := b10.size
  have s0_10 := s0_9.below b10
  have g0_10 := g0_9.below b10
  go_wp2_with fail
  refine (markExS_any g0 M0 1 w4.heap.size w10 g0_10.row (by omega) (by omega) (by omega)).mono ?_
  rintro e w11 ⟨rfl, t11, g11⟩
  have b11 := OwB.bel (B := w.heap.size) g0_10 g11 (by have := B10.size; omega) B10.size
  have B11 : Below w.heap.size w w11 := B10.trans b11
  have z11 := g11.size
  have s0_11 := s0_10.kept g0_10 g11 (by omega)
  have g0_11 := g0_10.marked t11
  go_wp2_with fail
  refine (heldExS_marks g0 M0.length 1 w11 (by omega) (by omega) (by omega) (show ExRow _ _ _ _ from g0_11.row).at).mono ?_
  rintro e w12 ⟨rfl, b12⟩
  have B12 : Below w.heap.size w w12 := B11.trans (b12.mono B11.size)
  have z12 := b12.size
  have s0_12 := s0_11.below b12
  have g0_12 := g0_11.below b12
  go_wp2_with fail
  refine (toExS_any v0 l0 w12 k0 (hv0.below B12)).mono ?_
  rintro e w13 ⟨d0, rfl, t13, b13⟩
  have B13 : Below w.heap.size w w13 := B12.trans (b13.mono B12.size)
  have z13 := b13.size
  have s0_13 := s0_12.below b13
  have g0_13 := g0_12.below b13
  have d0_13 := OwB.new t13
  go_wp2_with fail
  refine (hI w13 d0 B13 (show ExRow _ _ _ _ from d0_13.row).at).mono ?_
  rintro e w14 ⟨h0, rfl, t14h0, b14⟩
  have B14 : Below w.heap.size w w14 := B13.trans (b14.mono B13.size)
  have z14 := b14.size
  have s0_14 := s0_13.below b14
  have g0_14 := g0_13.below b14
  have d0_14 := d0_13.below b14
  have h0_14 := OwB.new t14h0
  go_wp2_with fail
  refine (eqExS_any h0 s0 M0 M0 w14 (by omega) (show ExRow _ _ _ _ from h0_14.row).at (show ExRow _ _ _ _ from s0_14.row).at).mono ?_
  rintro e w15 ⟨rfl, b15⟩
  rw [decide_eq_true rfl]
  have B15 : Below w.heap.size w w15 := B14.trans (b15.mono B14.size)
  have z15 := b15.size
  have s0_15 := s0_14.below b15
  have g0_15 := g0_14.below b15
  have d0_15 := d0_14.below b15
  have h0_15 := h0_14.below b15
  go_wp2_with fail
  refine (heldExS_marks g0 M0.length 1 w15 (by omega) (by omega) (by omega) (show ExRow _ _ _ _ from g0_15.row).at).mono ?_
  rintro e w16 ⟨rfl, b16⟩
  have B16 : Below w.heap.size w w16 := B15.trans (b16.mono B15.size)
  have z16 := b16.size
  have s0_16 := s0_15.below b16
  have g0_16 := g0_15.below b16
  have d0_16 := d0_15.below b16
  have h0_16 := h0_15.below b16
  go_wp2
  go_ret
  exact ⟨rfl, B16⟩

end Go.Proofs.Ytkbkanmmpdeokaa
