/- CutAt's law, given what both sides answer. Made by mkwex.py. -/
import Derived.Test.YtkbkanmmpdeokaaRows
import Derived.Test.YtkbkanmmpdeokaaOwK
import Derived.Test.YtkbkanmmpdeokaaExL
import Derived.Test.YtkbkanmmpdeokaaInU
namespace Go.Proofs.Ytkbkanmmpdeokaa
open Go.RowKit Go.Sort

set_option maxRecDepth 100000 in
set_option maxHeartbeats 4000000 in
theorem wCutAt (v0 : Value) (l0 : List Ex) (l1 : Int) (M0 : List Ex) (M1 : List Int) (w : World) (hv0 : ExsAt w v0 l0) (hc0 : l0.length ≤ 9223372036854775807) (hM0 : M0.length ≤ 2097152) (hM1 : M1.length ≤ 2097152)
    (hS : l0.length ≤ 1048576 → ∀ w' u0, Below w.heap.size w w' → ExsAt w' u0 l0 → Calls Try.prog 26 #[u0, .int .i64 l1] w' fun e w'' => ∃ x0 x1, e = .returned (.tuple #[x0, x1]) ∧ ExRow w'' w'.heap.size x0 M0 ∧ InRow w'' w'.heap.size x1 M1 ∧ Below w'.heap.size w' w'')
    (hI : l0.length ≤ 1048576 → ∀ w' u0, Below w.heap.size w w' → ExsAt w' u0 l0 → Calls Try.prog 19 #[u0, .int .i64 l1] w' fun e w'' => ∃ x0 x1, e = .returned (.tuple #[x0, x1]) ∧ ExRow w'' w'.heap.size x0 M0 ∧ InRow w'' w'.heap.size x1 M1 ∧ (∀ k, x0.ownBlock = some k → x1.ownBlock ≠ some k) ∧ Below w'.heap.size w' w'') :
    Calls Try.prog 7 #[v0, .int .i64 l1] w fun e w' => e = .returned (.bool true) ∧ Below w.heap.size w w' := by
  go_enter Try.func7, Try.ntmps7
  go_wp2_with fail
  refine (szExS_any v0 l0 1048576 w (by omega) (by omega) hv0 hc0).mono ?_
  rintro e w1 ⟨r0, rfl, ⟨hr0a, hr0b⟩, HR0, b1⟩
  have B1 : Below w.heap.size w w1 := b1
  have z1 := b1.size
  by_cases q0 : r0 < 0
  · go_wp2
    go_ret
    exact ⟨rfl, B1⟩
  have k0 : l0.length ≤ 1048576 := HR0.out (by omega)
  have q0' : ¬ r0 < 0 := q0
  have hS := hS k0
  have hI := hI k0
  go_wp2_with fail
  refine (toExS_any v0 l0 w1 k0 (hv0.below B1)).mono ?_
  rintro e w2 ⟨p0, rfl, t2, b2⟩
  have B2 : Below w.heap.size w w2 := B1.trans (b2.mono B1.size)
  have z2 := b2.size
  have p0_2 := OwB.new t2
  go_wp2_with fail
  refine (hS w2 p0 B2 (show ExRow _ _ _ _ from p0_2.row).at).mono ?_
  rintro e w3 ⟨s0, s1, rfl, t3s0, t3s1, b3⟩
  have B3 : Below w.heap.size w w3 := B2.trans (b3.mono B2.size)
  have z3 := b3.size
  have p0_3 := p0_2.below b3
  have s0_3 := OwB.new t3s0
  have s1_3 := OwB.new t3s1
  go_wp2_with fail
  refine (toExS_any v0 l0 w3 k0 (hv0.below B3)).mono ?_
  rintro e w4 ⟨x0, rfl, t4, b4⟩
  have B4 : Below w.heap.size w w4 := B3.trans (b4.mono B3.size)
  have z4 := b4.size
  have s0_4 := s0_3.below b4
  have s1_4 := s1_3.below b4
  have x0_4 := OwB.new t4
  go_wp2_with fail
  refine (hI w4 x0 B4 (show ExRow _ _ _ _ from x0_4.row).at).mono ?_
  rintro e w5 ⟨g0, g1, rfl, t5g0, t5g1, gdis, b5⟩
  have B5 : Below w.heap.size w w5 := B4.trans (b5.mono B4.size)
  have z5 := b5.size
  have s0_5 := s0_4.below b5
  have s1_5 := s1_4.below b5
  have x0_5 := x0_4.below b5
  have g0_5 := OwB.new t5g0
  have g1_5 := OwB.new t5g1
  go_wp2_with fail
  refine (eqExS_any g0 s0 M0 M0 w5 (by omega) (show ExRow _ _ _ _ from g0_5.row).at (show ExRow _ _ _ _ from s0_5.row).at).mono ?_
  rintro e w6 ⟨rfl, b6⟩
  rw [decide_eq_true rfl]
  have B6 : Below w.heap.size w w6 := B5.trans (b6.mono B5.size)
  have z6 := b6.size
  have s0_6 := s0_5.below b6
  have s1_6 := s1_5.below b6
  have x0_6 := x0_5.below b6
  have g0_6 := g0_5.below b6
  have g1_6 := g1_5.below b6
  go_wp2_with fail
  refine (eqInS_any g1 s1 M1 M1 w6 (by omega) (show InRow _ _ _ _ from g1_6.row).at (show InRow _ _ _ _ from s1_6.row).at).mono ?_
  rintro e w7 ⟨rfl, b7⟩
  rw [decide_eq_true rfl]
  have B7 : Below w.heap.size w w7 := B6.trans (b7.mono B6.size)
  have z7 := b7.size
  have s0_7 := s0_6.below b7
  have s1_7 := s1_6.below b7
  have x0_7 := x0_6.below b7
  have g0_7 := g0_6.below b7
  have g1_7 := g1_6.below b7
  go_wp2_with fail
  refine (toExS_any v0 l0 w7 k0 (hv0.below B7)).mono ?_
  rintro e w8 ⟨y0, rfl, t8, b8⟩
  have B8 : Below w.heap.size w w8 := B7.trans (b8.mono B7.size)
  have z8 := b8.size
  have s0_8 := s0_7.below b8
  have s1_8 := s1_7.below b8
  have x0_8 := x0_7.below b8
  have g0_8 := g0_7.below b8
  have g1_8 := g1_7.below b8
  have y0_8 := OwB.new t8
  go_wp2_with fail
  refine (eqExS_any x0 y0 l0 l0 w8 (by omega) (show ExRow _ _ _ _ from x0_8.row).at (show ExRow _ _ _ _ from y0_8.row).at).mono ?_
  rintro e w9 ⟨rfl, b9⟩
  rw [decide_eq_true rfl]
  have B9 : Below w.heap.size w w9 := B8.trans (b9.mono B8.size)
  have z9 := b9.size
  have s0_9 := s0_8.below b9
  have s1_9 := s1_8.below b9
  have x0_9 := x0_8.below b9
  have g0_9 := g0_8.below b9
  have g1_9 := g1_8.below b9
  have y0_9 := y0_8.below b9
  go_wp2_with fail
  refine (markExS_any x0 l0 1 w3.heap.size w9 x0_9.row (by omega) (by omega) (by omega)).mono ?_
  rintro e w10 ⟨rfl, t10, g10⟩
  have b10 := OwB.bel (B := w.heap.size) x0_9 g10 (by have := B9.size; omega) B9.size
  have B10 : Below w.heap.size w w10 := B9.trans b10
  have z10 := g10.size
  have s0_10 := s0_9.kept x0_9 g10 (by omega)
  have s1_10 := s1_9.kept x0_9 g10 (by omega)
  have g0_10 := g0_9.kept x0_9 g10 (by omega)
  have g1_10 := g1_9.kept x0_9 g10 (by omega)
  have x0_10 := x0_9.marked t10
  go_wp2_with fail
  refine (eqExS_any g0 s0 M0 M0 w10 (by omega) (show ExRow _ _ _ _ from g0_10.row).at (show ExRow _ _ _ _ from s0_10.row).at).mono ?_
  rintro e w11 ⟨rfl, b11⟩
  rw [decide_eq_true rfl]
  have B11 : Below w.heap.size w w11 := B10.trans (b11.mono B10.size)
  have z11 := b11.size
  have s0_11 := s0_10.below b11
  have s1_11 := s1_10.below b11
  have g0_11 := g0_10.below b11
  have g1_11 := g1_10.below b11
  go_wp2_with fail
  refine (eqInS_any g1 s1 M1 M1 w11 (by omega) (show InRow _ _ _ _ from g1_11.row).at (show InRow _ _ _ _ from s1_11.row).at).mono ?_
  rintro e w12 ⟨rfl, b12⟩
  rw [decide_eq_true rfl]
  have B12 : Below w.heap.size w w12 := B11.trans (b12.mono B11.size)
  have z12 := b12.size
  have s0_12 := s0_11.below b12
  have s1_12 := s1_11.below b12
  have g0_12 := g0_11.below b12
  have g1_12 := g1_11.below b12
  go_wp2_with fail
  refine (markExS_any g0 M0 1 w4.heap.size w12 g0_12.row (by omega) (by omega) (by omega)).mono ?_
  rintro e w13 ⟨rfl, t13, g13⟩
  have b13 := OwB.bel (B := w.heap.size) g0_12 g13 (by have := B12.size; omega) B12.size
  have B13 : Below w.heap.size w w13 := B12.trans b13
  have z13 := g13.size
  have s0_13 := s0_12.kept g0_12 g13 (by omega)
  have s1_13 := s1_12.kept g0_12 g13 (by omega)
  have g1_13 := g1_12.keptD g0_12 g13 (fun k e1 e2 => gdis k e2 e1)
  have g0_13 := g0_12.marked t13
  go_wp2_with fail
  refine (markInS_any g1 M1 (1 + 3 * M0.length) w4.heap.size w13 g1_13.row (by omega) (by omega) (by omega)).mono ?_
  rintro e w14 ⟨rfl, t14, g14⟩
  have b14 := OwB.bel (B := w.heap.size) g1_13 g14 (by have := B13.size; omega) B13.size
  have B14 : Below w.heap.size w w14 := B13.trans b14
  have z14 := g14.size
  have s0_14 := s0_13.kept g1_13 g14 (by omega)
  have s1_14 := s1_13.kept g1_13 g14 (by omega)
  have g0_14 := g0_13.keptD g1_13 g14 gdis
  have g1_14 := g1_13.marked t14
  go_wp2_with fail
  refine (heldExS_marks g0 M0.length 1 w14 (by omega) (by omega) (by omega) (show ExRow _ _ _ _ from g0_14.row).at).mono ?_
  rintro e w15 ⟨rfl, b15⟩
  have B15 : Below w.heap.size w w15 := B14.trans (b15.mono B14.size)
  have z15 := b15.size
  have s0_15 := s0_14.below b15
  have s1_15 := s1_14.below b15
  have g0_15 := g0_14.below b15
  have g1_15 := g1_14.below b15
  go_wp2_with fail
  refine (heldInS_marks g1 M1.length (1 + 3 * M0.length) w15 (by omega) (by omega) (by omega) (show InRow _ _ _ _ from g1_15.row).at).mono ?_
  rintro e w16 ⟨rfl, b16⟩
  have B16 : Below w.heap.size w w16 := B15.trans (b16.mono B15.size)
  have z16 := b16.size
  have s0_16 := s0_15.below b16
  have s1_16 := s1_15.below b16
  have g0_16 := g0_15.below b16
  have g1_16 := g1_15.below b16
  go_wp2_with fail
  refine (toExS_any v0 l0 w16 k0 (hv0.below B16)).mono ?_
  rintro e w17 ⟨d0, rfl, t17, b17⟩
  have B17 : Below w.heap.size w w17 := B16.trans (b17.mono B16.size)
  have z17 := b17.size
  have s0_17 := s0_16.below b17
  have s1_17 := s1_16.below b17
  have g0_17 := g0_16.below b17
  have g1_17 := g1_16.below b17
  have d0_17 := OwB.new t17
  go_wp2_with fail
  refine (hI w17 d0 B17 (show ExRow _ _ _ _ from d0_17.row).at).mono ?_
  rintro e w18 ⟨h0, h1, rfl, t18h0, t18h1, hdis, b18⟩
  have B18 : Below w.heap.size w w18 := B17.trans (b18.mono B17.size)
  have z18 := b18.size
  have s0_18 := s0_17.below b18
  have s1_18 := s1_17.below b18
  have g0_18 := g0_17.below b18
  have g1_18 := g1_17.below b18
  have d0_18 := d0_17.below b18
  have h0_18 := OwB.new t18h0
  have h1_18 := OwB.new t18h1
  go_wp2_with fail
  refine (eqExS_any h0 s0 M0 M0 w18 (by omega) (show ExRow _ _ _ _ from h0_18.row).at (show ExRow _ _ _ _ from s0_18.row).at).mono ?_
  rintro e w19 ⟨rfl, b19⟩
  rw [decide_eq_true rfl]
  have B19 : Below w.heap.size w w19 := B18.trans (b19.mono B18.size)
  have z19 := b19.size
  have s0_19 := s0_18.below b19
  have s1_19 := s1_18.below b19
  have g0_19 := g0_18.below b19
  have g1_19 := g1_18.below b19
  have d0_19 := d0_18.below b19
  have h0_19 := h0_18.below b19
  have h1_19 := h1_18.below b19
  go_wp2_with fail
  refine (eqInS_any h1 s1 M1 M1 w19 (by omega) (show InRow _ _ _ _ from h1_19.row).at (show InRow _ _ _ _ from s1_19.row).at).mono ?_
  rintro e w20 ⟨rfl, b20⟩
  rw [decide_eq_true rfl]
  have B20 : Below w.heap.size w w20 := B19.trans (b20.mono B19.size)
  have z20 := b20.size
  have s0_20 := s0_19.below b20
  have s1_20 := s1_19.below b20
  have g0_20 := g0_19.below b20
  have g1_20 := g1_19.below b20
  have d0_20 := d0_19.below b20
  have h0_20 := h0_19.below b20
  have h1_20 := h1_19.below b20
  go_wp2_with fail
  refine (heldExS_marks g0 M0.length 1 w20 (by omega) (by omega) (by omega) (show ExRow _ _ _ _ from g0_20.row).at).mono ?_
  rintro e w21 ⟨rfl, b21⟩
  have B21 : Below w.heap.size w w21 := B20.trans (b21.mono B20.size)
  have z21 := b21.size
  have s0_21 := s0_20.below b21
  have s1_21 := s1_20.below b21
  have g0_21 := g0_20.below b21
  have g1_21 := g1_20.below b21
  have d0_21 := d0_20.below b21
  have h0_21 := h0_20.below b21
  have h1_21 := h1_20.below b21
  go_wp2_with fail
  refine (heldInS_marks g1 M1.length (1 + 3 * M0.length) w21 (by omega) (by omega) (by omega) (show InRow _ _ _ _ from g1_21.row).at).mono ?_
  rintro e w22 ⟨rfl, b22⟩
  have B22 : Below w.heap.size w w22 := B21.trans (b22.mono B21.size)
  have z22 := b22.size
  have s0_22 := s0_21.below b22
  have s1_22 := s1_21.below b22
  have g0_22 := g0_21.below b22
  have g1_22 := g1_21.below b22
  have d0_22 := d0_21.below b22
  have h0_22 := h0_21.below b22
  have h1_22 := h1_21.below b22
  go_wp2
  go_ret
  exact ⟨rfl, B22⟩

end Go.Proofs.Ytkbkanmmpdeokaa
