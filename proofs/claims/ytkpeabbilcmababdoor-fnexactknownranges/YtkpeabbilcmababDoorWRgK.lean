/- KnownRanges's law, given what both sides answer. Made by mkwex.py. -/
import Derived.Test.YtkpeabbilcmababDoorRows
import Derived.Test.YtkpeabbilcmababDoorOwK
import Derived.Test.YtkpeabbilcmababDoorRgL
namespace Go.Proofs.YtkpeabbilcmababDoor
open Go.RowKit Go.Sort

set_option maxRecDepth 100000 in
set_option maxHeartbeats 4000000 in
theorem wKnownRanges  (M0 : List Rg) (w : World)  (hM0 : M0.length ≤ 2097152)
    (hS : ∀ w', Below w.heap.size w w' → Calls Tryd.prog 4 #[] w' fun e w'' => ∃ x0, e = .returned (x0) ∧ RgRow w'' w'.heap.size x0 M0 ∧ Below w'.heap.size w' w'')
    (hI : ∀ w', Below w.heap.size w w' → Calls Tryd.prog 5 #[] w' fun e w'' => ∃ x0, e = .returned (x0) ∧ RgRow w'' w'.heap.size x0 M0 ∧ Below w'.heap.size w' w'') :
    Calls Tryd.prog 3 #[] w fun e w' => e = .returned (.bool true) ∧ Below w.heap.size w w' := by
  go_enter Tryd.func3, Tryd.ntmps3
  go_wp2_with fail
  refine (hS w (Below.refl _ _)).mono ?_
  rintro e w1 ⟨s0, rfl, t1s0, b1⟩
  have B1 : Below w.heap.size w w1 := b1
  have z1 := b1.size
  have s0_1 := OwB.new t1s0
  go_wp2_with fail
  refine (hI w1 B1).mono ?_
  rintro e w2 ⟨g0, rfl, t2g0, b2⟩
  have B2 : Below w.heap.size w w2 := B1.trans (b2.mono B1.size)
  have z2 := b2.size
  have s0_2 := s0_1.below b2
  have g0_2 := OwB.new t2g0
  go_wp2_with fail
  refine (eqRgS_any g0 s0 M0 M0 w2 (by omega) (show RgRow _ _ _ _ from g0_2.row).at (show RgRow _ _ _ _ from s0_2.row).at).mono ?_
  rintro e w3 ⟨rfl, b3⟩
  rw [decide_eq_true rfl]
  have B3 : Below w.heap.size w w3 := B2.trans (b3.mono B2.size)
  have z3 := b3.size
  have s0_3 := s0_2.below b3
  have g0_3 := g0_2.below b3
  go_wp2_with fail
  refine (markRgS_any g0 M0 1 w1.heap.size w3 g0_3.row (by omega) (by omega) (by omega)).mono ?_
  rintro e w4 ⟨rfl, t4, g4⟩
  have b4 := OwB.bel (B := w.heap.size) g0_3 g4 (by have := B3.size; omega) B3.size
  have B4 : Below w.heap.size w w4 := B3.trans b4
  have z4 := g4.size
  have s0_4 := s0_3.kept g0_3 g4 (by omega)
  have g0_4 := g0_3.marked t4
  go_wp2_with fail
  refine (heldRgS_marks g0 M0.length 1 w4 (by omega) (by omega) (by omega) (show RgRow _ _ _ _ from g0_4.row).at).mono ?_
  rintro e w5 ⟨rfl, b5⟩
  have B5 : Below w.heap.size w w5 := B4.trans (b5.mono B4.size)
  have z5 := b5.size
  have s0_5 := s0_4.below b5
  have g0_5 := g0_4.below b5
  go_wp2_with fail
  refine (hI w5 B5).mono ?_
  rintro e w6 ⟨h0, rfl, t6h0, b6⟩
  have B6 : Below w.heap.size w w6 := B5.trans (b6.mono B5.size)
  have z6 := b6.size
  have s0_6 := s0_5.below b6
  have g0_6 := g0_5.below b6
  have h0_6 := OwB.new t6h0
  go_wp2_with fail
  refine (eqRgS_any h0 s0 M0 M0 w6 (by omega) (show RgRow _ _ _ _ from h0_6.row).at (show RgRow _ _ _ _ from s0_6.row).at).mono ?_
  rintro e w7 ⟨rfl, b7⟩
  rw [decide_eq_true rfl]
  have B7 : Below w.heap.size w w7 := B6.trans (b7.mono B6.size)
  have z7 := b7.size
  have s0_7 := s0_6.below b7
  have g0_7 := g0_6.below b7
  have h0_7 := h0_6.below b7
  go_wp2_with fail
  refine (heldRgS_marks g0 M0.length 1 w7 (by omega) (by omega) (by omega) (show RgRow _ _ _ _ from g0_7.row).at).mono ?_
  rintro e w8 ⟨rfl, b8⟩
  have B8 : Below w.heap.size w w8 := B7.trans (b8.mono B7.size)
  have z8 := b8.size
  have s0_8 := s0_7.below b8
  have g0_8 := g0_7.below b8
  have h0_8 := h0_7.below b8
  go_wp2
  go_ret
  exact ⟨rfl, B8⟩

end Go.Proofs.YtkpeabbilcmababDoor
