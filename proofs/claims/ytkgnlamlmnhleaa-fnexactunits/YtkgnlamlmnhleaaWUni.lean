/- The walk of the exact law of Units, over whatever contract of the program's function holds in every world that has the old blocks of the first. -/
import Derived.Test.YtkgnlamlmnhleaaRows
import Derived.Test.YtkgnlamlmnhleaaSUo
import Derived.Test.YtkgnlamlmnhleaaWRow
import Derived.Test.YtkgnlamlmnhleaaWRw2
namespace Go.Proofs.Ytkgnlamlmnhleaa
open Go.RowKit

theorem units_tot (l : List Int) : tot (unitsN l) = l.length := by rw [tot_flat, (units_right l).all]
theorem units_row (l : List Int) (t : Nat) : (lD (unitsN l) t).length ≤ l.length := by
  by_cases h : t < (unitsN l).length
  · have h1 := tot_take (unitsN l) t h
    have h2 := tot_take_le (unitsN l) (t + 1)
    rw [units_tot] at h2
    omega
  · simp [lD, List.getD, List.getElem?_eq_none (Nat.le_of_not_lt h)]
set_option maxRecDepth 100000 in
set_option maxHeartbeats 2000000 in
theorem wUnits (v : Value) (l : List Int) (w : World) (hv : IntsAt w v l) (hcap : l.length ≤ 9223372036854775807)
    (hI : l.length ≤ 1048576 → ∀ w' u, Below w.heap.size w w' → IntsC w' u l → Calls Try.prog 9 #[u] w' fun e w'' => ∃ x xs, e = .returned x ∧ RwsRow w'' w'.heap.size x xs (unitsN l) ∧ Below w'.heap.size w' w'') :
    Calls Try.prog 6 #[v] w fun e w' => e = .returned (.bool true) ∧ Below w.heap.size w w' := by
  obtain ⟨a, ca, rfl, -⟩ : ∃ a ca, v = .slice a l.length ca ∧ True := by obtain ⟨a, ca, e, _⟩ := hv; exact ⟨a, ca, e, trivial⟩
  by_cases hbig : (1048576 : Int) < l.length
  · go_enter Try.func6, Try.ntmps6
    go_wp2_with fail
    go_ret
    exact ⟨rfl, Below.refl _ _⟩
  · have hl : l.length ≤ 1048576 := by omega
    have hI' := hI hl
    have hS := fun w' u hu => sUnits u l w' (by omega) hu
    have hT := units_tot l
    have hR : ∀ t, t < (unitsN l).length → (lD (unitsN l) t).length ≤ 9223372036854775807 := fun t _ => Nat.le_trans (units_row l t) (by omega)
    have hM := units_len l
    generalize unitsN l = M at hS hI' hT hR hM
    clear hI
    go_enter Try.func6, Try.ntmps6
    go_wp2_with fail
    refine (toIntS_any _ l w hl hv).mono ?_
    rintro e w1 ⟨u1, rfl, r1, b1⟩
    go_wp2_with fail
    refine (hS w1 u1 r1.c).mono ?_
    rintro e w2 ⟨v1, vs1, rfl, s2, b2⟩
    have B2 : Below w.heap.size w w2 := b1.trans (b2.mono b1.size)
    have s2 := s2.at
    go_wp2_with fail
    refine (toIntS_any _ l w2 hl (hv.below B2)).mono ?_
    rintro e w3 ⟨u3, rfl, r3, b3⟩
    have B3 : Below w.heap.size w w3 := B2.trans (b3.mono B2.size)
    have C3 : Below w2.heap.size w2 w3 := b3
    go_wp2_with fail
    refine (hI' w3 u3 B3 r3.c).mono ?_
    rintro e w4 ⟨v4, vs4, rfl, g4, b4⟩
    have B4 : Below w.heap.size w w4 := B3.trans (b4.mono B3.size)
    have C4 : Below w2.heap.size w2 w4 := C3.trans (b4.mono C3.size)
    have r4 := r3.below b4
    go_wp2_with fail
    refine (eqIntSS_any v4 v1 M M w4 (by omega) hR g4.at (s2.below C4)).mono ?_
    rintro e w5 ⟨rfl, b5⟩
    rw [decide_eq_true rfl]
    have B5 : Below w.heap.size w w5 := B4.trans (b5.mono B4.size)
    have C5 : Below w2.heap.size w2 w5 := C4.trans (b5.mono C4.size)
    have r5 := r4.below b5
    have g5 := g4.below b5
    go_wp2_with fail
    refine (toIntS_any _ l w5 hl (hv.below B5)).mono ?_
    rintro e w6 ⟨u6, rfl, r6, b6⟩
    have B6 : Below w.heap.size w w6 := B5.trans (b6.mono B5.size)
    have C6 : Below w2.heap.size w2 w6 := C5.trans (b6.mono C5.size)
    have q6 := r5.below b6
    have g6 := g5.below b6
    go_wp2_with fail
    refine (eqIntS_any u3 u6 l l w6 (by omega) q6.at r6.at).mono ?_
    rintro e w7 ⟨rfl, b7⟩
    rw [decide_eq_true rfl]
    have B7 : Below w.heap.size w w7 := B6.trans (b7.mono B6.size)
    have C7 : Below w2.heap.size w2 w7 := C6.trans (b7.mono C6.size)
    have q7 := q6.below b7
    have g7 := g6.below b7
    have hll : (1 : Int) + (l.length : Int) ≤ 1048577 := by omega
    have hl0 : (0 : Int) ≤ (l.length : Int) := by omega
    go_wp2_with fail
    refine (markIntS_any u3 l 1 w2.heap.size w7 (by omega) (by omega) (by omega) q7).mono ?_
    rintro e w8 ⟨rfl, m8, k8⟩
    have B8 : Below w.heap.size w w8 := B7.trans (below_gbi k8 (fun k hk => Nat.le_trans B2.size (World.ownsRow.lt q7 k hk).1) B7.size)
    have C8 : Below w2.heap.size w2 w8 := C7.trans (below_gbi k8 (fun k hk => (World.ownsRow.lt q7 k hk).1) C7.size)
    have g8 := g7.kept k8 (fun k hk => (World.ownsRow.lt r3 k hk).2)
    go_wp2_with fail
    refine (eqIntSS_any v4 v1 M M w8 (by omega) hR g8.at (s2.below C8)).mono ?_
    rintro e w9 ⟨rfl, b9⟩
    rw [decide_eq_true rfl]
    have B9 : Below w.heap.size w w9 := B8.trans (b9.mono B8.size)
    have C9 : Below w2.heap.size w2 w9 := C8.trans (b9.mono C8.size)
    have g9 := g8.below b9
    have h39 : w3.heap.size ≤ w9.heap.size := Nat.le_trans b4.size (Nat.le_trans b5.size (Nat.le_trans b6.size (Nat.le_trans b7.size (Nat.le_trans k8.size b9.size))))
    have hmm : (1 : Int) + ((tot M : Nat) : Int) ≤ 1048577 := by omega
    have hm0 : (0 : Int) ≤ ((tot M : Nat) : Int) := by omega
    have HMK := markSS_any v4 vs4 M 1 w3.heap.size w9 g9 h39 (by omega) (by omega) (by omega)
    have HHE := fun w' h => heldSS_marks v4 M 1 w' h (by omega) (by omega) (by omega)
    clear hT
    generalize tot M = T at HMK HHE hmm hm0
    go_wp2_with fail
    refine HMK.mono ?_
    rintro e w10 ⟨rfl, m10, k10⟩
    have B10 : Below w.heap.size w w10 := B9.trans (k10.mono B3.size)
    have C10 : Below w2.heap.size w2 w10 := C9.trans (k10.mono C3.size)
    go_wp2_with fail
    refine (HHE w10 m10.at).mono ?_
    rintro e w11 ⟨rfl, rfl⟩
    go_wp2_with fail
    refine (toIntS_any _ l w10 hl (hv.below B10)).mono ?_
    rintro e w12 ⟨u12, rfl, r12, b12⟩
    have B12 : Below w.heap.size w w12 := B10.trans (b12.mono B10.size)
    have C12 : Below w2.heap.size w2 w12 := C10.trans (b12.mono C10.size)
    have m12 := m10.below b12
    go_wp2_with fail
    refine (hI' w12 u12 B12 r12.c).mono ?_
    rintro e w13 ⟨v13, vs13, rfl, g13, b13⟩
    have B13 : Below w.heap.size w w13 := B12.trans (b13.mono B12.size)
    have C13 : Below w2.heap.size w2 w13 := C12.trans (b13.mono C12.size)
    have m13 := m12.below b13
    go_wp2_with fail
    refine (eqIntSS_any v13 v1 M M w13 (by omega) hR g13.at (s2.below C13)).mono ?_
    rintro e w14 ⟨rfl, b14⟩
    rw [decide_eq_true rfl]
    have B14 : Below w.heap.size w w14 := B13.trans (b14.mono B13.size)
    have m14 := m13.below b14
    go_wp2_with fail
    refine (HHE w14 m14.at).mono ?_
    rintro e w15 ⟨rfl, rfl⟩
    go_wp2
    go_ret
    exact ⟨rfl, B14⟩

end Go.Proofs.Ytkgnlamlmnhleaa
