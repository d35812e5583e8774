/- The walk of the exact law of Compose, over whatever contract of the program's function holds in every world that has the old blocks of the first. -/
import Derived.Test.YtkgnlamlmnhleaaRows
import Derived.Test.YtkgnlamlmnhleaaIntS
import Derived.Test.YtkgnlamlmnhleaaSCm
import Derived.Test.YtkgnlamlmnhleaaWRow
import Derived.Test.YtkgnlamlmnhleaaWRw2
namespace Go.Proofs.Ytkgnlamlmnhleaa
open Go.RowKit

set_option maxRecDepth 100000 in
set_option maxHeartbeats 2000000 in
theorem wCompose (v : Value) (l : List Int) (w : World) (hv : IntsAt w v l) (hcap : l.length ≤ 9223372036854775807) (hL : l.length ≤ 1048576 → (composeN l).length ≤ 16777216)
    (hI : l.length ≤ 1048576 → ∀ w' u, Below w.heap.size w w' → IntsAt w' u l → Calls Try.prog 16 #[u] w' fun e w'' => ∃ x, e = .returned x ∧ IntRow w'' w'.heap.size x (composeN l) ∧ Below w'.heap.size w' w'') :
    Calls Try.prog 5 #[v] w fun e w' => e = .returned (.bool true) ∧ Below w.heap.size w w' := by
  obtain ⟨a, ca, rfl, -⟩ : ∃ a ca, v = .slice a l.length ca ∧ True := by obtain ⟨a, ca, e, _⟩ := hv; exact ⟨a, ca, e, trivial⟩
  by_cases hbig : (1048576 : Int) < l.length
  · go_enter Try.func5, Try.ntmps5
    go_wp2_with fail
    go_ret
    exact ⟨rfl, Below.refl _ _⟩
  · have hl : l.length ≤ 1048576 := by omega
    have hI' := hI hl
    have hM := hL hl
    have hS := fun w' u hu => sCompose u l w' (by omega) hu
    generalize composeN l = M at hS hI' hM
    clear hI hL
    go_enter Try.func5, Try.ntmps5
    go_wp2_with fail
    refine (toIntS_any _ l w hl hv).mono ?_
    rintro e w1 ⟨u1, rfl, r1, b1⟩
    go_wp2_with fail
    refine (hS w1 u1 r1.at).mono ?_
    rintro e w2 ⟨v1, rfl, s2, b2⟩
    have B2 : Below w.heap.size w w2 := b1.trans (b2.mono b1.size)
    go_wp2_with fail
    refine (toIntS_any _ l w2 hl (hv.below B2)).mono ?_
    rintro e w3 ⟨u3, rfl, r3, b3⟩
    have B3 : Below w.heap.size w w3 := B2.trans (b3.mono B2.size)
    have s3 := s2.below b3
    go_wp2_with fail
    refine (hI' w3 u3 B3 r3.at).mono ?_
    rintro e w4 ⟨v4, rfl, g4, b4⟩
    have B4 : Below w.heap.size w w4 := B3.trans (b4.mono B3.size)
    have s4 := s3.below b4
    have r4 := r3.below b4
    go_wp2_with fail
    refine (eqIntS_any v4 v1 M M w4 (by omega) g4.at s4.at).mono ?_
    rintro e w5 ⟨rfl, b5⟩
    rw [decide_eq_true rfl]
    have B5 : Below w.heap.size w w5 := B4.trans (b5.mono B4.size)
    have s5 := s4.below b5
    have r5 := r4.below b5
    have g5 := g4.below b5
    go_wp2_with fail
    refine (toIntS_any _ l w5 hl (hv.below B5)).mono ?_
    rintro e w6 ⟨u6, rfl, r6, b6⟩
    have B6 : Below w.heap.size w w6 := B5.trans (b6.mono B5.size)
    have s6 := s5.below b6
    have q6 := r5.below b6
    have g6 := g5.below b6
    go_wp2_with fail
    refine (eqIntS_any u3 u6 l l w6 (by omega) q6.at r6.at).mono ?_
    rintro e w7 ⟨rfl, b7⟩
    rw [decide_eq_true rfl]
    have B7 : Below w.heap.size w w7 := B6.trans (b7.mono B6.size)
    have s7 := s6.below b7
    have q7 := q6.below b7
    have g7 := g6.below b7
    have hll : (1 : Int) + (l.length : Int) ≤ 1048577 := by omega
    have hl0 : (0 : Int) ≤ (l.length : Int) := by omega
    go_wp2_with fail
    refine (markIntS_any u3 l 1 w2.heap.size w7 (by omega) (by omega) (by omega) q7).mono ?_
    rintro e w8 ⟨rfl, m8, k8⟩
    have B8 : Below w.heap.size w w8 := B7.trans (below_gbi k8 (fun k hk => Nat.le_trans B2.size (World.ownsRow.lt q7 k hk).1) B7.size)
    have s8 := marked_kept s2 (Nat.le_refl _) s7 q7 k8
    have g8 := marked_kept2 r3 (Nat.le_refl _) g7 q7 k8
    go_wp2_with fail
    refine (eqIntS_any v4 v1 M M w8 (by omega) g8.at s8.at).mono ?_
    rintro e w9 ⟨rfl, b9⟩
    rw [decide_eq_true rfl]
    have B9 : Below w.heap.size w w9 := B8.trans (b9.mono B8.size)
    have s9 := s8.below b9
    have g9 := g8.below b9
    have hmm : (1 : Int) + (M.length : Int) ≤ 16777217 := by omega
    have hm0 : (0 : Int) ≤ (M.length : Int) := by omega
    go_wp2_with fail
    refine (markIntS_any v4 M 1 w3.heap.size w9 (by omega) (by omega) (by omega) g9).mono ?_
    rintro e w10 ⟨rfl, m10, k10⟩
    have B10 : Below w.heap.size w w10 := B9.trans (below_gbi k10 (fun k hk => Nat.le_trans B3.size (World.ownsRow.lt g9 k hk).1) B9.size)
    have s10 := marked_kept s2 b3.size s9 g9 k10
    go_wp2_with fail
    refine (heldIntS_marks v4 M.length 1 w10 (by omega) (by omega) (by omega) m10.at).mono ?_
    rintro e w11 ⟨rfl, rfl⟩
    go_wp2_with fail
    refine (toIntS_any _ l w10 hl (hv.below B10)).mono ?_
    rintro e w12 ⟨u12, rfl, r12, b12⟩
    have B12 : Below w.heap.size w w12 := B10.trans (b12.mono B10.size)
    have s12 := s10.below b12
    have m12 := m10.below b12
    go_wp2_with fail
    refine (hI' w12 u12 B12 r12.at).mono ?_
    rintro e w13 ⟨v13, rfl, g13, b13⟩
    have B13 : Below w.heap.size w w13 := B12.trans (b13.mono B12.size)
    have s13 := s12.below b13
    have m13 := m12.below b13
    go_wp2_with fail
    refine (eqIntS_any v13 v1 M M w13 (by omega) g13.at s13.at).mono ?_
    rintro e w14 ⟨rfl, b14⟩
    rw [decide_eq_true rfl]
    have B14 : Below w.heap.size w w14 := B13.trans (b14.mono B13.size)
    have m14 := m13.below b14
    go_wp2_with fail
    refine (heldIntS_marks v4 M.length 1 w14 (by omega) (by omega) (by omega) m14.at).mono ?_
    rintro e w15 ⟨rfl, rfl⟩
    go_wp2
    go_ret
    exact ⟨rfl, B14⟩

end Go.Proofs.Ytkgnlamlmnhleaa
