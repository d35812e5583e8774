/- The walk of an exact law of chapter 3, over whatever contract of the program's function holds in every world that has the old blocks of the first. -/
import Derived.Test.YtappmenbhddaiakRows
import Derived.Test.YtappmenbhddaiakEnc
import Derived.Test.YtappmenbhddaiakWRow
import Derived.WalkKit
import Derived.WalkSpells
import Derived.WalkLawsBesides
namespace Go.Proofs.Ytappmenbhddaiak
open Go.RowKit

set_option maxRecDepth 100000 in
set_option maxHeartbeats 1000000 in
theorem wEncode (v : Value) (l : List Int) (w : World) (hv : IntsAt w v l) (hI : l.length ≤ 1048576 → ∀ w' u, Below w.heap.size w w' → IntsAt w' u l → Calls Try.prog 9 #[u] w' fun e w'' => e = .returned (.string ⟨(encN l).toArray⟩) ∧ Below w'.heap.size w' w'') :
    Calls Try.prog 3 #[v] w fun e w' => e = .returned (.bool true) ∧ Below w.heap.size w w' := by
  obtain ⟨a, ca, rfl, -⟩ : ∃ a ca, v = .slice a l.length ca ∧ True := by obtain ⟨a, ca, e, _⟩ := hv; exact ⟨a, ca, e, trivial⟩
  by_cases hbig : (1048576 : Int) < l.length
  · go_enter Try.func3, Try.ntmps3
    go_wp2_with fail
    go_ret
    exact ⟨rfl, Below.refl _ _⟩
  · have hl : l.length ≤ 1048576 := by omega
    have hI' := hI hl
    have hS := fun w' u hu => sEncode u l w' hl hu
    generalize encN l = r at hS hI'
    clear hI
    go_enter Try.func3, Try.ntmps3
    go_wp2_with fail
    refine (toIntS_any _ l w hl hv).mono ?_
    rintro e w1 ⟨u1, rfl, r1, hb1⟩
    go_wp2_with fail
    refine (hS w1 u1 r1.at).mono ?_
    rintro e w2 ⟨rfl, hb2⟩
    have B2 : Below w.heap.size w w2 := hb1.trans (hb2.mono hb1.size)
    go_wp2_with fail
    refine (toIntS_any _ l w2 hl (hv.below B2)).mono ?_
    rintro e w3 ⟨u3, rfl, r3, hb3⟩
    have B3 : Below w.heap.size w w3 := B2.trans (hb3.mono B2.size)
    go_wp2_with fail
    refine (hI' w3 u3 B3 r3.at).mono ?_
    rintro e w4 ⟨rfl, hb4⟩
    have B4 : Below w.heap.size w w4 := B3.trans (hb4.mono B3.size)
    have r34 := r3.below hb4
    go_wp2_with fail
    refine (toIntS_any _ l w4 hl (hv.below B4)).mono ?_
    rintro e w5 ⟨u5, rfl, r5, hb5⟩
    have B5 : Below w.heap.size w w5 := B4.trans (hb5.mono B4.size)
    have r35 := r34.below hb5
    go_wp2_with fail
    refine (eqIntS_any u3 u5 l l w5 (by omega) r35.at r5.at).mono ?_
    rintro e w6 ⟨rfl, hb6⟩
    rw [decide_eq_true rfl]
    go_wp2
    go_ret
    exact ⟨rfl, B5.trans (hb6.mono B5.size)⟩

end Go.Proofs.Ytappmenbhddaiak
