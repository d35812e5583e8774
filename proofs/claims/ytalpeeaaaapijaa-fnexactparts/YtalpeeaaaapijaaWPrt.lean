/- The walk of an exact law of chapter 3, over whatever contract of the program's function holds in every world that has the old blocks of the first. -/
import Derived.Test.YtalpeeaaaapijaaRows
import Derived.Test.YtalpeeaaaapijaaPrt3
import Derived.Test.YtalpeeaaaapijaaWRow
import Derived.WalkKit
import Derived.WalkSpells
import Derived.WalkLawsBesides
namespace Go.Proofs.Ytalpeeaaaapijaa
open Go.RowKit

set_option maxRecDepth 100000 in
set_option maxHeartbeats 1000000 in
theorem wParts (c : Int) (w : World) (hL : (partsN c).length ≤ 1048576) (hI : ∀ w', Below w.heap.size w w' → Calls Try.prog 13 #[.int .i64 c] w' fun e w'' => ∃ v, e = .returned v ∧ IntRow w'' w'.heap.size v (partsN c) ∧ Below w'.heap.size w' w'') :
    Calls Try.prog 5 #[.int .i64 c] w fun e w' => e = .returned (.bool true) ∧ Below w.heap.size w w' := by
  have hS := sParts c w
  generalize partsN c = l at hI hS hL
  go_enter Try.func5, Try.ntmps5
  go_wp2_with fail
  refine hS.mono ?_
  rintro e w1 ⟨v1, rfl, r1, hb1⟩
  go_wp2_with fail
  refine (hI w1 hb1).mono ?_
  rintro e w2 ⟨v2, rfl, r2, hb2⟩
  have B2 : Below w.heap.size w w2 := hb1.trans (hb2.mono hb1.size)
  have r12 := r1.below hb2
  go_wp2_with fail
  refine (eqIntS_any v2 v1 l l w2 (by omega) r2.at r12.at).mono ?_
  rintro e w3 ⟨rfl, hb3⟩
  rw [decide_eq_true rfl]
  have B3 : Below w.heap.size w w3 := B2.trans (hb3.mono B2.size)
  have r13 := r12.below hb3
  have r23 := r2.below hb3
  go_wp2_with fail
  refine (markIntS_any v2 l 1 w1.heap.size w3 (by omega) (by omega) (by omega) r23).mono ?_
  rintro e w4 ⟨rfl, m4, g4⟩
  have B4 : Below w.heap.size w w4 := B3.trans (below_gbi g4 (fun k hk => Nat.le_trans hb1.size (World.ownsRow.lt r23 k hk).1) B3.size)
  have r14 := marked_kept r1 (Nat.le_refl _) r13 r23 g4
  have hlen : (1 : Int) + (l.length : Int) ≤ 1048577 := by omega
  go_wp2_with fail
  refine (heldIntS_marks v2 l.length 1 w4 (by omega) (by omega) (by omega) m4.at).mono ?_
  rintro e w5 ⟨rfl, rfl⟩
  go_wp2_with fail
  refine (hI w4 B4).mono ?_
  rintro e w6 ⟨v3, rfl, r3, hb6⟩
  have B6 : Below w.heap.size w w6 := B4.trans (hb6.mono B4.size)
  have r16 := r14.below hb6
  have m6 := m4.below hb6
  go_wp2_with fail
  refine (eqIntS_any v3 v1 l l w6 (by omega) r3.at r16.at).mono ?_
  rintro e w7 ⟨rfl, hb7⟩
  rw [decide_eq_true rfl]
  have B7 : Below w.heap.size w w7 := B6.trans (hb7.mono B6.size)
  have m7 := m6.below hb7
  go_wp2_with fail
  refine (heldIntS_marks v2 l.length 1 w7 (by omega) (by omega) (by omega) m7.at).mono ?_
  rintro e w8 ⟨rfl, rfl⟩
  go_wp2
  go_ret
  exact ⟨rfl, B7⟩

end Go.Proofs.Ytalpeeaaaapijaa
