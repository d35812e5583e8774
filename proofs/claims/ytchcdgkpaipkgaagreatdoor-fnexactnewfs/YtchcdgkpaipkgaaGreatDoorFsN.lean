/- Machines: a new machine; laws.eqFs, markFs, heldFs of it. -/
import Derived.Test.YtchcdgkpaipkgaaGreatDoorRows
import Derived.Test.YtchcdgkpaipkgaaGreatDoorWJf
import Derived.Test.YtchcdgkpaipkgaaGreatDoorQd
import Derived.Test.YtchcdgkpaipkgaaGreatDoorLVn
namespace Go.Proofs.YtchcdgkpaipkgaaGreatDoor
open Go.RowKit Go.Sort

/-- a new machine's value: its volume's row in block g, its blocks at xb, its device's at xa and xd -/
def fsC (g : Nat) (xb : Option Addr) (cb : Nat) (xa : Option Addr) (ca : Nat) (xd : Option Addr) (cd : Nat) : Array Value := #[.bool true, .int .i64 2, .slice (some ⟨g, 0, none⟩) 1 1, .int .i64 0, .slice none 0 0, .slice xb 17 cb, .int .i64 0, .int .i64 0, .slice xa 18 ca, .slice xd 0 cd, .slice none 0 0, .int .i64 0, .int .i64 0]
/-- how a new machine lies, in memory from N on -/
structure NfRow (w : World) (N : Nat) (g : Nat) (xb : Option Addr) (cb : Nat) (xa : Option Addr) (ca : Nat) (xd : Option Addr) (cd : Nat) : Prop where
  i : InoRow w N (.slice (some ⟨g, 0, none⟩) 1 1) [(rootI, .slice none 0 0)]
  t : TxtRow w N (.slice xb 17 cb) (blocksN newVo)
  v : DevRow w N (.slice xa 18 ca) (.slice xd 0 cd) ⟨formatN, []⟩
section
variable {w w' : World} {N g cb ca cd : Nat} {xb xa xd : Option Addr}
theorem NfRow.below (h : NfRow w N g xb cb xa ca xd cd) (b : Below w.heap.size w w') : NfRow w' N g xb cb xa ca xd cd := ⟨h.i.below b, h.t.below b, h.v.below b⟩
theorem NfRow.mono {M : Nat} (h : NfRow w N g xb cb xa ca xd cd) (hM : M ≤ N) : NfRow w M g xb cb xa ca xd cd := ⟨h.i.mono hM, h.t.mono hM, h.v.mono hM⟩
end
theorem cells13 {W : World} {q : Nat} {T : TypeId} {c0 c1 c2 c3 c4 c5 c6 c7 c8 c9 c10 c11 c12 : Value} (h : W.heap[q]? = some (.cells #[c0, c1, c2, c3, c4, c5, c6, c7, c8, c9, c10, c11, c12] T)) :
    ((W.cell? ⟨q, 0, none⟩ = some c0 ∧ W.cell? ⟨q, 1, none⟩ = some c1 ∧ W.cell? ⟨q, 2, none⟩ = some c2) ∧ (W.cell? ⟨q, 3, none⟩ = some c3 ∧ W.cell? ⟨q, 4, none⟩ = some c4 ∧ W.cell? ⟨q, 5, none⟩ = some c5)) ∧ (W.cell? ⟨q, 6, none⟩ = some c6 ∧ W.cell? ⟨q, 7, none⟩ = some c7 ∧ W.cell? ⟨q, 8, none⟩ = some c8) ∧ (W.cell? ⟨q, 9, none⟩ = some c9 ∧ W.cell? ⟨q, 10, none⟩ = some c10) ∧ W.cell? ⟨q, 11, none⟩ = some c11 ∧ W.cell? ⟨q, 12, none⟩ = some c12 :=
  ⟨⟨⟨Joins.cell_of_block h 0, Joins.cell_of_block h 1, Joins.cell_of_block h 2⟩, Joins.cell_of_block h 3, Joins.cell_of_block h 4, Joins.cell_of_block h 5⟩, ⟨Joins.cell_of_block h 6, Joins.cell_of_block h 7, Joins.cell_of_block h 8⟩, ⟨Joins.cell_of_block h 9, Joins.cell_of_block h 10⟩, Joins.cell_of_block h 11, Joins.cell_of_block h 12⟩

set_option maxRecDepth 100000 in
theorem eqCallS_nil (w : World) : Calls Tryz.prog 19 #[.slice none 0 0, .slice none 0 0] w fun e w' => e = .returned (.bool true) ∧ Below w.heap.size w w' := by
  go_enter Tryz.func19, Tryz.ntmps19
  go_wp2
  refine wp_loop_rounds 1 ?_
  rw [rounds_succ]
  go_wp2
  go_ret
  exact ⟨rfl, Below.refl _ _⟩

set_option maxRecDepth 100000 in
theorem markCallS_nil (k : Int) (w : World) : Calls Tryz.prog 23 #[.slice none 0 0, .int .i64 k] w fun e w' => e = .returned (.int .i64 k) ∧ Below w.heap.size w w' := by
  go_enter Tryz.func23, Tryz.ntmps23
  go_wp2
  refine wp_loop_rounds 1 ?_
  rw [rounds_succ]
  go_wp2
  go_ret
  exact ⟨rfl, Below.refl _ _⟩

set_option maxRecDepth 100000 in
theorem heldCallS_nil (k : Int) (w : World) : Calls Tryz.prog 27 #[.slice none 0 0, .int .i64 k] w fun e w' => e = .returned (.int .i64 k) ∧ Below w.heap.size w w' := by
  go_enter Tryz.func27, Tryz.ntmps27
  go_wp2
  refine wp_loop_rounds 1 ?_
  rw [rounds_succ]
  go_wp2
  go_ret
  exact ⟨rfl, Below.refl _ _⟩

theorem nilV_at (w : World) : VolAt w (.agg #[.int .i64 0, .slice none 0 0]) ⟨0, []⟩ := ⟨_, rfl, none, 0, rfl, fun _ => rfl, fun t ht => by simp at ht⟩
theorem nilV_row (w : World) (base : Nat) : InoRow w base (.slice none 0 0) [] := ⟨⟨rfl, .inl ⟨rfl, rfl⟩⟩, fun t ht => by simp at ht, List.Pairwise.nil⟩

set_option maxRecDepth 100000 in
set_option maxHeartbeats 2000000 in
theorem eqFs_new (g : Nat) (xb : Option Addr) (cb : Nat) (xa : Option Addr) (ca : Nat) (xd : Option Addr) (cd : Nat) (g' : Nat) (xb' : Option Addr) (cb' : Nat) (xa' : Option Addr) (ca' : Nat) (xd' : Option Addr) (cd' : Nat) (N N' : Nat) (w : World) (h : NfRow w N g xb cb xa ca xd cd) (h' : NfRow w N' g' xb' cb' xa' ca' xd' cd') :
    Calls Tryz.prog 6 #[.agg (fsC g xb cb xa ca xd cd), .agg (fsC g' xb' cb' xa' ca' xd' cd')] w fun e w' => e = .returned (.bool true) ∧ Below w.heap.size w w' := by
  have HV : Hid (∀ W, Below w.heap.size w W → Calls Tryz.prog 16 #[.agg #[.int .i64 2, .slice (some ⟨g, 0, none⟩) 1 1], .agg #[.int .i64 2, .slice (some ⟨g', 0, none⟩) 1 1]] W fun e w'' => e = .returned (.bool true) ∧ Below W.heap.size W w'') := fun W b => eqVol_same _ _ newVo W (by decide) one_short (newVo_at (h.i.below b)) (newVo_at (h'.i.below b))
  have HG : Hid (∀ W, Calls Tryz.prog 16 #[.agg #[.int .i64 0, .slice none 0 0], .agg #[.int .i64 0, .slice none 0 0]] W fun e w'' => e = .returned (.bool true) ∧ Below W.heap.size W w'') := fun W => eqVol_same _ _ ⟨0, []⟩ W (by decide) (fun y hy => by cases hy) (nilV_at W) (nilV_at W)
  have HT : Hid (∀ W, Below w.heap.size w W → Calls Tryz.prog 17 #[.slice xb 17 cb, .slice xb' 17 cb'] W fun e w'' => e = .returned (.bool true) ∧ Below W.heap.size W w'') := fun W b => by
    have := eqStringS_any _ _ (blocksN newVo) (blocksN newVo) W (by rw [blocksN_len]; decide) (h.t.below b).at (h'.t.below b).at
    rwa [decide_eq_true rfl] at this
  have HD : Hid (∀ W, Below w.heap.size w W → Calls Tryz.prog 18 #[.agg #[.slice xa 18 ca, .slice xd 0 cd], .agg #[.slice xa' 18 ca', .slice xd' 0 cd']] W fun e w'' => e = .returned (.bool true) ∧ Below W.heap.size W w'') := fun W b => by
    have := eqDev_any _ _ ⟨formatN, []⟩ ⟨formatN, []⟩ W (by show formatN.length ≤ _; rw [formatN_len]; decide) (by decide) (h.v.below b).at (h'.v.below b).at
    rwa [decide_eq_true rfl] at this
  clear h h'
  unfold fsC
  obtain ⟨W0, HW0⟩ : ∃ W0, Hid (W0 = (w.alloc (.cells #[.bool true, .int .i64 2, .slice (some ⟨g, 0, none⟩) 1 1, .int .i64 0, .slice none 0 0, .slice xb 17 cb, .int .i64 0, .int .i64 0, .slice xa 18 ca, .slice xd 0 cd, .slice none 0 0, .int .i64 0, .int .i64 0] 31)).alloc (.cells #[.bool true, .int .i64 2, .slice (some ⟨g', 0, none⟩) 1 1, .int .i64 0, .slice none 0 0, .slice xb' 17 cb', .int .i64 0, .int .i64 0, .slice xa' 18 ca', .slice xd' 0 cd', .slice none 0 0, .int .i64 0, .int .i64 0] 31)) := ⟨_, rfl⟩
  have hz : (w.alloc (.cells #[.bool true, .int .i64 2, .slice (some ⟨g, 0, none⟩) 1 1, .int .i64 0, .slice none 0 0, .slice xb 17 cb, .int .i64 0, .int .i64 0, .slice xa 18 ca, .slice xd 0 cd, .slice none 0 0, .int .i64 0, .int .i64 0] 31)).heap.size = w.heap.size + 1 := by simp
  have o1 : W0.heap[w.heap.size]? = some (.cells #[.bool true, .int .i64 2, .slice (some ⟨g, 0, none⟩) 1 1, .int .i64 0, .slice none 0 0, .slice xb 17 cb, .int .i64 0, .int .i64 0, .slice xa 18 ca, .slice xd 0 cd, .slice none 0 0, .int .i64 0, .int .i64 0] 31) := by
    rw [HW0.out]
    exact (Below.heap_alloc _ _ _ (by rw [hz]; omega)).trans (MapKept.heap_alloc w _).1
  have o2 : W0.heap[w.heap.size + 1]? = some (.cells #[.bool true, .int .i64 2, .slice (some ⟨g', 0, none⟩) 1 1, .int .i64 0, .slice none 0 0, .slice xb' 17 cb', .int .i64 0, .int .i64 0, .slice xa' 18 ca', .slice xd' 0 cd', .slice none 0 0, .int .i64 0, .int .i64 0] 31) := by
    rw [HW0.out, ← hz]
    exact (MapKept.heap_alloc _ _).1
  have B0 : Below w.heap.size w W0 := by rw [HW0.out]; exact ((Below.refl _ _).alloc (Nat.le_refl _) _).alloc (by simp) _
  have HB : Hid (∀ W, Below W0.heap.size W0 W → Below w.heap.size w W) := fun W b => B0.trans (b.mono B0.size)
  have HC1 : Hid (∀ W, Below W0.heap.size W0 W → _) := fun W b => cells13 ((b.block _ (lt_of_block o1)).trans o1)
  have HC2 : Hid (∀ W, Below W0.heap.size W0 W → _) := fun W b => cells13 ((b.block _ (lt_of_block o2)).trans o2)
  clear o1 o2 B0 hz
  go_enter Tryz.func6, Tryz.ntmps6
  go_upto_region 1 with fail
  rw [← HW0.out]
  obtain ⟨⟨⟨a0, a1, a2⟩, a3, a4, a5⟩, ⟨a6, a7, a8⟩, ⟨a9, a10⟩, a11, a12⟩ := HC1.out W0 (Below.refl _ _)
  obtain ⟨⟨⟨b0, b1, b2⟩, b3, b4, b5⟩, ⟨b6, b7, b8⟩, ⟨b9, b10⟩, b11, b12⟩ := HC2.out W0 (Below.refl _ _)
  go_wp2_with fail
  refine (HV.out _ (HB.out _ (Below.refl _ _))).mono ?_
  rintro e w1 ⟨rfl, D1⟩
  clear a0 a1 a2 a3 a4 a5 a6 a7 a8 a9 a10 a11 a12 b0 b1 b2 b3 b4 b5 b6 b7 b8 b9 b10 b11 b12
  obtain ⟨⟨⟨a0, a1, a2⟩, a3, a4, a5⟩, ⟨a6, a7, a8⟩, ⟨a9, a10⟩, a11, a12⟩ := HC1.out w1 D1
  obtain ⟨⟨⟨b0, b1, b2⟩, b3, b4, b5⟩, ⟨b6, b7, b8⟩, ⟨b9, b10⟩, b11, b12⟩ := HC2.out w1 D1
  go_wp2_with fail
  refine (HG.out w1).mono ?_
  rintro e w2 ⟨rfl, d2⟩
  have D2 := D1.trans (d2.mono D1.size)
  clear a0 a1 a2 a3 a4 a5 a6 a7 a8 a9 a10 a11 a12 b0 b1 b2 b3 b4 b5 b6 b7 b8 b9 b10 b11 b12
  obtain ⟨⟨⟨a0, a1, a2⟩, a3, a4, a5⟩, ⟨a6, a7, a8⟩, ⟨a9, a10⟩, a11, a12⟩ := HC1.out w2 D2
  obtain ⟨⟨⟨b0, b1, b2⟩, b3, b4, b5⟩, ⟨b6, b7, b8⟩, ⟨b9, b10⟩, b11, b12⟩ := HC2.out w2 D2
  go_wp2_with fail
  refine (HT.out _ (HB.out _ D2)).mono ?_
  rintro e w3 ⟨rfl, d3⟩
  have D3 := D2.trans (d3.mono D2.size)
  clear a0 a1 a2 a3 a4 a5 a6 a7 a8 a9 a10 a11 a12 b0 b1 b2 b3 b4 b5 b6 b7 b8 b9 b10 b11 b12
  obtain ⟨⟨⟨a0, a1, a2⟩, a3, a4, a5⟩, ⟨a6, a7, a8⟩, ⟨a9, a10⟩, a11, a12⟩ := HC1.out w3 D3
  obtain ⟨⟨⟨b0, b1, b2⟩, b3, b4, b5⟩, ⟨b6, b7, b8⟩, ⟨b9, b10⟩, b11, b12⟩ := HC2.out w3 D3
  go_wp2_with fail
  refine (HD.out _ (HB.out _ D3)).mono ?_
  rintro e w4 ⟨rfl, d4⟩
  have D4 := D3.trans (d4.mono D3.size)
  clear a0 a1 a2 a3 a4 a5 a6 a7 a8 a9 a10 a11 a12 b0 b1 b2 b3 b4 b5 b6 b7 b8 b9 b10 b11 b12
  obtain ⟨⟨⟨a0, a1, a2⟩, a3, a4, a5⟩, ⟨a6, a7, a8⟩, ⟨a9, a10⟩, a11, a12⟩ := HC1.out w4 D4
  obtain ⟨⟨⟨b0, b1, b2⟩, b3, b4, b5⟩, ⟨b6, b7, b8⟩, ⟨b9, b10⟩, b11, b12⟩ := HC2.out w4 D4
  go_wp2_with fail
  refine (eqCallS_nil w4).mono ?_
  rintro e w5 ⟨rfl, d5⟩
  have D5 := D4.trans (d5.mono D4.size)
  clear a0 a1 a2 a3 a4 a5 a6 a7 a8 a9 a10 a11 a12 b0 b1 b2 b3 b4 b5 b6 b7 b8 b9 b10 b11 b12
  obtain ⟨⟨⟨a0, a1, a2⟩, a3, a4, a5⟩, ⟨a6, a7, a8⟩, ⟨a9, a10⟩, a11, a12⟩ := HC1.out w5 D5
  obtain ⟨⟨⟨b0, b1, b2⟩, b3, b4, b5⟩, ⟨b6, b7, b8⟩, ⟨b9, b10⟩, b11, b12⟩ := HC2.out w5 D5
  go_wp2
  go_ret
  exact ⟨rfl, HB.out _ D5⟩

end Go.Proofs.YtchcdgkpaipkgaaGreatDoor
