/- Machines: spec.NewFs, impl.NewFs; laws.FnExactNewFs: the walk. -/
import Derived.Test.YtchcdgkpaipkgaaGreatDoorRows
import Derived.Test.YtchcdgkpaipkgaaGreatDoorFsM
import Derived.Deep.RegionHeld3
namespace Go.Proofs.YtchcdgkpaipkgaaGreatDoor
open Go.RowKit Go.Sort

/-- thirteen cells of a box laid down -/
def put13 (W : World) (q : Nat) (c0 c1 c2 c3 c4 c5 c6 c7 c8 c9 c10 c11 c12 : Value) : World := ((((((((((((W.setCell ⟨q, 0, none⟩ c0).setCell ⟨q, 1, none⟩ c1).setCell ⟨q, 2, none⟩ c2).setCell ⟨q, 3, none⟩ c3).setCell ⟨q, 4, none⟩ c4).setCell ⟨q, 5, none⟩ c5).setCell ⟨q, 6, none⟩ c6).setCell ⟨q, 7, none⟩ c7).setCell ⟨q, 8, none⟩ c8).setCell ⟨q, 9, none⟩ c9).setCell ⟨q, 10, none⟩ c10).setCell ⟨q, 11, none⟩ c11).setCell ⟨q, 12, none⟩ c12
theorem put13_far (W : World) (q : Nat) (c0 c1 c2 c3 c4 c5 c6 c7 c8 c9 c10 c11 c12 : Value) {k : Nat} (h : k ≠ q) : (put13 W q c0 c1 c2 c3 c4 c5 c6 c7 c8 c9 c10 c11 c12).heap[k]? = W.heap[k]? := by
  unfold put13
  rw [Below.heap_setCell _ _ _ k h, Below.heap_setCell _ _ _ k h, Below.heap_setCell _ _ _ k h, Below.heap_setCell _ _ _ k h, Below.heap_setCell _ _ _ k h, Below.heap_setCell _ _ _ k h, Below.heap_setCell _ _ _ k h, Below.heap_setCell _ _ _ k h, Below.heap_setCell _ _ _ k h, Below.heap_setCell _ _ _ k h, Below.heap_setCell _ _ _ k h, Below.heap_setCell _ _ _ k h, Below.heap_setCell _ _ _ k h]
theorem put13_below {B : Nat} {w W : World} {q : Nat} (c0 c1 c2 c3 c4 c5 c6 c7 c8 c9 c10 c11 c12 : Value) (b : Below B w W) (h : B ≤ q) : Below B w (put13 W q c0 c1 c2 c3 c4 c5 c6 c7 c8 c9 c10 c11 c12) := by
  unfold put13
  exact ((((((((((((b.setCell (p := ⟨q, 0, none⟩) h _).setCell (p := ⟨q, 1, none⟩) h _).setCell (p := ⟨q, 2, none⟩) h _).setCell (p := ⟨q, 3, none⟩) h _).setCell (p := ⟨q, 4, none⟩) h _).setCell (p := ⟨q, 5, none⟩) h _).setCell (p := ⟨q, 6, none⟩) h _).setCell (p := ⟨q, 7, none⟩) h _).setCell (p := ⟨q, 8, none⟩) h _).setCell (p := ⟨q, 9, none⟩) h _).setCell (p := ⟨q, 10, none⟩) h _).setCell (p := ⟨q, 11, none⟩) h _).setCell (p := ⟨q, 12, none⟩) h _
set_option maxHeartbeats 2000000 in
theorem put13_own {W : World} {q : Nat} {T : TypeId} {a0 a1 a2 a3 a4 a5 a6 a7 a8 a9 a10 a11 a12 : Value} (c0 c1 c2 c3 c4 c5 c6 c7 c8 c9 c10 c11 c12 : Value) (h : W.heap[q]? = some (.cells #[a0, a1, a2, a3, a4, a5, a6, a7, a8, a9, a10, a11, a12] T (0, 0))) :
    (put13 W q c0 c1 c2 c3 c4 c5 c6 c7 c8 c9 c10 c11 c12).heap[q]? = some (.cells #[c0, c1, c2, c3, c4, c5, c6, c7, c8, c9, c10, c11, c12] T (0, 0)) := by
  have h0 : (W.setCell ⟨q, 0, none⟩ c0).heap[q]? = some (.cells #[c0, a1, a2, a3, a4, a5, a6, a7, a8, a9, a10, a11, a12] T (0, 0)) := Joins.block_setCell (i := 0) h c0
  have h1 : ((W.setCell ⟨q, 0, none⟩ c0).setCell ⟨q, 1, none⟩ c1).heap[q]? = some (.cells #[c0, c1, a2, a3, a4, a5, a6, a7, a8, a9, a10, a11, a12] T (0, 0)) := Joins.block_setCell (i := 1) h0 c1
  have h2 : (((W.setCell ⟨q, 0, none⟩ c0).setCell ⟨q, 1, none⟩ c1).setCell ⟨q, 2, none⟩ c2).heap[q]? = some (.cells #[c0, c1, c2, a3, a4, a5, a6, a7, a8, a9, a10, a11, a12] T (0, 0)) := Joins.block_setCell (i := 2) h1 c2
  have h3 : ((((W.setCell ⟨q, 0, none⟩ c0).setCell ⟨q, 1, none⟩ c1).setCell ⟨q, 2, none⟩ c2).setCell ⟨q, 3, none⟩ c3).heap[q]? = some (.cells #[c0, c1, c2, c3, a4, a5, a6, a7, a8, a9, a10, a11, a12] T (0, 0)) := Joins.block_setCell (i := 3) h2 c3
  have h4 : (((((W.setCell ⟨q, 0, none⟩ c0).setCell ⟨q, 1, none⟩ c1).setCell ⟨q, 2, none⟩ c2).setCell ⟨q, 3, none⟩ c3).setCell ⟨q, 4, none⟩ c4).heap[q]? = some (.cells #[c0, c1, c2, c3, c4, a5, a6, a7, a8, a9, a10, a11, a12] T (0, 0)) := Joins.block_setCell (i := 4) h3 c4
  have h5 : ((((((W.setCell ⟨q, 0, none⟩ c0).setCell ⟨q, 1, none⟩ c1).setCell ⟨q, 2, none⟩ c2).setCell ⟨q, 3, none⟩ c3).setCell ⟨q, 4, none⟩ c4).setCell ⟨q, 5, none⟩ c5).heap[q]? = some (.cells #[c0, c1, c2, c3, c4, c5, a6, a7, a8, a9, a10, a11, a12] T (0, 0)) := Joins.block_setCell (i := 5) h4 c5
  have h6 : (((((((W.setCell ⟨q, 0, none⟩ c0).setCell ⟨q, 1, none⟩ c1).setCell ⟨q, 2, none⟩ c2).setCell ⟨q, 3, none⟩ c3).setCell ⟨q, 4, none⟩ c4).setCell ⟨q, 5, none⟩ c5).setCell ⟨q, 6, none⟩ c6).heap[q]? = some (.cells #[c0, c1, c2, c3, c4, c5, c6, a7, a8, a9, a10, a11, a12] T (0, 0)) := Joins.block_setCell (i := 6) h5 c6
  have h7 : ((((((((W.setCell ⟨q, 0, none⟩ c0).setCell ⟨q, 1, none⟩ c1).setCell ⟨q, 2, none⟩ c2).setCell ⟨q, 3, none⟩ c3).setCell ⟨q, 4, none⟩ c4).setCell ⟨q, 5, none⟩ c5).setCell ⟨q, 6, none⟩ c6).setCell ⟨q, 7, none⟩ c7).heap[q]? = some (.cells #[c0, c1, c2, c3, c4, c5, c6, c7, a8, a9, a10, a11, a12] T (0, 0)) := Joins.block_setCell (i := 7) h6 c7
  have h8 : (((((((((W.setCell ⟨q, 0, none⟩ c0).setCell ⟨q, 1, none⟩ c1).setCell ⟨q, 2, none⟩ c2).setCell ⟨q, 3, none⟩ c3).setCell ⟨q, 4, none⟩ c4).setCell ⟨q, 5, none⟩ c5).setCell ⟨q, 6, none⟩ c6).setCell ⟨q, 7, none⟩ c7).setCell ⟨q, 8, none⟩ c8).heap[q]? = some (.cells #[c0, c1, c2, c3, c4, c5, c6, c7, c8, a9, a10, a11, a12] T (0, 0)) := Joins.block_setCell (i := 8) h7 c8
  have h9 : ((((((((((W.setCell ⟨q, 0, none⟩ c0).setCell ⟨q, 1, none⟩ c1).setCell ⟨q, 2, none⟩ c2).setCell ⟨q, 3, none⟩ c3).setCell ⟨q, 4, none⟩ c4).setCell ⟨q, 5, none⟩ c5).setCell ⟨q, 6, none⟩ c6).setCell ⟨q, 7, none⟩ c7).setCell ⟨q, 8, none⟩ c8).setCell ⟨q, 9, none⟩ c9).heap[q]? = some (.cells #[c0, c1, c2, c3, c4, c5, c6, c7, c8, c9, a10, a11, a12] T (0, 0)) := Joins.block_setCell (i := 9) h8 c9
  have h10 : (((((((((((W.setCell ⟨q, 0, none⟩ c0).setCell ⟨q, 1, none⟩ c1).setCell ⟨q, 2, none⟩ c2).setCell ⟨q, 3, none⟩ c3).setCell ⟨q, 4, none⟩ c4).setCell ⟨q, 5, none⟩ c5).setCell ⟨q, 6, none⟩ c6).setCell ⟨q, 7, none⟩ c7).setCell ⟨q, 8, none⟩ c8).setCell ⟨q, 9, none⟩ c9).setCell ⟨q, 10, none⟩ c10).heap[q]? = some (.cells #[c0, c1, c2, c3, c4, c5, c6, c7, c8, c9, c10, a11, a12] T (0, 0)) := Joins.block_setCell (i := 10) h9 c10
  have h11 : ((((((((((((W.setCell ⟨q, 0, none⟩ c0).setCell ⟨q, 1, none⟩ c1).setCell ⟨q, 2, none⟩ c2).setCell ⟨q, 3, none⟩ c3).setCell ⟨q, 4, none⟩ c4).setCell ⟨q, 5, none⟩ c5).setCell ⟨q, 6, none⟩ c6).setCell ⟨q, 7, none⟩ c7).setCell ⟨q, 8, none⟩ c8).setCell ⟨q, 9, none⟩ c9).setCell ⟨q, 10, none⟩ c10).setCell ⟨q, 11, none⟩ c11).heap[q]? = some (.cells #[c0, c1, c2, c3, c4, c5, c6, c7, c8, c9, c10, c11, a12] T (0, 0)) := Joins.block_setCell (i := 11) h10 c11
  exact Joins.block_setCell (i := 12) h11 c12
theorem results_fs {fn : Func} {p : Tmp} (h : fn.results = #[.cell p 31]) (tmps : Array Value) (w : World) (g : Nat) (cs : Array Value) (hc : cs.size = 13)
    (hp : tmps.getD p undef = .pointer (some ⟨g, 0, none⟩)) (hg : w.heap[g]? = some (.cells cs 31 (0, 0))) :
    (results fn tmps).run Tryz.prog w = .ok (.agg cs) w := by
  have hi : (Tryz.prog.info? 31).map (·.size) = some cs.size := by rw [hc]; kernel_rfl
  have hr := run_loadVar_row (P := Tryz.prog) w g 31 31 cs (0, 0) _ hg Tryz.underlying31 rfl hi
  have hp' : tmps[p]?.getD undef = .pointer (some ⟨g, 0, none⟩) := by simpa using hp
  simp [results, h, hp', asAddr, hr]
theorem unfrozen13 {W : World} {q : Nat} {T : TypeId} {cs : Array Value} (h : W.heap[q]? = some (.cells cs T (0, 0))) : ∀ i, W.frozen? ⟨q, i, none⟩ = false := fun i => Joins.unfrozen_of_block h i
theorem NfRow.put {w : World} {N g cb ca cd q : Nat} {xb xa xd : Option Addr} (h : NfRow w N g xb cb xa ca xd cd) (hq : q < N) (c0 c1 c2 c3 c4 c5 c6 c7 c8 c9 c10 c11 c12 : Value) : NfRow (put13 w q c0 c1 c2 c3 c4 c5 c6 c7 c8 c9 c10 c11 c12) N g xb cb xa ca xd cd :=
  ⟨⟨own_same h.i.row (fun k hk => put13_far _ _ _ _ _ _ _ _ _ _ _ _ _ _ _ (by have := (World.ownsRow.lt h.i.row k hk).1; omega)), fun t ht => own_same (h.i.ents t ht) (fun k hk => put13_far _ _ _ _ _ _ _ _ _ _ _ _ _ _ _ (by have := (World.ownsRow.lt (h.i.ents t ht) k hk).1; omega)), h.i.apart⟩,
   own_same h.t (fun k hk => put13_far _ _ _ _ _ _ _ _ _ _ _ _ _ _ _ (by have := (World.ownsRow.lt h.t k hk).1; omega)),
   ⟨own_same h.v.t (fun k hk => put13_far _ _ _ _ _ _ _ _ _ _ _ _ _ _ _ (by have := (World.ownsRow.lt h.v.t k hk).1; omega)), own_same h.v.p (fun k hk => put13_far _ _ _ _ _ _ _ _ _ _ _ _ _ _ _ (by have := (World.ownsRow.lt h.v.p k hk).1; omega)), h.v.ap⟩⟩
theorem txt_own {w : World} {N : Nat} {u : Value} {L : List ByteArray} (h : TxtRow w N u L) (hl : L.length ≠ 0) : ∃ q c, u = .slice (some ⟨q, 0, none⟩) L.length c := by
  rcases h.2 with ⟨_, h0⟩ | ⟨g, cap, cur, e, hb, hh, r⟩
  · exact absurd h0 hl
  · exact ⟨g, cap, e⟩

set_option maxRecDepth 100000 in
set_option maxHeartbeats 2000000 in
theorem iNewFs (w : World) (hT : Tabs w) (hC : CrcTab w) : Calls Tryz.prog 5 #[] w fun e w' => ∃ g qb cb qa ca, e = .returned (.agg (fsC g (some ⟨qb, 0, none⟩) cb (some ⟨qa, 0, none⟩) ca none 0)) ∧ Hid (NfRow w' w.heap.size g (some ⟨qb, 0, none⟩) cb (some ⟨qa, 0, none⟩) ca none 0 ∧ (g ≠ qb ∧ g ≠ qa ∧ qb ≠ qa)) ∧ Below w.heap.size w w' := by
  have HB : Hid (∀ v W, Below w.heap.size w W → VolAt W v newVo → Calls Tryz.prog 14 #[v] W fun e w' => ∃ q c, e = .returned (.slice (some ⟨q, 0, none⟩) 17 c) ∧ Hid (TxtRow w' W.heap.size (.slice (some ⟨q, 0, none⟩) 17 c) (blocksN newVo)) ∧ Below W.heap.size W w') := fun v W b h => (iVolBlocks v newVo W (hT.below b) (hC.below b) newVo_short h).mono (by
    have hvb : volBlocksN newVo = blocksN newVo := by unfold volBlocksN; rw [if_pos (rightB_iff.2 newVo_right)]
    rintro e w' ⟨u, rfl, h1, h2⟩
    rw [hvb] at h1
    obtain ⟨q, c, hu⟩ := txt_own h1 (by rw [blocksN_len]; decide)
    rw [blocksN_len] at hu
    subst hu
    exact ⟨q, c, rfl, h1, h2⟩)
  have HF : Hid (∀ W, Below w.heap.size w W → Calls Tryz.prog 15 #[] W fun e w' => ∃ q c, e = .returned (.slice (some ⟨q, 0, none⟩) 18 c) ∧ Hid (TxtRow w' W.heap.size (.slice (some ⟨q, 0, none⟩) 18 c) formatN) ∧ Below W.heap.size W w') := fun W b => (iFormat W (hT.below b) (hC.below b)).mono (by
    rintro e w' ⟨u, rfl, h1, h2⟩
    obtain ⟨q, c, hu⟩ := txt_own h1 (by rw [formatN_len]; decide)
    rw [formatN_len] at hu
    subst hu
    exact ⟨q, c, rfl, h1, h2⟩)
  clear hT hC
  have B0 := below_lit w (.cells #[.bool false, .int .i64 0, .slice none 0 0, .int .i64 0, .slice none 0 0, .slice none 0 0, .int .i64 0, .int .i64 0, .slice none 0 0, .slice none 0 0, .slice none 0 0, .int .i64 0, .int .i64 0] 31)
  have o1 := (MapKept.heap_alloc w (.cells #[.bool false, .int .i64 0, .slice none 0 0, .int .i64 0, .slice none 0 0, .slice none 0 0, .int .i64 0, .int .i64 0, .slice none 0 0, .slice none 0 0, .slice none 0 0, .int .i64 0, .int .i64 0] 31)).1
  have z0 : (w.alloc (.cells #[.bool false, .int .i64 0, .slice none 0 0, .int .i64 0, .slice none 0 0, .slice none 0 0, .int .i64 0, .int .i64 0, .slice none 0 0, .slice none 0 0, .slice none 0 0, .int .i64 0, .int .i64 0] 31)).heap.size = w.heap.size + 1 := by simp
  generalize HW0 : w.alloc (.cells #[.bool false, .int .i64 0, .slice none 0 0, .int .i64 0, .slice none 0 0, .slice none 0 0, .int .i64 0, .int .i64 0, .slice none 0 0, .slice none 0 0, .slice none 0 0, .int .i64 0, .int .i64 0] 31) = W0 at B0 o1 z0
  have HW0 : Hid _ := HW0
  have Z0 : Hid _ := z0
  have O1 : Hid _ := o1
  have HB0 : Hid _ := B0
  clear z0 o1 B0
  go_enter Tryz.func5, Tryz.ntmps5
  go_upto_region 1 with fail
  try rw [HW0.out]
  go_wp2_with fail
  refine (iNewVol W0).mono ?_
  rintro e w1 ⟨g, rfl, r1, b1⟩
  go_wp2_with fail
  refine (iNewVol w1).mono ?_
  rintro e w2 ⟨g2, rfl, r2, b2⟩
  have D2 := b1.trans (b2.mono b1.size)
  go_wp2_with fail
  refine (HB.out _ w2 (HB0.out.trans (D2.mono HB0.out.size)) (newVo_at r2)).mono ?_
  rintro e w3 ⟨qb, cb, rfl, t3, b3⟩
  have D3 := D2.trans (b3.mono D2.size)
  go_wp2_with fail
  refine (HF.out w3 (HB0.out.trans (D3.mono HB0.out.size))).mono ?_
  rintro e w4 ⟨qa, ca, rfl, v4, b4⟩
  have D4 := D3.trans (b4.mono D3.size)
  have i4 := ((r1.below b2).below b3).below b4
  have t4 := t3.out.below b4
  have lg := (World.ownsRow.lt r1.row g rfl).2
  have lb := World.ownsRow.lt t3.out qb rfl
  have la := World.ownsRow.lt v4.out qa rfl
  have s2 := b2.size
  have s3 := b3.size
  have hO4 : w4.heap[w.heap.size]? = some (.cells #[.bool false, .int .i64 0, .slice none 0 0, .int .i64 0, .slice none 0 0, .slice none 0 0, .int .i64 0, .int .i64 0, .slice none 0 0, .slice none 0 0, .slice none 0 0, .int .i64 0, .int .i64 0] 31) := (D4.block _ (lt_of_block O1.out)).trans O1.out
  have hN : NfRow w4 (w.heap.size + 1) g (some ⟨qb, 0, none⟩) cb (some ⟨qa, 0, none⟩) ca none 0 := ⟨by rw [← Z0.out]; exact i4, t4.mono (by rw [← Z0.out]; exact D2.size), ⟨v4.out.mono (by rw [← Z0.out]; exact D3.size), ⟨rfl, .inl ⟨rfl, rfl⟩⟩, fun q _ hq => by cases hq⟩⟩
  have HN : Hid _ := hN.put (q := w.heap.size) (by omega) (.bool true) (.int .i64 2) (.slice (some ⟨g, 0, none⟩) 1 1) (.int .i64 0) (.slice none 0 0) (.slice (some ⟨qb, 0, none⟩) 17 cb) (.int .i64 0) (.int .i64 0) (.slice (some ⟨qa, 0, none⟩) 18 ca) (.slice none 0 0) (.slice none 0 0) (.int .i64 0) (.int .i64 0)
  have HO : Hid _ := put13_own (.bool true) (.int .i64 2) (.slice (some ⟨g, 0, none⟩) 1 1) (.int .i64 0) (.slice none 0 0) (.slice (some ⟨qb, 0, none⟩) 17 cb) (.int .i64 0) (.int .i64 0) (.slice (some ⟨qa, 0, none⟩) 18 ca) (.slice none 0 0) (.slice none 0 0) (.int .i64 0) (.int .i64 0) hO4
  have HL : Hid _ := put13_below (.bool true) (.int .i64 2) (.slice (some ⟨g, 0, none⟩) 1 1) (.int .i64 0) (.slice none 0 0) (.slice (some ⟨qb, 0, none⟩) 17 cb) (.int .i64 0) (.int .i64 0) (.slice (some ⟨qa, 0, none⟩) 18 ca) (.slice none 0 0) (.slice none 0 0) (.int .i64 0) (.int .i64 0) (HB0.out.trans (D4.mono HB0.out.size)) (Nat.le_refl w.heap.size)
  have HE : Hid (g ≠ qb ∧ g ≠ qa ∧ qb ≠ qa) := ⟨by omega, by omega, by omega⟩
  obtain ⟨⟨⟨a0, a1, a2⟩, a3, a4, a5⟩, ⟨a6, a7, a8⟩, ⟨a9, a10⟩, a11, a12⟩ := cells13 hO4
  have fz := unfrozen13 hO4
  clear D4 D3 D2 b4 b3 b2 b1 r1 r2 t3 v4 i4 t4 lg lb la s2 s3 hO4 hN HF HB
  go_wp2
  change bodyPost _ _ _ _ _ (put13 w4 w.heap.size (.bool true) (.int .i64 2) (.slice (some ⟨g, 0, none⟩) 1 1) (.int .i64 0) (.slice none 0 0) (.slice (some ⟨qb, 0, none⟩) 17 cb) (.int .i64 0) (.int .i64 0) (.slice (some ⟨qa, 0, none⟩) 18 ca) (.slice none 0 0) (.slice none 0 0) (.int .i64 0) (.int .i64 0))
  generalize put13 w4 w.heap.size (.bool true) (.int .i64 2) (.slice (some ⟨g, 0, none⟩) 1 1) (.int .i64 0) (.slice none 0 0) (.slice (some ⟨qb, 0, none⟩) 17 cb) (.int .i64 0) (.int .i64 0) (.slice (some ⟨qa, 0, none⟩) 18 ca) (.slice none 0 0) (.slice none 0 0) (.int .i64 0) (.int .i64 0) = wz at HN HO HL ⊢
  exact bodyPost_ret (results_fs Tryz.results5 _ wz w.heap.size _ rfl rfl HO.out) rfl ⟨g, qb, cb, qa, ca, rfl, ⟨HN.out.mono (by omega), HE.out⟩, HL.out⟩

set_option maxRecDepth 100000 in
set_option maxHeartbeats 4000000 in
theorem sNewFs (w : World) : Calls Tryz.prog 4 #[] w fun e w' => ∃ g xb cb xa ca xd cd, e = .returned (.agg (fsC g xb cb xa ca xd cd)) ∧ Hid (NfRow w' w.heap.size g xb cb xa ca xd cd) ∧ Below w.heap.size w w' := by
  have HBL : Hid (∀ v W, VolAt W v newVo → Calls Tryz.prog 12 #[v] W fun e w' => ∃ xb cb, e = .returned (.slice xb 17 cb) ∧ Hid (TxtRow w' W.heap.size (.slice xb 17 cb) (blocksN newVo)) ∧ Below W.heap.size W w') := fun v W h => (sBlocks v newVo W newVo_right.len (fun y hy => right_small newVo_right hy) h).mono (by
    rintro e w' ⟨u, rfl, h1, h2⟩
    obtain ⟨xb, cb, hu, -, -⟩ := h1.at
    rw [blocksN_len] at hu
    subst hu
    exact ⟨xb, cb, rfl, h1, h2⟩)
  have B0 := below_lit w (.cells #[.bool false, .int .i64 0, .slice none 0 0, .int .i64 0, .slice none 0 0, .slice none 0 0, .int .i64 0, .int .i64 0, .slice none 0 0, .slice none 0 0, .slice none 0 0, .int .i64 0, .int .i64 0] 31)
  have o1 := (MapKept.heap_alloc w (.cells #[.bool false, .int .i64 0, .slice none 0 0, .int .i64 0, .slice none 0 0, .slice none 0 0, .int .i64 0, .int .i64 0, .slice none 0 0, .slice none 0 0, .slice none 0 0, .int .i64 0, .int .i64 0] 31)).1
  have z0 : (w.alloc (.cells #[.bool false, .int .i64 0, .slice none 0 0, .int .i64 0, .slice none 0 0, .slice none 0 0, .int .i64 0, .int .i64 0, .slice none 0 0, .slice none 0 0, .slice none 0 0, .int .i64 0, .int .i64 0] 31)).heap.size = w.heap.size + 1 := by simp
  generalize HW0 : w.alloc (.cells #[.bool false, .int .i64 0, .slice none 0 0, .int .i64 0, .slice none 0 0, .slice none 0 0, .int .i64 0, .int .i64 0, .slice none 0 0, .slice none 0 0, .slice none 0 0, .int .i64 0, .int .i64 0] 31) = W0 at B0 o1 z0
  have HW0 : Hid _ := HW0
  have Z0 : Hid _ := z0
  have O1 : Hid _ := o1
  have HB0 : Hid _ := B0
  clear z0 o1 B0
  go_enter Tryz.func4, Tryz.ntmps4
  go_upto_region 1 with fail
  try rw [HW0.out]
  go_wp2_with fail
  refine (sNewDev W0).mono ?_
  rintro e w1 ⟨a, d, rfl, dv, b1⟩
  obtain ⟨xa0, ca0, hua, -, -⟩ := dv.t.at
  obtain ⟨xd, cd, hud, -, -⟩ := dv.p.at
  subst hua
  subst hud
  have hn0 : newDv.blocks.length = 18 := rfl
  have hn1 : newDv.pend.length = 0 := rfl
  rw [hn0, hn1] at dv ⊢
  clear hn0 hn1
  have b2' := below_lit w1 (.cells #[.slice xa0 18 ca0, .slice xd 0 cd] 28)
  have o2 := (MapKept.heap_alloc w1 (.cells #[.slice xa0 18 ca0, .slice xd 0 cd] 28)).1
  have HSF := sFormat (w1.alloc (.cells #[.slice xa0 18 ca0, .slice xd 0 cd] 28))
  go_wp2_with fail
  refine HSF.mono ?_
  rintro e w2 ⟨u2, rfl, t2, b2⟩
  obtain ⟨xa, ca, hu2, -, -⟩ := t2.at
  rw [formatN_len] at hu2
  subst hu2
  have o3 : w2.heap[w1.heap.size]? = some (.cells #[.slice xa0 18 ca0, .slice xd 0 cd] 28) := (b2.block _ (by simp)).trans o2
  have p0 := Joins.cell_of_block o3 0
  have p1 := Joins.cell_of_block o3 1
  have pf := fun i => Joins.unfrozen_of_block o3 i
  dsimp at p0 p1
  have D1 : Below W0.heap.size W0 w2 := b1.trans (Below.mono (b2'.trans (b2.mono (by simp))) b1.size)
  have hp3 : (w2.setCell ⟨w1.heap.size, 0, none⟩ (.slice xa 18 ca)).heap[w1.heap.size]? = some (.cells #[.slice xa 18 ca, .slice xd 0 cd] 28) := Joins.block_setCell (i := 0) o3 _
  have D3 : Below W0.heap.size W0 (w2.setCell ⟨w1.heap.size, 0, none⟩ (.slice xa 18 ca)) := D1.setCell (p := ⟨w1.heap.size, 0, none⟩) b1.size _
  have t3 : TxtRow (w2.setCell ⟨w1.heap.size, 0, none⟩ (.slice xa 18 ca)) W0.heap.size (.slice xa 18 ca) formatN := (own_low t2 (by simp) 0 _).mono (by simp; have := b1.size; omega)
  have q3 : WrRow (w2.setCell ⟨w1.heap.size, 0, none⟩ (.slice xa 18 ca)) W0.heap.size (.slice xd 0 cd) [] := own_same (own_below dv.p (Below.trans b2' (b2.mono (by simp)))) (fun k hk => Below.heap_setCell _ _ _ k (by have := (World.ownsRow.lt dv.p k hk).2; show k ≠ w1.heap.size; omega))
  have hap : Hid (∀ q, (Value.slice xa 18 ca).ownBlock = some q → (Value.slice xd 0 cd).ownBlock ≠ some q) := fun q hq hq2 => by
    have h1 := (World.ownsRow.lt t2 q hq).1
    have h2 := (World.ownsRow.lt dv.p q hq2).2
    simp at h1
    omega
  have l1 : Hid (w.heap.size + 1 ≤ w1.heap.size) := by show _ ≤ _; rw [← Z0.out]; exact b1.size
  clear b2 b2' o2 o3 D1 t2 dv b1 HSF
  go_upto_region 3 with fail
  generalize w2.setCell ⟨w1.heap.size, 0, none⟩ (.slice xa 18 ca) = w3 at hp3 D3 t3 q3 ⊢
  have HS : Hid (∀ W, Below w3.heap.size w3 W → W.cell? ⟨w1.heap.size, 0, none⟩ = some (.slice xa 18 ca) ∧ W.cell? ⟨w1.heap.size, 1, none⟩ = some (.slice xd 0 cd)) := fun W b => ⟨Joins.cell_of_block ((b.block _ (lt_of_block hp3)).trans hp3) 0, Joins.cell_of_block ((b.block _ (lt_of_block hp3)).trans hp3) 1⟩
  have HR : Hid (∀ W, Below w3.heap.size w3 W → W.heap[w.heap.size]? = some (.cells #[.bool false, .int .i64 0, .slice none 0 0, .int .i64 0, .slice none 0 0, .slice none 0 0, .int .i64 0, .int .i64 0, .slice none 0 0, .slice none 0 0, .slice none 0 0, .int .i64 0, .int .i64 0] 31)) := fun W b => (b.block _ (Nat.lt_of_lt_of_le (lt_of_block O1.out) D3.size)).trans ((D3.block _ (lt_of_block O1.out)).trans O1.out)
  have m1 : ¬ w1.heap.size = w.heap.size := by have := l1.out; omega
  have m2 : ¬ w.heap.size = w1.heap.size := by have := l1.out; omega
  have T3 : Hid _ := t3
  have Q3 : Hid _ := q3
  have DD3 : Hid _ := D3
  clear p0 p1 pf t3 q3 hp3 D3
  obtain ⟨s0, s1⟩ := HS.out w3 (Below.refl _ _)
  go_region_held3 (fun W => W.cell? ⟨w1.heap.size, 0, none⟩ = some (.slice xa 18 ca) ∧ W.cell? ⟨w1.heap.size, 1, none⟩ = some (.slice xd 0 cd)) (go_keep)
    (first
    | (go_at_call 11; have hb5 := B5; refine (sNewVol _).mono ?_; rintro e w6 ⟨g6, rfl, r6, b6⟩; have B6 := B5.trans (b6.mono B5.size); obtain ⟨y0, y1⟩ := HS.out w6 B6)
    | (go_at_call 11; refine (sNewVol _).mono ?_; rintro e w5 ⟨g5, rfl, r5, b5⟩; have B5 : Below w3.heap.size w3 w5 := (Below.refl _ _).drew.trans b5; obtain ⟨y0, y1⟩ := HS.out w5 B5)
    | (go_at_call 12; refine (HBL.out _ w6 (newVo_at r6)).mono ?_; rintro e w7 ⟨xb, cb, rfl, t7, b7⟩; have B7 := B6.trans (b7.mono B6.size); obtain ⟨y0, y1⟩ := HS.out w7 B7; have hO7 := HR.out w7 B7; obtain ⟨⟨⟨a0, a1, a2⟩, a3, a4, a5⟩, ⟨a6, a7, a8⟩, ⟨a9, a10⟩, a11, a12⟩ := cells13 hO7; have fz := unfrozen13 hO7))
  have i7 : InoRow w7 (w.heap.size + 1) _ _ := ((r5.below b6).below b7).mono (by show _ ≤ w3.heap.size; rw [← Z0.out]; exact DD3.out.size)
  have hN : NfRow w7 (w.heap.size + 1) g5 xb cb xa ca xd cd := ⟨i7, t7.out.mono (by rw [← Z0.out]; exact Nat.le_trans DD3.out.size B6.size), ⟨(own_below T3.out B7).mono (by rw [← Z0.out]; exact Nat.le_refl _), by rw [← Z0.out]; exact own_below Q3.out B7, hap.out⟩⟩
  have HN : Hid _ := hN.put (q := w.heap.size) (by omega) (.bool true) (.int .i64 2) (.slice (some ⟨g5, 0, none⟩) 1 1) (.int .i64 0) (.slice none 0 0) (.slice xb 17 cb) (.int .i64 0) (.int .i64 0) (.slice xa 18 ca) (.slice xd 0 cd) (.slice none 0 0) (.int .i64 0) (.int .i64 0)
  have HO : Hid _ := put13_own (.bool true) (.int .i64 2) (.slice (some ⟨g5, 0, none⟩) 1 1) (.int .i64 0) (.slice none 0 0) (.slice xb 17 cb) (.int .i64 0) (.int .i64 0) (.slice xa 18 ca) (.slice xd 0 cd) (.slice none 0 0) (.int .i64 0) (.int .i64 0) hO7
  have HL : Hid _ := put13_below (.bool true) (.int .i64 2) (.slice (some ⟨g5, 0, none⟩) 1 1) (.int .i64 0) (.slice none 0 0) (.slice xb 17 cb) (.int .i64 0) (.int .i64 0) (.slice xa 18 ca) (.slice xd 0 cd) (.slice none 0 0) (.int .i64 0) (.int .i64 0) (HB0.out.trans ((DD3.out.trans (B7.mono DD3.out.size)).mono HB0.out.size)) (Nat.le_refl w.heap.size)
  clear i7 hN hO7 t7 r5 r6 b5 b6 b7 B5 B6 B7 T3 Q3 DD3 HS HR
  go_wp2
  change bodyPost _ _ _ _ _ (put13 w7 w.heap.size (.bool true) (.int .i64 2) (.slice (some ⟨g5, 0, none⟩) 1 1) (.int .i64 0) (.slice none 0 0) (.slice xb 17 cb) (.int .i64 0) (.int .i64 0) (.slice xa 18 ca) (.slice xd 0 cd) (.slice none 0 0) (.int .i64 0) (.int .i64 0))
  generalize put13 w7 w.heap.size (.bool true) (.int .i64 2) (.slice (some ⟨g5, 0, none⟩) 1 1) (.int .i64 0) (.slice none 0 0) (.slice xb 17 cb) (.int .i64 0) (.int .i64 0) (.slice xa 18 ca) (.slice xd 0 cd) (.slice none 0 0) (.int .i64 0) (.int .i64 0) = wz at HN HO HL ⊢
  exact bodyPost_ret (results_fs Tryz.results4 _ wz w.heap.size _ rfl rfl HO.out) rfl ⟨g5, xb, cb, xa, ca, xd, cd, rfl, HN.out.mono (by omega), HL.out⟩

/-- what the law holds between its calls: the two boxes, and all that lay below the first -/
structure NqSt (w1 : World) (o0 : Obj) (r : Nat) (o1 : Obj) (wk : World) : Prop where
  e : Below w1.heap.size w1 wk
  p : wk.heap[w1.heap.size]? = some o0
  q : wk.heap[r]? = some o1
theorem NqSt.below {w1 wk wk' : World} {o0 o1 : Obj} {r : Nat} (h : NqSt w1 o0 r o1 wk) (b : Below wk.heap.size wk wk') : NqSt w1 o0 r o1 wk' := ⟨h.e.trans (b.mono h.e.size), (b.block _ (lt_of_block h.p)).trans h.p, (b.block _ (lt_of_block h.q)).trans h.q⟩
theorem NqSt.but {w1 wk wk' : World} {o0 o1 : Obj} {r x y z : Nat} (h : NqSt w1 o0 r o1 wk) (b : But3 x y z wk wk') (hx : w1.heap.size < x ∧ x < r) (hy : w1.heap.size < y ∧ y < r) (hz : w1.heap.size < z ∧ z < r) : NqSt w1 o0 r o1 wk' :=
  ⟨h.e.trans (b.below h.e.size (by omega) (by omega) (by omega)), (b.blk _ (lt_of_block h.p) (by omega) (by omega) (by omega)).trans h.p, (b.blk _ (lt_of_block h.q) (by omega) (by omega) (by omega)).trans h.q⟩

set_option maxRecDepth 100000 in
set_option maxHeartbeats 4000000 in
theorem wNewFs (w : World) (hT : Tabs w) (hC : CrcTab w) : Calls Tryz.prog 3 #[] w fun e w' => e = .returned (.bool true) ∧ Below w.heap.size w w' := by
  have HI : Hid (∀ W, Below w.heap.size w W → _) := fun W b => iNewFs W (hT.below b) (hC.below b)
  clear hT hC
  go_enter Tryz.func3, Tryz.ntmps3
  go_wp2_with fail
  refine (sNewFs w).mono ?_
  rintro e w1 ⟨g0, xb, cb, xa, ca, xd, cd, rfl, N1, b1⟩
  unfold fsC
  have B1' := below_lit w1 (.cells #[.bool true, .int .i64 2, .slice (some ⟨g0, 0, none⟩) 1 1, .int .i64 0, .slice none 0 0, .slice xb 17 cb, .int .i64 0, .int .i64 0, .slice xa 18 ca, .slice xd 0 cd, .slice none 0 0, .int .i64 0, .int .i64 0] 31)
  have o1 := (MapKept.heap_alloc w1 (.cells #[.bool true, .int .i64 2, .slice (some ⟨g0, 0, none⟩) 1 1, .int .i64 0, .slice none 0 0, .slice xb 17 cb, .int .i64 0, .int .i64 0, .slice xa 18 ca, .slice xd 0 cd, .slice none 0 0, .int .i64 0, .int .i64 0] 31)).1
  have z1 : (w1.alloc (.cells #[.bool true, .int .i64 2, .slice (some ⟨g0, 0, none⟩) 1 1, .int .i64 0, .slice none 0 0, .slice xb 17 cb, .int .i64 0, .int .i64 0, .slice xa 18 ca, .slice xd 0 cd, .slice none 0 0, .int .i64 0, .int .i64 0] 31)).heap.size = w1.heap.size + 1 := by simp
  have HI1 := HI.out (w1.alloc (.cells #[.bool true, .int .i64 2, .slice (some ⟨g0, 0, none⟩) 1 1, .int .i64 0, .slice none 0 0, .slice xb 17 cb, .int .i64 0, .int .i64 0, .slice xa 18 ca, .slice xd 0 cd, .slice none 0 0, .int .i64 0, .int .i64 0] 31)) (b1.trans (B1'.mono b1.size))
  go_wp2_with fail
  refine HI1.mono ?_
  rintro e w2 ⟨g, qb, db, qa, da, rfl, N2, b2⟩
  unfold fsC
  obtain ⟨n2, hne1, hne2, hne3⟩ := N2.out
  have lg := World.ownsRow.lt n2.i.row g rfl
  have lb := World.ownsRow.lt n2.t qb rfl
  have la := World.ownsRow.lt n2.v.t qa rfl
  rw [z1] at lg lb la
  have B2' := below_lit w2 (.cells #[.bool true, .int .i64 2, .slice (some ⟨g, 0, none⟩) 1 1, .int .i64 0, .slice none 0 0, .slice (some ⟨qb, 0, none⟩) 17 db, .int .i64 0, .int .i64 0, .slice (some ⟨qa, 0, none⟩) 18 da, .slice none 0 0, .slice none 0 0, .int .i64 0, .int .i64 0] 31)
  have o2 := (MapKept.heap_alloc w2 (.cells #[.bool true, .int .i64 2, .slice (some ⟨g, 0, none⟩) 1 1, .int .i64 0, .slice none 0 0, .slice (some ⟨qb, 0, none⟩) 17 db, .int .i64 0, .int .i64 0, .slice (some ⟨qa, 0, none⟩) 18 da, .slice none 0 0, .slice none 0 0, .int .i64 0, .int .i64 0] 31)).1
  have st2 : NqSt w1 (.cells #[.bool true, .int .i64 2, .slice (some ⟨g0, 0, none⟩) 1 1, .int .i64 0, .slice none 0 0, .slice xb 17 cb, .int .i64 0, .int .i64 0, .slice xa 18 ca, .slice xd 0 cd, .slice none 0 0, .int .i64 0, .int .i64 0] 31) w2.heap.size (.cells #[.bool true, .int .i64 2, .slice (some ⟨g, 0, none⟩) 1 1, .int .i64 0, .slice none 0 0, .slice (some ⟨qb, 0, none⟩) 17 db, .int .i64 0, .int .i64 0, .slice (some ⟨qa, 0, none⟩) 18 da, .slice none 0 0, .slice none 0 0, .int .i64 0, .int .i64 0] 31) (w2.alloc (.cells #[.bool true, .int .i64 2, .slice (some ⟨g, 0, none⟩) 1 1, .int .i64 0, .slice none 0 0, .slice (some ⟨qb, 0, none⟩) 17 db, .int .i64 0, .int .i64 0, .slice (some ⟨qa, 0, none⟩) 18 da, .slice none 0 0, .slice none 0 0, .int .i64 0, .int .i64 0] 31)) := ⟨(B1'.trans (b2.mono (by omega))).trans (B2'.mono (by have := b2.size; omega)), (B2'.block _ (by have := b2.size; omega)).trans ((b2.block _ (by omega)).trans o1), o2⟩
  have n2' := n2.below B2'
  have HEQ2 := eqFs_new g (some ⟨qb, 0, none⟩) db (some ⟨qa, 0, none⟩) da none 0 g0 xb cb xa ca xd cd _ _ _ n2' (N1.out.below st2.e)
  unfold fsC at HEQ2
  obtain ⟨⟨⟨a0, a1, a2⟩, a3, a4, a5⟩, ⟨a6, a7, a8⟩, ⟨a9, a10⟩, a11, a12⟩ := cells13 st2.p
  obtain ⟨⟨⟨x0, x1, x2⟩, x3, x4, x5⟩, ⟨x6, x7, x8⟩, ⟨x9, x10⟩, x11, x12⟩ := cells13 st2.q
  have ha1 : ¬ w1.heap.size = w2.heap.size := by have := b2.size; omega
  have ha2 : ¬ w2.heap.size = w1.heap.size := by have := b2.size; omega
  clear o1 o2 B1' B2' z1 HI1
  go_wp2_with fail
  refine HEQ2.mono ?_
  rintro e w3 ⟨rfl, b3⟩
  have st3 := st2.below b3
  have n3 := n2'.below b3
  clear a0 a1 a2 a3 a4 a5 a6 a7 a8 a9 a10 a11 a12 x0 x1 x2 x3 x4 x5 x6 x7 x8 x9 x10 x11 x12 st2 n2' HEQ2 b3
  have HMK := markFs_new g qb db qa da _ w3 n3 hne1 hne2 hne3
  unfold fsC at HMK
  obtain ⟨⟨⟨a0, a1, a2⟩, a3, a4, a5⟩, ⟨a6, a7, a8⟩, ⟨a9, a10⟩, a11, a12⟩ := cells13 st3.q
  go_wp2_with fail
  refine HMK.mono ?_
  rintro e w4 ⟨rfl, k4, f4⟩
  have st4 := st3.but f4 (by omega) (by omega) (by omega)
  clear a0 a1 a2 a3 a4 a5 a6 a7 a8 a9 a10 a11 a12 st3 n3 HMK f4
  have HH := fun W h => heldFs_new g qb db qa da W h
  unfold fsC at HH
  have HH : Hid _ := HH
  obtain ⟨⟨⟨a0, a1, a2⟩, a3, a4, a5⟩, ⟨a6, a7, a8⟩, ⟨a9, a10⟩, a11, a12⟩ := cells13 st4.q
  go_wp2_with fail
  refine (HH.out w4 k4).mono ?_
  rintro e w5 ⟨rfl, b5⟩
  have st5 := st4.below b5
  have k5 := k4.below b5
  clear a0 a1 a2 a3 a4 a5 a6 a7 a8 a9 a10 a11 a12 st4 k4 b5
  go_wp2_with fail
  refine (HI.out w5 (b1.trans (st5.e.mono b1.size))).mono ?_
  rintro e w6 ⟨g6, qb6, db6, qa6, da6, rfl, N6, b6⟩
  unfold fsC
  have st6 := st5.below b6
  have k6 := k5.below b6
  have B6' := below_lit w6 (.cells #[.bool true, .int .i64 2, .slice (some ⟨g6, 0, none⟩) 1 1, .int .i64 0, .slice none 0 0, .slice (some ⟨qb6, 0, none⟩) 17 db6, .int .i64 0, .int .i64 0, .slice (some ⟨qa6, 0, none⟩) 18 da6, .slice none 0 0, .slice none 0 0, .int .i64 0, .int .i64 0] 31)
  have o6 := (MapKept.heap_alloc w6 (.cells #[.bool true, .int .i64 2, .slice (some ⟨g6, 0, none⟩) 1 1, .int .i64 0, .slice none 0 0, .slice (some ⟨qb6, 0, none⟩) 17 db6, .int .i64 0, .int .i64 0, .slice (some ⟨qa6, 0, none⟩) 18 da6, .slice none 0 0, .slice none 0 0, .int .i64 0, .int .i64 0] 31)).1
  have st6' := st6.below B6'
  have k6' := k6.below B6'
  have HEQ6 := eqFs_new g6 (some ⟨qb6, 0, none⟩) db6 (some ⟨qa6, 0, none⟩) da6 none 0 g0 xb cb xa ca xd cd _ _ _ (N6.out.1.below B6') (N1.out.below st6'.e)
  unfold fsC at HEQ6
  obtain ⟨⟨⟨a0, a1, a2⟩, a3, a4, a5⟩, ⟨a6, a7, a8⟩, ⟨a9, a10⟩, a11, a12⟩ := cells13 st6'.p
  obtain ⟨⟨⟨x0, x1, x2⟩, x3, x4, x5⟩, ⟨x6, x7, x8⟩, ⟨x9, x10⟩, x11, x12⟩ := cells13 o6
  have hb1 : ¬ w1.heap.size = w6.heap.size := by have := lt_of_block st6.p; omega
  have hb2 : ¬ w6.heap.size = w1.heap.size := by have := lt_of_block st6.p; omega
  clear st5 k5 b6 st6 k6 B6' o6
  go_wp2_with fail
  refine HEQ6.mono ?_
  rintro e w7 ⟨rfl, b7⟩
  have st7 := st6'.below b7
  have k7 := k6'.below b7
  clear a0 a1 a2 a3 a4 a5 a6 a7 a8 a9 a10 a11 a12 x0 x1 x2 x3 x4 x5 x6 x7 x8 x9 x10 x11 x12 st6' k6' HEQ6 b7
  obtain ⟨⟨⟨a0, a1, a2⟩, a3, a4, a5⟩, ⟨a6, a7, a8⟩, ⟨a9, a10⟩, a11, a12⟩ := cells13 st7.q
  go_wp2_with fail
  refine (HH.out w7 k7).mono ?_
  rintro e w8 ⟨rfl, b8⟩
  have st8 := st7.below b8
  go_wp2
  go_ret
  exact ⟨rfl, b1.trans (st8.e.mono b1.size)⟩

end Go.Proofs.YtchcdgkpaipkgaaGreatDoor
