/- Volumes: laws.toInode, toInodeS, toVol. -/
import Derived.Test.YtjggkhcomaiplaaDoorRows
import Derived.Test.YtjggkhcomaiplaaDoorNa
import Derived.Laws.ResultCell
import Derived.Lib.SmallJoins
namespace Go.Proofs.YtjggkhcomaiplaaDoor
open Go.RowKit Go.Sort

theorem results_ino {fn : Func} {p : Tmp} (h : fn.results = #[.cell p 37]) (tmps : Array Value) (w : World) (g : Nat) (cs : Array Value) (hc : cs.size = 5)
    (hp : tmps.getD p undef = .pointer (some ⟨g, 0, none⟩)) (hg : w.heap[g]? = some (.cells cs 37 (0, 0))) :
    (results fn tmps).run Tryd.prog w = .ok (.agg cs) w := by
  have hi : (Tryd.prog.info? 37).map (·.size) = some cs.size := by rw [hc]; kernel_rfl
  have hr := run_loadVar_row (P := Tryd.prog) w g 37 37 cs (0, 0) _ hg Tryd.underlying37 rfl hi
  have hp' : tmps[p]?.getD undef = .pointer (some ⟨g, 0, none⟩) := by simpa using hp
  simp [results, h, hp', asAddr, hr]
/-- the five cells of a block written anew -/
theorem put5 {w : World} {g : Nat} {T : TypeId} {a0 a1 a2 a3 a4 : Value} (x0 x1 x2 x3 x4 : Value) (h : w.heap[g]? = some (.cells #[a0, a1, a2, a3, a4] T (0, 0))) :
    (((((w.setCell ⟨g, 0, none⟩ x0).setCell ⟨g, 1, none⟩ x1).setCell ⟨g, 2, none⟩ x2).setCell ⟨g, 3, none⟩ x3).setCell ⟨g, 4, none⟩ x4).heap[g]? = some (.cells #[x0, x1, x2, x3, x4] T (0, 0)) := by
  have h1 := Joins.block_setCell (i := 0) h x0
  have h2 := Joins.block_setCell (i := 1) h1 x1
  have h3 := Joins.block_setCell (i := 2) h2 x2
  have h4 := Joins.block_setCell (i := 3) h3 x3
  exact Joins.block_setCell (i := 4) h4 x4

set_option maxRecDepth 100000 in
set_option maxHeartbeats 1000000 in
theorem toInode_any (y : Ino) (s : Value) (w : World) (hl : y.ents.length ≤ 1048576) (hs : EntsAt w s y.ents) :
    Calls Tryd.prog 24 #[valI y s] w fun e w' => ∃ u, e = .returned (valI y u) ∧ EntRow w' w.heap.size u y.ents ∧ Below w.heap.size w w' := by
  have HE := fun w' (b : Below w.heap.size w w') => toEntS_any s y.ents w' hl (hs.below b)
  obtain ⟨a2, ca2, rfl, -, -⟩ := hs
  obtain ⟨yi, yk, yl, yd, ye⟩ := y
  unfold valI
  dsimp only at *
  have bA := below_lit w (.cells #[.int .i64 yi, .int .i64 yk, .int .i64 yl, .string yd, .slice a2 ye.length ca2] 55)
  have B0 : Below w.heap.size w (((w.alloc (.cells #[.int .i64 yi, .int .i64 yk, .int .i64 yl, .string yd, .slice a2 ye.length ca2] 55)).alloc (.cells #[.int .i64 0, .int .i64 0, .int .i64 0, .string ⟨#[]⟩, .slice none 0 0] 37)).alloc (.cells #[.int .i64 yi, .int .i64 yk, .int .i64 yl, .string yd, .slice none 0 0] 37)) := (bA.alloc (by simp) _).alloc (by simp; omega) _
  have S0 : (((w.alloc (.cells #[.int .i64 yi, .int .i64 yk, .int .i64 yl, .string yd, .slice a2 ye.length ca2] 55)).alloc (.cells #[.int .i64 0, .int .i64 0, .int .i64 0, .string ⟨#[]⟩, .slice none 0 0] 37)).alloc (.cells #[.int .i64 yi, .int .i64 yk, .int .i64 yl, .string yd, .slice none 0 0] 37)).heap.size = w.heap.size + 3 := by simp
  have S1 : (w.alloc (.cells #[.int .i64 yi, .int .i64 yk, .int .i64 yl, .string yd, .slice a2 ye.length ca2] 55)).heap.size = w.heap.size + 1 := by simp
  have S2 : ((w.alloc (.cells #[.int .i64 yi, .int .i64 yk, .int .i64 yl, .string yd, .slice a2 ye.length ca2] 55)).alloc (.cells #[.int .i64 0, .int .i64 0, .int .i64 0, .string ⟨#[]⟩, .slice none 0 0] 37)).heap.size = w.heap.size + 2 := by simp
  have H1 := (MapKept.heap_alloc (w.alloc (.cells #[.int .i64 yi, .int .i64 yk, .int .i64 yl, .string yd, .slice a2 ye.length ca2] 55)) (.cells #[.int .i64 0, .int .i64 0, .int .i64 0, .string ⟨#[]⟩, .slice none 0 0] 37)).1
  have H2 := (MapKept.heap_alloc ((w.alloc (.cells #[.int .i64 yi, .int .i64 yk, .int .i64 yl, .string yd, .slice a2 ye.length ca2] 55)).alloc (.cells #[.int .i64 0, .int .i64 0, .int .i64 0, .string ⟨#[]⟩, .slice none 0 0] 37)) (.cells #[.int .i64 yi, .int .i64 yk, .int .i64 yl, .string yd, .slice none 0 0] 37)).1
  rw [S1] at H1
  rw [S2] at H2
  have H1' := (below_lit _ (.cells #[.int .i64 yi, .int .i64 yk, .int .i64 yl, .string yd, .slice none 0 0] 37)).block (w.heap.size + 1) (by rw [S2]; omega) |>.trans H1
  have HE := HE _ B0
  rw [S0] at HE
  have HW : Hid (∀ w1, Below (w.heap.size + 3) (((w.alloc (.cells #[.int .i64 yi, .int .i64 yk, .int .i64 yl, .string yd, .slice a2 ye.length ca2] 55)).alloc (.cells #[.int .i64 0, .int .i64 0, .int .i64 0, .string ⟨#[]⟩, .slice none 0 0] 37)).alloc (.cells #[.int .i64 yi, .int .i64 yk, .int .i64 yl, .string yd, .slice none 0 0] 37)) w1 →
      w1.heap[w.heap.size + 1]? = some (.cells #[.int .i64 0, .int .i64 0, .int .i64 0, .string ⟨#[]⟩, .slice none 0 0] 37) ∧ w1.heap[w.heap.size + 2]? = some (.cells #[.int .i64 yi, .int .i64 yk, .int .i64 yl, .string yd, .slice none 0 0] 37) ∧ Below w.heap.size w w1) := fun w1 b1 =>
    ⟨(b1.block _ (by omega)).trans H1', (b1.block _ (by omega)).trans H2, B0.trans (b1.mono (by omega))⟩
  clear bA H1 H1' H2 S1 S2
  go_enter Tryd.func24, Tryd.ntmps24
  go_wp2_with (go_at_call 35; refine HE.mono ?_; rintro e w1 ⟨u, rfl, r1, b1⟩; obtain ⟨g1, g2, b1w⟩ := HW.out w1 b1; obtain ⟨ua, uc, rfl, -, -⟩ := r1.at; have d0 := Joins.cell_of_block g2 0; have d1 := Joins.cell_of_block g2 1; have d2 := Joins.cell_of_block g2 2; have d3 := Joins.cell_of_block g2 3; have d4 := Joins.cell_of_block g2 4; have df := fun i => Joins.unfrozen_of_block g2 i; have e0 := Joins.cell_of_block g1 0; have e1 := Joins.cell_of_block g1 1; have e2 := Joins.cell_of_block g1 2; have e3 := Joins.cell_of_block g1 3; have e4 := Joins.cell_of_block g1 4; have ef := fun i => Joins.unfrozen_of_block g1 i)
  have hgg : (((((((w1.setCell ⟨w.heap.size + 1 + 1, 4, none⟩ (.slice ua ye.length uc)).setCell ⟨w.heap.size + 1, 0, none⟩ (.int .i64 yi)).setCell ⟨w.heap.size + 1, 1, none⟩ (.int .i64 yk)).setCell ⟨w.heap.size + 1, 2, none⟩ (.int .i64 yl)).setCell ⟨w.heap.size + 1, 3, none⟩ (.string yd)).setCell ⟨w.heap.size + 1, 4, none⟩ (.slice ua ye.length uc))).heap[w.heap.size + 1]? = some (.cells #[.int .i64 yi, .int .i64 yk, .int .i64 yl, .string yd, .slice ua ye.length uc] 37 (0, 0)) :=
    put5 _ _ _ _ _ ((Below.heap_setCell w1 _ _ (w.heap.size + 1) (by simp)).trans g1)
  refine bodyPost_ret (results_ino Tryd.results24 _ _ (w.heap.size + 1) _ rfl rfl hgg) rfl ⟨.slice ua ye.length uc, rfl, ?_, ?_⟩
  · have q1 := ownsRow_setCell_below r1 (a := ⟨w.heap.size + 1 + 1, 4, none⟩) (by show w.heap.size + 1 + 1 < _; omega) (.slice ua ye.length uc)
    have q2 := ownsRow_setCell_below q1 (a := ⟨w.heap.size + 1, 0, none⟩) (by show w.heap.size + 1 < _; omega) (.int .i64 yi)
    have q3 := ownsRow_setCell_below q2 (a := ⟨w.heap.size + 1, 1, none⟩) (by show w.heap.size + 1 < _; omega) (.int .i64 yk)
    have q4 := ownsRow_setCell_below q3 (a := ⟨w.heap.size + 1, 2, none⟩) (by show w.heap.size + 1 < _; omega) (.int .i64 yl)
    have q5 := ownsRow_setCell_below q4 (a := ⟨w.heap.size + 1, 3, none⟩) (by show w.heap.size + 1 < _; omega) (.string yd)
    have q6 := ownsRow_setCell_below q5 (a := ⟨w.heap.size + 1, 4, none⟩) (by show w.heap.size + 1 < _; omega) (.slice ua ye.length uc)
    exact EntRow.mono q6 (by omega)
  · exact (((((b1w.setCell (by show w.heap.size ≤ w.heap.size + 1 + 1; omega) _).setCell (by show w.heap.size ≤ w.heap.size + 1; omega) _).setCell (by show w.heap.size ≤ w.heap.size + 1; omega) _).setCell (by show w.heap.size ≤ w.heap.size + 1; omega) _).setCell (by show w.heap.size ≤ w.heap.size + 1; omega) _).setCell (by show w.heap.size ≤ w.heap.size + 1; omega) _

end Go.Proofs.YtjggkhcomaiplaaDoor
