/- Extents, program's side: splitAt. -/
import Derived.Test.YtkbkanmmpdeokaaRows
import Derived.Test.YtkbkanmmpdeokaaIEa
import Derived.Test.YtkbkanmmpdeokaaPcN
import Derived.Lib.QuietBelow
import Derived.BigQuiet
import Derived.Lib.SmallJoins
import Derived.Laws.ResultCell
namespace Go.Proofs.Ytkbkanmmpdeokaa
open Go.RowKit Go.Sort

theorem results_two {fn : Func} {p q : Tmp} (h : fn.results = #[.cell p 58, .cell q 58]) (tmps : Array Value) (w : World) (g g2 : Nat) (cs ds : Array Value) (hc : cs.size = 3) (hd : ds.size = 3)
    (hp : tmps.getD p undef = .pointer (some ⟨g, 0, none⟩)) (hq : tmps.getD q undef = .pointer (some ⟨g2, 0, none⟩)) (hg : w.heap[g]? = some (.cells cs 58 (0, 0))) (hg2 : w.heap[g2]? = some (.cells ds 58 (0, 0))) :
    (results fn tmps).run Try.prog w = .ok (.tuple #[.agg cs, .agg ds]) w := by
  have hi : (Try.prog.info? 58).map (·.size) = some cs.size := by rw [hc]; kernel_rfl
  have hj : (Try.prog.info? 58).map (·.size) = some ds.size := by rw [hd]; kernel_rfl
  have hr := run_loadVar_row (P := Try.prog) w g 58 58 cs (0, 0) _ hg Try.underlying58 rfl hi
  have hs := run_loadVar_row (P := Try.prog) w g2 58 58 ds (0, 0) _ hg2 Try.underlying58 rfl hj
  have hp' : tmps[p]?.getD undef = .pointer (some ⟨g, 0, none⟩) := by simpa using hp
  have hq' : tmps[q]?.getD undef = .pointer (some ⟨g2, 0, none⟩) := by simpa using hq
  simp [results, h, hp', hq', asAddr, hr, hs]
theorem put3 {w : World} {g : Nat} {T : TypeId} {a0 a1 a2 : Value} (x0 x1 x2 : Value) (h : w.heap[g]? = some (.cells #[a0, a1, a2] T (0, 0))) :
    (((w.setCell ⟨g, 0, none⟩ x0).setCell ⟨g, 1, none⟩ x1).setCell ⟨g, 2, none⟩ x2).heap[g]? = some (.cells #[x0, x1, x2] T (0, 0)) := by
  have h1 := Joins.block_setCell (i := 0) h x0
  have h2 := Joins.block_setCell (i := 1) h1 x1
  exact Joins.block_setCell (i := 2) h2 x2
theorem two_boxes {W : World} {O R : Nat} {T : TypeId} {a0 a1 a2 b0 b1 b2 : Value} (h : O ≠ R) (gO : W.heap[O]? = some (.cells #[a0, a1, a2] T (0, 0))) (gR : W.heap[R]? = some (.cells #[b0, b1, b2] T (0, 0))) (x0 x1 x2 y0 y1 y2 : Value) :
    ((((((W.setCell ⟨O, 0, none⟩ x0).setCell ⟨O, 1, none⟩ x1).setCell ⟨O, 2, none⟩ x2).setCell ⟨R, 0, none⟩ y0).setCell ⟨R, 1, none⟩ y1).setCell ⟨R, 2, none⟩ y2).drew.heap[O]? = some (.cells #[x0, x1, x2] T (0, 0)) ∧
    ((((((W.setCell ⟨O, 0, none⟩ x0).setCell ⟨O, 1, none⟩ x1).setCell ⟨O, 2, none⟩ x2).setCell ⟨R, 0, none⟩ y0).setCell ⟨R, 1, none⟩ y1).setCell ⟨R, 2, none⟩ y2).drew.heap[R]? = some (.cells #[y0, y1, y2] T (0, 0)) := by
  have h1 := put3 x0 x1 x2 gO
  have far : ∀ (V : World) (j : Nat) (y : Value), (V.setCell ⟨R, j, none⟩ y).heap[O]? = V.heap[O]? := fun V j y => Below.heap_setCell V ⟨R, j, none⟩ y O h
  have far2 : ∀ (V : World) (j : Nat) (y : Value), (V.setCell ⟨O, j, none⟩ y).heap[R]? = V.heap[R]? := fun V j y => Below.heap_setCell V ⟨O, j, none⟩ y R h.symm
  generalize hV : ((W.setCell ⟨O, 0, none⟩ x0).setCell ⟨O, 1, none⟩ x1).setCell ⟨O, 2, none⟩ x2 = V at h1 ⊢
  have gV : V.heap[R]? = some (.cells #[b0, b1, b2] T (0, 0)) := by rw [← hV, far2, far2, far2]; exact gR
  exact ⟨((far _ 2 y2).trans ((far _ 1 y1).trans (far V 0 y0))).trans h1, put3 y0 y1 y2 gV⟩
theorem two_below {w W : World} {B O R : Nat} (h : Below B w W) (h1 : B ≤ O) (h2 : B ≤ R) (x0 x1 x2 y0 y1 y2 : Value) :
    Below B w ((((((W.setCell ⟨O, 0, none⟩ x0).setCell ⟨O, 1, none⟩ x1).setCell ⟨O, 2, none⟩ x2).setCell ⟨R, 0, none⟩ y0).setCell ⟨R, 1, none⟩ y1).setCell ⟨R, 2, none⟩ y2).drew :=
  ((((((h.setCell (p := ⟨O, 0, none⟩) h1 x0).setCell (p := ⟨O, 1, none⟩) h1 x1).setCell (p := ⟨O, 2, none⟩) h1 x2).setCell (p := ⟨R, 0, none⟩) h2 y0).setCell (p := ⟨R, 1, none⟩) h2 y1).setCell (p := ⟨R, 2, none⟩) h2 y2).drew
theorem wrap_i64_eq (x : Int) : IntKind.i64.wrap x = wrap64 x := by
  rw [IntKind.wrap_i64]; unfold wrap64; omega

set_option maxRecDepth 100000 in
set_option maxHeartbeats 2000000 in
theorem iSplitAt (x : Ex) (n : Int) (w : World) (h : ExOne x) :
    Calls Try.prog 48 #[.agg #[.int .i64 x.p, .int .i64 x.b, .int .i64 x.n], .int .i64 n] w fun e w' => e = .returned (.tuple #[.agg #[.int .i64 x.p, .int .i64 x.b, .int .i64 (stN x n)], .agg #[.int .i64 (x.p + stN x n), .int .i64 (x.b + stN x n), .int .i64 (x.n - stN x n)]]) ∧ Below w.heap.size w w' := by
  have hE := fun w' => iEnd x w' h
  obtain ⟨hs0, hs1⟩ := stN_bd h.2.1 n
  have hst : stN x n = min (max n x.p) (x.p + x.n) - x.p := rfl
  obtain ⟨x0, x1, x2⟩ := x
  obtain ⟨h1, h2, h3, h4, h5⟩ := h
  dsimp only at *
  generalize stN ⟨x0, x1, x2⟩ n = s at *
  have v1 : IntKind.i64.wrap (min (max n x0) (x0 + x2) - x0) = s := by rw [← hst, IntKind.wrap_i64]; omega
  have v2 : IntKind.i64.wrap (x0 + s) = x0 + s := by rw [IntKind.wrap_i64]; omega
  have v3 : IntKind.i64.wrap (x1 + s) = x1 + s := by rw [IntKind.wrap_i64]; omega
  have v4 : IntKind.i64.wrap (x2 - s) = x2 - s := by rw [IntKind.wrap_i64]; omega
  have hb := below_lit w (.cells #[.int .i64 x0, .int .i64 x1, .int .i64 x2] 58)
  obtain ⟨m0, m1, m2⟩ := ex_box w x0 x1 x2
  clear hst h1 h2 h3 h4 h5 hs0 hs1
  go_enter Try.func48, Try.ntmps48
  go_upto_region 1 with fail
  obtain ⟨W0, HW0⟩ : ∃ W0, W0 = ((w.alloc (.cells #[.int .i64 x0, .int .i64 x1, .int .i64 x2] 58)).alloc (.cells #[.int .i64 0, .int .i64 0, .int .i64 0] 58)).alloc (.cells #[.int .i64 0, .int .i64 0, .int .i64 0] 58) := ⟨_, rfl⟩
  have hB0 : Below w.heap.size w W0 := by rw [HW0]; exact (hb.alloc hb.size _).alloc (by rw [alloc_size]; have := hb.size; omega) _
  have hz : W0.heap.size = w.heap.size + 3 := by rw [HW0]; simp
  have hH0 : W0.heap[w.heap.size]? = some (.cells #[.int .i64 x0, .int .i64 x1, .int .i64 x2] 58 (0, 0)) := by
    rw [HW0, Below.heap_alloc _ _ _ (by simp; omega), Below.heap_alloc _ _ _ (by simp)]; exact Array.getElem?_push_size
  have hH1 : W0.heap[w.heap.size + 1]? = some (.cells #[.int .i64 0, .int .i64 0, .int .i64 0] 58 (0, 0)) := by
    rw [HW0, Below.heap_alloc _ _ _ (by simp)]
    have := Array.getElem?_push_size (xs := (w.alloc (.cells #[.int .i64 x0, .int .i64 x1, .int .i64 x2] 58)).heap) (x := Obj.cells #[.int .i64 0, .int .i64 0, .int .i64 0] 58)
    rw [alloc_size] at this
    exact this
  have hH2 : W0.heap[w.heap.size + 2]? = some (.cells #[.int .i64 0, .int .i64 0, .int .i64 0] 58 (0, 0)) := by
    rw [HW0]
    have := Array.getElem?_push_size (xs := ((w.alloc (.cells #[.int .i64 x0, .int .i64 x1, .int .i64 x2] 58)).alloc (.cells #[.int .i64 0, .int .i64 0, .int .i64 0] 58)).heap) (x := Obj.cells #[.int .i64 0, .int .i64 0, .int .i64 0] 58)
    rw [alloc_size, alloc_size] at this
    exact this
  rw [← HW0]
  clear HW0 hb m0 m1 m2
  have q0 := cell_regrown (Joins.cell_of_block hH0 0)
  have q1 := cell_regrown (Joins.cell_of_block hH0 1)
  have q2 := cell_regrown (Joins.cell_of_block hH0 2)
  have VE := fun dd os => (hE (grow (redrawn W0 dd) os)).regrown_of
  refine wp_region_quiet_below (by kernel_rfl) (by kernel_rfl) ?_
  repeat (go_big_quiet_step (first | with_reducible exact VE _ _))
  refine wpQuiet_nil ?_
  rintro w' ⟨⟨dq, osq⟩, rfl⟩
  have hbq := below_regrown W0 dq osq
  have hb4 := hB0.trans (hbq.mono hB0.size)
  have g0 := (hbq.block w.heap.size (by omega)).trans hH0
  have g1 := (hbq.block (w.heap.size + 1) (by omega)).trans hH1
  have g2 := (hbq.block (w.heap.size + 2) (by omega)).trans hH2
  generalize grow (redrawn W0 dq) osq = w4 at hb4 g0 g1 g2 ⊢
  clear hbq q0 q1 q2 VE hH0 hH1 hH2
  have c0 : w4.cell? ⟨w.heap.size, 0, none⟩ = some (.int .i64 x0) := Joins.cell_of_block g0 0
  have c1 : w4.cell? ⟨w.heap.size, 1, none⟩ = some (.int .i64 x1) := Joins.cell_of_block g0 1
  have c2 : w4.cell? ⟨w.heap.size, 2, none⟩ = some (.int .i64 x2) := Joins.cell_of_block g0 2
  have e1 : wrap64 ((if x0 + x2 < if n < x0 then x0 else n then x0 + x2 else if n < x0 then x0 else n) - x0) = s := by
    rw [← v1, ← wrap_i64_eq]
    congr 1
    omega
  generalize (if n < x0 then x0 else n) = A at e1 ⊢
  generalize (if x0 + x2 < A then x0 + x2 else A) = B at e1 ⊢
  rw [e1]
  clear e1 v1 hE
  have hp0 : w.heap.size ≠ w.heap.size + 1 := by omega
  have hp1 : w.heap.size ≠ w.heap.size + 1 + 1 := by omega
  have hp2 : w.heap.size + 1 ≠ w.heap.size + 1 + 1 := by omega
  have g2 : w4.heap[w.heap.size + 1 + 1]? = some (.cells #[.int .i64 0, .int .i64 0, .int .i64 0] 58 (0, 0)) := g2
  have hP : w.heap.size ≤ w.heap.size := Nat.le_refl _
  have hb1 : w.heap.size ≤ w.heap.size + 1 := by omega
  have hb2 : w.heap.size ≤ w.heap.size + 1 + 1 := by omega
  have d0 : w4.cell? ⟨w.heap.size + 1, 0, none⟩ = some (.int .i64 0) := Joins.cell_of_block g1 0
  have d1 : w4.cell? ⟨w.heap.size + 1, 1, none⟩ = some (.int .i64 0) := Joins.cell_of_block g1 1
  have d2 : w4.cell? ⟨w.heap.size + 1, 2, none⟩ = some (.int .i64 0) := Joins.cell_of_block g1 2
  have f0 : w4.cell? ⟨w.heap.size + 1 + 1, 0, none⟩ = some (.int .i64 0) := Joins.cell_of_block g2 0
  have f1 : w4.cell? ⟨w.heap.size + 1 + 1, 1, none⟩ = some (.int .i64 0) := Joins.cell_of_block g2 1
  have f2 : w4.cell? ⟨w.heap.size + 1 + 1, 2, none⟩ = some (.int .i64 0) := Joins.cell_of_block g2 2
  have z0 : ∀ j, w4.frozen? ⟨w.heap.size + 1, j, none⟩ = false := fun j => by simp [World.frozen?, g1]
  have z1 : ∀ j, w4.frozen? ⟨w.heap.size + 1 + 1, j, none⟩ = false := fun j => by simp [World.frozen?, g2]
  have HG1 : Hid (w4.heap[w.heap.size + 1]? = some (.cells #[.int .i64 0, .int .i64 0, .int .i64 0] 58 (0, 0))) := g1
  have HG2 : Hid (w4.heap[w.heap.size + 1 + 1]? = some (.cells #[.int .i64 0, .int .i64 0, .int .i64 0] 58 (0, 0))) := g2
  clear g0 g1 g2
  go_wp2
  go_region
  go_wp2
  obtain ⟨k1, k2⟩ := two_boxes hp2 HG1.out HG2.out (.int .i64 x0) (.int .i64 x1) (.int .i64 s) (.int .i64 (x0 + s)) (.int .i64 (x1 + s)) (.int .i64 (x2 - s))
  have hbb := two_below hb4 hb1 hb2 (.int .i64 x0) (.int .i64 x1) (.int .i64 s) (.int .i64 (x0 + s)) (.int .i64 (x1 + s)) (.int .i64 (x2 - s))
  exact bodyPost_ret (results_two Try.results48 _ _ (w.heap.size + 1) (w.heap.size + 1 + 1) #[.int .i64 x0, .int .i64 x1, .int .i64 s] #[.int .i64 (x0 + s), .int .i64 (x1 + s), .int .i64 (x2 - s)] rfl rfl rfl rfl k1 k2) rfl ⟨rfl, hbb⟩
end Go.Proofs.Ytkbkanmmpdeokaa
