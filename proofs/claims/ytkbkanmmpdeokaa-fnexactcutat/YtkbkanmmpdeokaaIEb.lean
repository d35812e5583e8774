/- Extents, program's side: Ext's own methods of two extents. -/
import Derived.Test.YtkbkanmmpdeokaaRows
import Derived.Test.YtkbkanmmpdeokaaIEa
import Derived.Lib.QuietBelow
import Derived.BigQuiet
namespace Go.Proofs.Ytkbkanmmpdeokaa
open Go.RowKit Go.Sort

def goB (a e : Ex) : Bool := e.p == a.p + a.n && e.b == a.b + a.n
theorem goB_iff (a e : Ex) : goB a e = true ↔ e.p = a.p + a.n ∧ e.b = a.b + a.n := by simp [goB]

set_option maxRecDepth 100000 in
set_option maxHeartbeats 2000000 in
theorem iGoesOn (x y : Ex) (w : World) (h : ExOne y) :
    Calls Try.prog 39 #[.agg #[.int .i64 x.p, .int .i64 x.b, .int .i64 x.n], .agg #[.int .i64 y.p, .int .i64 y.b, .int .i64 y.n]] w fun e w' => e = .returned (.bool (goB y x)) ∧ Below w.heap.size w w' := by
  have hE := fun w' => iEnd y w' h
  obtain ⟨x0, x1, x2⟩ := x
  obtain ⟨y0, y1, y2⟩ := y
  obtain ⟨h1, h2, h3, h4, h5⟩ := h
  unfold goB
  dsimp only at *
  have hw2 : IntKind.i64.wrap (y1 + y2) = y1 + y2 := by rw [IntKind.wrap_i64]; omega
  clear h1 h2 h3 h4 h5
  generalize y0 + y2 = yy at hE ⊢
  have hx := ex_box w x0 x1 x2
  have hb1 := below_lit w (.cells #[.int .i64 x0, .int .i64 x1, .int .i64 x2] 58)
  have hy := ex_box (w.alloc (.cells #[.int .i64 x0, .int .i64 x1, .int .i64 x2] 58)) y0 y1 y2
  have hb2 := below_lit (w.alloc (.cells #[.int .i64 x0, .int .i64 x1, .int .i64 x2] 58)) (.cells #[.int .i64 y0, .int .i64 y1, .int .i64 y2] 58)
  obtain ⟨n0, n1, n2⟩ := hy
  obtain ⟨m0, m1, m2⟩ := hx
  have m0 := (hb2.cell (p := ⟨w.heap.size, 0, none⟩) (by simp)).trans m0
  have m1 := (hb2.cell (p := ⟨w.heap.size, 1, none⟩) (by simp)).trans m1
  have m2 := (hb2.cell (p := ⟨w.heap.size, 2, none⟩) (by simp)).trans m2
  have hb := hb1.trans (hb2.mono hb1.size)
  clear hb1 hb2
  have hz0 : (w.alloc (.cells #[.int .i64 x0, .int .i64 x1, .int .i64 x2] 58)).heap.size = w.heap.size + 1 := by simp
  rw [hz0] at n0 n1 n2
  go_enter Try.func39, Try.ntmps39
  by_cases s : x0 = yy
  · have sb : (x0 == yy) = true := by rw [beq_iff_eq]; exact s
    clear s
    by_cases s2 : x1 = y1 + y2
    · have s2b : (x1 == y1 + y2) = true := by rw [beq_iff_eq]; exact s2
      clear s2
      rw [sb, s2b]
      go_upto_region 1 with fail
      generalize (w.alloc (.cells #[.int .i64 x0, .int .i64 x1, .int .i64 x2] 58)).alloc (.cells #[.int .i64 y0, .int .i64 y1, .int .i64 y2] 58) = W0 at hb m0 m1 m2 n0 n1 n2 ⊢
      have qm0 := cell_regrown m0
      have qm1 := cell_regrown m1
      have qm2 := cell_regrown m2
      have qn0 := cell_regrown n0
      have qn1 := cell_regrown n1
      have qn2 := cell_regrown n2
      have VhE := fun dd os => (hE (grow (redrawn W0 dd) os)).regrown_of
      refine wp_region_quiet_below (by kernel_rfl) (by kernel_rfl) ?_
      repeat (go_big_quiet_step (first | with_reducible exact VhE _ _))
      refine wpQuiet_nil ?_
      rintro w' ⟨⟨dq, osq⟩, rfl⟩
      have hbq := below_regrown W0 dq osq
      generalize grow (redrawn W0 dq) osq = w4 at hbq ⊢
      go_wp2
      go_ret
      exact ⟨rfl, hb.trans (hbq.mono hb.size)⟩
    · have s2b : (x1 == y1 + y2) = false := by rw [beq_eq_false_iff_ne]; exact s2
      clear s2
      rw [sb, s2b]
      go_upto_region 1 with fail
      generalize (w.alloc (.cells #[.int .i64 x0, .int .i64 x1, .int .i64 x2] 58)).alloc (.cells #[.int .i64 y0, .int .i64 y1, .int .i64 y2] 58) = W0 at hb m0 m1 m2 n0 n1 n2 ⊢
      have qm0 := cell_regrown m0
      have qm1 := cell_regrown m1
      have qm2 := cell_regrown m2
      have qn0 := cell_regrown n0
      have qn1 := cell_regrown n1
      have qn2 := cell_regrown n2
      have VhE := fun dd os => (hE (grow (redrawn W0 dd) os)).regrown_of
      refine wp_region_quiet_below (by kernel_rfl) (by kernel_rfl) ?_
      repeat (go_big_quiet_step (first | with_reducible exact VhE _ _))
      refine wpQuiet_nil ?_
      rintro w' ⟨⟨dq, osq⟩, rfl⟩
      have hbq := below_regrown W0 dq osq
      generalize grow (redrawn W0 dq) osq = w4 at hbq ⊢
      go_wp2
      go_ret
      exact ⟨rfl, hb.trans (hbq.mono hb.size)⟩
  · have sb : (x0 == yy) = false := by rw [beq_eq_false_iff_ne]; exact s
    clear s
    rw [sb, Bool.false_and]
    go_upto_region 1 with fail
    generalize (w.alloc (.cells #[.int .i64 x0, .int .i64 x1, .int .i64 x2] 58)).alloc (.cells #[.int .i64 y0, .int .i64 y1, .int .i64 y2] 58) = W0 at hb m0 m1 m2 n0 n1 n2 ⊢
    have qm0 := cell_regrown m0
    have qm1 := cell_regrown m1
    have qm2 := cell_regrown m2
    have qn0 := cell_regrown n0
    have qn1 := cell_regrown n1
    have qn2 := cell_regrown n2
    have VhE := fun dd os => (hE (grow (redrawn W0 dd) os)).regrown_of
    refine wp_region_quiet_below (by kernel_rfl) (by kernel_rfl) ?_
    repeat (go_big_quiet_step (first | with_reducible exact VhE _ _))
    refine wpQuiet_nil ?_
    rintro w' ⟨⟨dq, osq⟩, rfl⟩
    have hbq := below_regrown W0 dq osq
    generalize grow (redrawn W0 dq) osq = w4 at hbq ⊢
    go_wp2
    go_ret
    exact ⟨rfl, hb.trans (hbq.mono hb.size)⟩

def fol (a e : Ex) : Bool := decide (a.p + a.n ≤ e.p) && !goB a e
theorem fol_iff (a e : Ex) : fol a e = true ↔ ExGap a e := by
  unfold fol ExGap
  rw [Bool.and_eq_true, decide_eq_true_eq, Bool.not_eq_true', ← Bool.not_eq_true, goB_iff]
  constructor
  · rintro ⟨h1, h2⟩; exact ⟨h1, fun h => h2 ⟨h.1.symm, h.2⟩⟩
  · rintro ⟨h1, h2⟩; exact ⟨h1, fun h => h2 ⟨h.1.symm, h.2⟩⟩

set_option maxRecDepth 100000 in
set_option maxHeartbeats 2000000 in
theorem iFollow (x y : Ex) (w : World) (h : ExOne y) :
    Calls Try.prog 55 #[.agg #[.int .i64 x.p, .int .i64 x.b, .int .i64 x.n], .agg #[.int .i64 y.p, .int .i64 y.b, .int .i64 y.n]] w fun e w' => e = .returned (.bool (fol y x)) ∧ Below w.heap.size w w' := by
  have hE := fun w' => iEnd y w' h
  have hG := fun w' => iGoesOn x y w' h
  unfold fol
  generalize goB y x = g at hG ⊢
  obtain ⟨x0, x1, x2⟩ := x
  obtain ⟨y0, y1, y2⟩ := y
  dsimp only at *
  clear h
  generalize y0 + y2 = yy at hE ⊢
  have hx := ex_box w x0 x1 x2
  have hb1 := below_lit w (.cells #[.int .i64 x0, .int .i64 x1, .int .i64 x2] 58)
  have hy := ex_box (w.alloc (.cells #[.int .i64 x0, .int .i64 x1, .int .i64 x2] 58)) y0 y1 y2
  have hb2 := below_lit (w.alloc (.cells #[.int .i64 x0, .int .i64 x1, .int .i64 x2] 58)) (.cells #[.int .i64 y0, .int .i64 y1, .int .i64 y2] 58)
  obtain ⟨n0, n1, n2⟩ := hy
  obtain ⟨m0, m1, m2⟩ := hx
  have m0 := (hb2.cell (p := ⟨w.heap.size, 0, none⟩) (by simp)).trans m0
  have m1 := (hb2.cell (p := ⟨w.heap.size, 1, none⟩) (by simp)).trans m1
  have m2 := (hb2.cell (p := ⟨w.heap.size, 2, none⟩) (by simp)).trans m2
  have hb := hb1.trans (hb2.mono hb1.size)
  clear hb1 hb2
  have hz0 : (w.alloc (.cells #[.int .i64 x0, .int .i64 x1, .int .i64 x2] 58)).heap.size = w.heap.size + 1 := by simp
  rw [hz0] at n0 n1 n2
  go_enter Try.func55, Try.ntmps55
  by_cases s : yy ≤ x0
  · have sb : decide (yy ≤ x0) = true := decide_eq_true s
    have sc : decide (x0 ≥ yy) = true := decide_eq_true s
    have sd : x0 ≥ yy := s
    rw [sb, Bool.true_and]
    cases g
    · go_upto_region 1 with fail
      generalize (w.alloc (.cells #[.int .i64 x0, .int .i64 x1, .int .i64 x2] 58)).alloc (.cells #[.int .i64 y0, .int .i64 y1, .int .i64 y2] 58) = W0 at hb m0 m1 m2 n0 n1 n2 ⊢
      have qm0 := cell_regrown m0
      have qm1 := cell_regrown m1
      have qm2 := cell_regrown m2
      have qn0 := cell_regrown n0
      have qn1 := cell_regrown n1
      have qn2 := cell_regrown n2
      have VhE := fun dd os => (hE (grow (redrawn W0 dd) os)).regrown_of
      have VhG := fun dd os => (hG (grow (redrawn W0 dd) os)).regrown_of
      refine wp_region_quiet_below (by kernel_rfl) (by kernel_rfl) ?_
      repeat (go_big_quiet_step (first | with_reducible exact VhE _ _ | with_reducible exact VhG _ _))
      refine wpQuiet_nil ?_
      rintro w' ⟨⟨dq, osq⟩, rfl⟩
      have hbq := below_regrown W0 dq osq
      generalize grow (redrawn W0 dq) osq = w4 at hbq ⊢
      go_wp2
      go_ret
      exact ⟨rfl, hb.trans (hbq.mono hb.size)⟩
    · go_upto_region 1 with fail
      generalize (w.alloc (.cells #[.int .i64 x0, .int .i64 x1, .int .i64 x2] 58)).alloc (.cells #[.int .i64 y0, .int .i64 y1, .int .i64 y2] 58) = W0 at hb m0 m1 m2 n0 n1 n2 ⊢
      have qm0 := cell_regrown m0
      have qm1 := cell_regrown m1
      have qm2 := cell_regrown m2
      have qn0 := cell_regrown n0
      have qn1 := cell_regrown n1
      have qn2 := cell_regrown n2
      have VhE := fun dd os => (hE (grow (redrawn W0 dd) os)).regrown_of
      have VhG := fun dd os => (hG (grow (redrawn W0 dd) os)).regrown_of
      refine wp_region_quiet_below (by kernel_rfl) (by kernel_rfl) ?_
      repeat (go_big_quiet_step (first | with_reducible exact VhE _ _ | with_reducible exact VhG _ _))
      refine wpQuiet_nil ?_
      rintro w' ⟨⟨dq, osq⟩, rfl⟩
      have hbq := below_regrown W0 dq osq
      generalize grow (redrawn W0 dq) osq = w4 at hbq ⊢
      go_wp2
      go_ret
      exact ⟨rfl, hb.trans (hbq.mono hb.size)⟩
  · have sb : decide (yy ≤ x0) = false := decide_eq_false s
    have sc : decide (x0 ≥ yy) = false := decide_eq_false s
    have sd : ¬ x0 ≥ yy := s
    rw [sb, Bool.false_and]
    go_upto_region 1 with fail
    generalize (w.alloc (.cells #[.int .i64 x0, .int .i64 x1, .int .i64 x2] 58)).alloc (.cells #[.int .i64 y0, .int .i64 y1, .int .i64 y2] 58) = W0 at hb m0 m1 m2 n0 n1 n2 ⊢
    have qm0 := cell_regrown m0
    have qm1 := cell_regrown m1
    have qm2 := cell_regrown m2
    have qn0 := cell_regrown n0
    have qn1 := cell_regrown n1
    have qn2 := cell_regrown n2
    have VhE := fun dd os => (hE (grow (redrawn W0 dd) os)).regrown_of
    have VhG := fun dd os => (hG (grow (redrawn W0 dd) os)).regrown_of
    refine wp_region_quiet_below (by kernel_rfl) (by kernel_rfl) ?_
    repeat (go_big_quiet_step (first | with_reducible exact VhE _ _ | with_reducible exact VhG _ _))
    refine wpQuiet_nil ?_
    rintro w' ⟨⟨dq, osq⟩, rfl⟩
    have hbq := below_regrown W0 dq osq
    generalize grow (redrawn W0 dq) osq = w4 at hbq ⊢
    go_wp2
    go_ret
    exact ⟨rfl, hb.trans (hbq.mono hb.size)⟩

set_option maxRecDepth 100000 in
set_option maxHeartbeats 2000000 in
theorem iJoined (x y : Ex) (w : World) (h1 : 0 ≤ x.n ∧ x.n ≤ 1048576) (h2 : 0 ≤ y.n ∧ y.n ≤ 1048576) :
    Calls Try.prog 40 #[.agg #[.int .i64 x.p, .int .i64 x.b, .int .i64 x.n], .agg #[.int .i64 y.p, .int .i64 y.b, .int .i64 y.n]] w fun e w' => e = .returned (.agg #[.int .i64 x.p, .int .i64 x.b, .int .i64 (x.n + y.n)]) ∧ Below w.heap.size w w' := by
  obtain ⟨x0, x1, x2⟩ := x
  obtain ⟨y0, y1, y2⟩ := y
  dsimp only at *
  have hw : IntKind.i64.wrap (x2 + y2) = x2 + y2 := by rw [IntKind.wrap_i64]; omega
  obtain ⟨hl, hu⟩ := h1
  obtain ⟨hl2, hu2⟩ := h2
  have hx := ex_box w x0 x1 x2
  have hb1 := below_lit w (.cells #[.int .i64 x0, .int .i64 x1, .int .i64 x2] 58)
  have hy := ex_box (w.alloc (.cells #[.int .i64 x0, .int .i64 x1, .int .i64 x2] 58)) y0 y1 y2
  have hb2 := below_lit (w.alloc (.cells #[.int .i64 x0, .int .i64 x1, .int .i64 x2] 58)) (.cells #[.int .i64 y0, .int .i64 y1, .int .i64 y2] 58)
  obtain ⟨n0, n1, n2⟩ := hy
  obtain ⟨m0, m1, m2⟩ := hx
  have m0 := (hb2.cell (p := ⟨w.heap.size, 0, none⟩) (by simp)).trans m0
  have m1 := (hb2.cell (p := ⟨w.heap.size, 1, none⟩) (by simp)).trans m1
  have m2 := (hb2.cell (p := ⟨w.heap.size, 2, none⟩) (by simp)).trans m2
  have hb := hb1.trans (hb2.mono hb1.size)
  clear hb1 hb2
  have hz0 : (w.alloc (.cells #[.int .i64 x0, .int .i64 x1, .int .i64 x2] 58)).heap.size = w.heap.size + 1 := by simp
  rw [hz0] at n0 n1 n2
  go_enter Try.func40, Try.ntmps40
  go_wp2
  exact bodyPost_ret (v := .agg #[.int .i64 x0, .int .i64 x1, .int .i64 (x2 + y2)]) (by simp [results, Try.results40, go_sem]) rfl ⟨rfl, (((below_lit w _).alloc (by simp) _).alloc (by simp; omega) _)⟩
end Go.Proofs.Ytkbkanmmpdeokaa
