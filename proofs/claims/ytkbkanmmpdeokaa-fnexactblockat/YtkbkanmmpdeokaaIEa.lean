/- Extents, program's side: Ext's own methods. -/
import Derived.Test.YtkbkanmmpdeokaaRows
import Derived.Test.YtkbkanmmpdeokaaSEd
import Derived.Test.YtkbkanmmpdeokaaIBa
import Derived.Deep.RegionHeld3
namespace Go.Proofs.Ytkbkanmmpdeokaa
open Go.RowKit Go.Sort

theorem ex_box (w : World) (p b n : Int) : (w.alloc (.cells #[.int .i64 p, .int .i64 b, .int .i64 n] 58)).cell? ⟨w.heap.size, 0, none⟩ = some (.int .i64 p) ∧ (w.alloc (.cells #[.int .i64 p, .int .i64 b, .int .i64 n] 58)).cell? ⟨w.heap.size, 1, none⟩ = some (.int .i64 b) ∧ (w.alloc (.cells #[.int .i64 p, .int .i64 b, .int .i64 n] 58)).cell? ⟨w.heap.size, 2, none⟩ = some (.int .i64 n) := by
  refine ⟨?_, ?_, ?_⟩ <;> rw [World.cell?_alloc_mark] <;> rfl
theorem ex_keep {w : World} {b o : Nat} {x : Ex} (h : CellsEx w b o x) (hl : b < w.heap.size) (v : Obj) : CellsEx (w.alloc v) b o x := h.below hl (below_lit w v)
theorem alloc_size (w : World) (v : Obj) : (w.alloc v).heap.size = w.heap.size + 1 := by simp

set_option maxRecDepth 100000 in
set_option maxHeartbeats 1000000 in
theorem iEnd (x : Ex) (w : World) (h : ExOne x) :
    Calls Try.prog 58 #[.agg #[.int .i64 x.p, .int .i64 x.b, .int .i64 x.n]] w fun e w' => e = .returned (.int .i64 (x.p + x.n)) ∧ Below w.heap.size w w' := by
  obtain ⟨x0, x1, x2⟩ := x
  obtain ⟨h1, h2, h3, h4, h5⟩ := h
  dsimp only at *
  have hb := below_lit w (.cells #[.int .i64 x0, .int .i64 x1, .int .i64 x2] 58)
  have hw : IntKind.i64.wrap (x0 + x2) = x0 + x2 := by rw [IntKind.wrap_i64]; omega
  obtain ⟨m0, m1, m2⟩ := ex_box w x0 x1 x2
  go_enter Try.func58, Try.ntmps58
  go_wp2
  go_ret
  exact ⟨rfl, hb⟩

def oneB (x : Ex) : Bool := inB x.p 0 11 && (inB x.n 1 (12 - x.p) && inB x.b 0 (24 - x.n))
theorem oneB_iff (x : Ex) : oneB x = true ↔ ExOne x := by
  unfold oneB ExOne inB
  simp only [Bool.and_eq_true, decide_eq_true_eq]
  omega

set_option maxRecDepth 100000 in
set_option maxHeartbeats 1000000 in
theorem iWithin (x : Ex) (w : World) :
    Calls Try.prog 53 #[.agg #[.int .i64 x.p, .int .i64 x.b, .int .i64 x.n]] w fun e w' => e = .returned (.bool (oneB x)) ∧ Below w.heap.size w w' := by
  obtain ⟨x0, x1, x2⟩ := x
  unfold oneB
  dsimp only
  have hI := fun w' => btw_any x0 0 11 w'
  have hJ := fun w' => btw_any x2 1 (12 - x0) w'
  have hK := fun w' => btw_any x1 0 (24 - x2) w'
  have HB : Hid (inB x0 0 11 = true → 0 ≤ x0 ∧ x0 ≤ 11) := fun h => inB_le h
  have HC : Hid (inB x2 1 (12 - x0) = true → 1 ≤ x2 ∧ x2 ≤ 12 - x0) := fun h => inB_le h
  have hb := below_lit w (.cells #[.int .i64 x0, .int .i64 x1, .int .i64 x2] 58)
  obtain ⟨m0, m1, m2⟩ := ex_box w x0 x1 x2
  generalize inB x0 0 11 = x at hI HB ⊢
  generalize inB x2 1 (12 - x0) = y at hJ HC ⊢
  generalize inB x1 0 (24 - x2) = z at hK ⊢
  cases x
  · go_enter Try.func53, Try.ntmps53
    go_wp2_with fail
    refine (hI _).mono ?_
    rintro e w2 ⟨rfl, rfl⟩
    go_wp2
    go_ret
    exact ⟨rfl, hb⟩
  · obtain ⟨h1, h2⟩ := HB.out rfl
    have hw : IntKind.i64.wrap (12 - x0) = 12 - x0 := by rw [IntKind.wrap_i64]; omega
    cases y
    · go_enter Try.func53, Try.ntmps53
      go_wp2_with fail
      refine (hI _).mono ?_
      rintro e w2 ⟨rfl, rfl⟩
      go_wp2_with fail
      refine (hJ _).mono ?_
      rintro e w2 ⟨rfl, rfl⟩
      go_wp2
      go_ret
      exact ⟨rfl, hb⟩
    · obtain ⟨h3, h4⟩ := HC.out rfl
      have hw2 : IntKind.i64.wrap (24 - x2) = 24 - x2 := by rw [IntKind.wrap_i64]; omega
      go_enter Try.func53, Try.ntmps53
      go_wp2_with fail
      refine (hI _).mono ?_
      rintro e w2 ⟨rfl, rfl⟩
      go_wp2_with fail
      refine (hJ _).mono ?_
      rintro e w2 ⟨rfl, rfl⟩
      go_wp2_with fail
      refine (hK _).mono ?_
      rintro e w2 ⟨rfl, rfl⟩
      go_wp2
      go_ret
      exact ⟨rfl, hb⟩

set_option maxRecDepth 100000 in
set_option maxHeartbeats 1000000 in
theorem iBlocks (x : Ex) (w : World) (h : ExOne x) :
    Calls Try.prog 54 #[.agg #[.int .i64 x.p, .int .i64 x.b, .int .i64 x.n]] w fun e w' => e = .returned (.int .u32 (mskN x.b.toNat x.n.toNat : Nat)) ∧ Below w.heap.size w w' := by
  obtain ⟨x0, x1, x2⟩ := x
  obtain ⟨h1, h2, h3, h4, h5⟩ := h
  dsimp only at *
  obtain ⟨b, rfl⟩ := Int.eq_ofNat_of_zero_le h4
  obtain ⟨n, rfl⟩ := Int.eq_ofNat_of_zero_le (show 0 ≤ x2 by omega)
  have HF := fun w' => iFlagsAt b n (by omega) w'
  rw [show ((b : Int)).toNat = b by omega, show ((n : Int)).toNat = n by omega]
  generalize mskN b n = m at HF ⊢
  have hb := below_lit w (.cells #[.int .i64 x0, .int .i64 b, .int .i64 n] 58)
  obtain ⟨m0, m1, m2⟩ := ex_box w x0 b n
  go_enter Try.func54, Try.ntmps54
  go_wp2_with fail
  refine (HF _).mono ?_
  rintro e w2 ⟨rfl, rfl⟩
  go_wp2
  go_ret
  exact ⟨rfl, hb⟩

set_option maxRecDepth 100000 in
set_option maxHeartbeats 1000000 in
theorem iExHas (x : Ex) (i : Int) (w : World) (h : ExOne x) :
    Calls Try.prog 47 #[.agg #[.int .i64 x.p, .int .i64 x.b, .int .i64 x.n], .int .i64 i] w fun e w' => e = .returned (.bool (inB i x.p (x.p + x.n - 1))) ∧ Below w.heap.size w w' := by
  have hE := fun w' => iEnd x w' h
  obtain ⟨x0, x1, x2⟩ := x
  obtain ⟨h1, h2, h3, h4, h5⟩ := h
  dsimp only at *
  have hI := fun w' => btw_any i x0 (x0 + x2 - 1) w'
  generalize inB i x0 (x0 + x2 - 1) = r at hI ⊢
  have hw : IntKind.i64.wrap (x0 + x2 - 1) = x0 + x2 - 1 := by rw [IntKind.wrap_i64]; omega
  have hb := below_lit w (.cells #[.int .i64 x0, .int .i64 x1, .int .i64 x2] 58)
  obtain ⟨m0, m1, m2⟩ := ex_box w x0 x1 x2
  have hlt : w.heap.size < (w.alloc (.cells #[.int .i64 x0, .int .i64 x1, .int .i64 x2] 58)).heap.size := by simp
  go_enter Try.func47, Try.ntmps47
  go_upto_region 1 with fail
  generalize w.alloc (.cells #[.int .i64 x0, .int .i64 x1, .int .i64 x2] 58) = W0 at hb m0 m1 m2 hlt ⊢
  have HB : Hid (Below w.heap.size w W0) := hb
  have HB1 : Hid (Below w.heap.size w W0.drew) := hb.drew
  clear hb
  go_region_held3 (fun w' => w'.cell? ⟨w.heap.size, 0, none⟩ = some (.int .i64 x0) ∧ w'.cell? ⟨w.heap.size, 1, none⟩ = some (.int .i64 x1) ∧ w'.cell? ⟨w.heap.size, 2, none⟩ = some (.int .i64 x2)) (go_keep)
    (first
      | (go_at_call 58; refine (hE _).mono ?_; rintro e w2 ⟨rfl, b2⟩; have B2 : Hid (Below w.heap.size w w2) := (by first | exact HB1.out.trans (b2.mono HB1.out.size) | exact HB.out.trans (b2.mono HB.out.size)); have m0 := (b2.cell (p := ⟨w.heap.size, 0, none⟩) (by first | exact hlt | simpa using hlt)).trans m0; have m1 := (b2.cell (p := ⟨w.heap.size, 1, none⟩) (by first | exact hlt | simpa using hlt)).trans m1; have m2 := (b2.cell (p := ⟨w.heap.size, 2, none⟩) (by first | exact hlt | simpa using hlt)).trans m2; clear b2)
      | (go_at_call 34; refine (hI _).mono ?_; rintro e w3 ⟨rfl, rfl⟩))
  go_wp2
  go_ret
  exact ⟨rfl, B2.out⟩

set_option maxRecDepth 100000 in
set_option maxHeartbeats 1000000 in
theorem iAhead (x y : Ex) (w : World) :
    Calls Try.prog 38 #[.agg #[.int .i64 x.p, .int .i64 x.b, .int .i64 x.n], .agg #[.int .i64 y.p, .int .i64 y.b, .int .i64 y.n]] w fun e w' => e = .returned (.bool (decide (x.p < y.p))) ∧ Below w.heap.size w w' := by
  obtain ⟨x0, x1, x2⟩ := x
  obtain ⟨y0, y1, y2⟩ := y
  dsimp only
  have hx := ex_new w x0 x1 x2
  have hb1 := below_lit w (.cells #[.int .i64 x0, .int .i64 x1, .int .i64 x2] 58)
  have hy := ex_new (w.alloc (.cells #[.int .i64 x0, .int .i64 x1, .int .i64 x2] 58)) y0 y1 y2
  have hb2 := below_lit (w.alloc (.cells #[.int .i64 x0, .int .i64 x1, .int .i64 x2] 58)) (.cells #[.int .i64 y0, .int .i64 y1, .int .i64 y2] 58)
  obtain ⟨m0, m1, m2⟩ := hx.below (by simp) hb2
  obtain ⟨n0, n1, n2⟩ := hy
  have hb := hb1.trans (hb2.mono hb1.size)
  go_enter Try.func38, Try.ntmps38
  go_wp2
  go_ret
  exact ⟨rfl, hb⟩
end Go.Proofs.Ytkbkanmmpdeokaa
