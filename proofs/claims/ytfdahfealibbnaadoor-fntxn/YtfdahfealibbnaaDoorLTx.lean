/- Journals: what laws.szTxn, toTxn, eqTxn, markTxn, heldTxn do. -/
import Derived.Test.YtfdahfealibbnaaDoorRows
import Derived.Test.YtfdahfealibbnaaDoorSJn
import Derived.Test.YtfdahfealibbnaaDoorLWb
import Derived.Test.YtfdahfealibbnaaDoorBkl
namespace Go.Proofs.YtfdahfealibbnaaDoor
open Go.RowKit Go.Sort

theorem results_txn {fn : Func} {p : Tmp} (h : fn.results = #[.cell p 29]) (tmps : Array Value) (w : World) (g : Nat) (cs : Array Value) (hc : cs.size = 2)
    (hp : tmps.getD p undef = .pointer (some ⟨g, 0, none⟩)) (hg : w.heap[g]? = some (.cells cs 29 (0, 0))) :
    (results fn tmps).run Tryd.prog w = .ok (.agg cs) w := by
  have hi : (Tryd.prog.info? 29).map (·.size) = some cs.size := by rw [hc]; kernel_rfl
  have hr := run_loadVar_row (P := Tryd.prog) w g 29 29 cs (0, 0) _ hg Tryd.underlying29 rfl hi
  have hp' : tmps[p]?.getD undef = .pointer (some ⟨g, 0, none⟩) := by simpa using hp
  simp [results, h, hp', asAddr, hr]
theorem results_txnb {fn : Func} {p q : Tmp} (h : fn.results = #[.cell p 29, .tmp q]) (tmps : Array Value) (w : World) (g : Nat) (cs : Array Value) (f : Value) (hc : cs.size = 2)
    (hp : tmps.getD p undef = .pointer (some ⟨g, 0, none⟩)) (hq : tmps.getD q undef = f) (hg : w.heap[g]? = some (.cells cs 29 (0, 0))) :
    (results fn tmps).run Tryd.prog w = .ok (.tuple #[.agg cs, f]) w := by
  have hi : (Tryd.prog.info? 29).map (·.size) = some cs.size := by rw [hc]; kernel_rfl
  have hr := run_loadVar_row (P := Tryd.prog) w g 29 29 cs (0, 0) _ hg Tryd.underlying29 rfl hi
  have hp' : tmps[p]?.getD undef = .pointer (some ⟨g, 0, none⟩) := by simpa using hp
  have hq' : tmps[q]?.getD undef = f := by simpa using hq
  simp [results, h, hp', hq', asAddr, hr]

theorem hp3_0 (w : World) (a b c : Obj) : (((w.alloc a).alloc b).alloc c).heap[w.heap.size]? = some a := by
  rw [(MapKept.heap_alloc _ _).2 _ (by simp; omega), (MapKept.heap_alloc _ _).2 _ (by simp), (MapKept.heap_alloc _ _).1]
theorem hp3_1 (w : World) (a b c : Obj) : (((w.alloc a).alloc b).alloc c).heap[w.heap.size + 1]? = some b := by
  rw [(MapKept.heap_alloc _ _).2 _ (by simp)]
  have := (MapKept.heap_alloc (w.alloc a) b).1
  rwa [show (w.alloc a).heap.size = w.heap.size + 1 by simp] at this
theorem hp3_2 (w : World) (a b c : Obj) : (((w.alloc a).alloc b).alloc c).heap[w.heap.size + 1 + 1]? = some c := by
  have := (MapKept.heap_alloc ((w.alloc a).alloc b) c).1
  rwa [show ((w.alloc a).alloc b).heap.size = w.heap.size + 1 + 1 by simp] at this
theorem bl3 (w : World) (a b c : Obj) : Below w.heap.size w (((w.alloc a).alloc b).alloc c) := ((below_lit w a).alloc (by simp) b).alloc (by simp; omega) c

set_option maxRecDepth 100000 in
set_option maxHeartbeats 1000000 in
theorem toTxn_any (sq : Int) (v : Value) (l : List Wr) (w : World) (hl : l.length ≤ 1048576) (hv : WrsAt w v l) :
    Calls Tryd.prog 8 #[.agg #[.int .i64 sq, v]] w fun e w' => ∃ s, e = .returned (.agg #[.int .i64 sq, s]) ∧ WrRow w' w.heap.size s l ∧ Below w.heap.size w w' := by
  have B2 := bl3 w (.cells #[.int .i64 sq, v] 24) (.cells #[.int .i64 0, .slice none 0 0] 29) (.cells #[.int .i64 sq, .slice none 0 0] 29)
  have S2 : (((w.alloc (.cells #[.int .i64 sq, v] 24)).alloc (.cells #[.int .i64 0, .slice none 0 0] 29)).alloc (.cells #[.int .i64 sq, .slice none 0 0] 29)).heap.size = w.heap.size + 3 := by simp
  have H1 := hp3_1 w (.cells #[.int .i64 sq, v] 24) (.cells #[.int .i64 0, .slice none 0 0] 29) (.cells #[.int .i64 sq, .slice none 0 0] 29)
  have H2 := hp3_2 w (.cells #[.int .i64 sq, v] 24) (.cells #[.int .i64 0, .slice none 0 0] 29) (.cells #[.int .i64 sq, .slice none 0 0] 29)
  have T2 := toWrS_any v l _ hl (hv.below B2)
  rw [S2] at T2
  obtain ⟨va, vc, hvv, -, -⟩ := hv
  generalize l.length = n0 at hvv
  subst hvv
  go_enter Tryd.func8, Tryd.ntmps8
  go_wp2_with fail
  refine T2.mono ?_
  rintro e w2 ⟨u2, rfl, r2, b2⟩
  obtain ⟨sb, sd, hu2, -, -⟩ := r2.at
  generalize l.length = n2 at hu2
  have k1 := (b2.block (w.heap.size + 1) (by omega)).trans H1
  have k2 := (b2.block (w.heap.size + 1 + 1) (by omega)).trans H2
  have BX := B2.trans (b2.mono (by omega))
  have d0 := cell_blk k2 0
  have d1 := cell_blk k2 1
  have df := fun i => unfrozen_blk k2 i
  have e0 := cell_blk k1 0
  have e1 := cell_blk k1 1
  have ef := fun i => unfrozen_blk k1 i
  dsimp at d0 d1 e0 e1
  subst hu2
  go_wp2
  have hgg := put2d (.int .i64 sq) (.slice sb n2 sd) ((Below.heap_setCell w2 ⟨w.heap.size + 1 + 1, 1, none⟩ (.slice sb n2 sd) (w.heap.size + 1) (by simp)).trans k1)
  refine bodyPost_ret (results_txn Tryd.results8 _ _ (w.heap.size + 1) _ rfl rfl hgg) rfl ⟨(.slice sb n2 sd), rfl, ?_, ?_⟩
  · exact WrRow.mono (own_low (own_low (own_low r2 (g := w.heap.size + 1 + 1) (by omega) _ _) (g := w.heap.size + 1) (by omega) _ _) (g := w.heap.size + 1) (by omega) _ _) (by omega)
  · exact ((BX.setCell (by show w.heap.size ≤ w.heap.size + 1 + 1; omega) _).setCell (by show w.heap.size ≤ w.heap.size + 1; omega) _).setCell (by show w.heap.size ≤ w.heap.size + 1; omega) _

set_option maxRecDepth 100000 in
set_option maxHeartbeats 1000000 in
theorem szTxn_any (sq : Int) (v : Value) (l : List Wr) (w : World) (hv : WrsAt w v l) (hl : l.length ≤ 9223372036854775807) (hs : ∀ t, t < l.length → l[t]!.text.size ≤ 9223372036854775807) :
    Calls Tryd.prog 6 #[.agg #[.int .i64 sq, v], .int .i64 1048576] w fun e w' => ∃ q : Int, e = .returned (.int .i64 q) ∧ (-1 ≤ q ∧ q ≤ 1048576) ∧ Hid (0 ≤ q → l.length ≤ 1048576 ∧ ∀ t, t < l.length → l[t]!.text.size ≤ 1048576) ∧ Below w.heap.size w w' := by
  have B0 := below_lit w (.cells #[.int .i64 sq, v] 24)
  have S0 : (w.alloc (.cells #[.int .i64 sq, v] 24)).heap.size = w.heap.size + 1 := by simp
  have H1 := szWrS_any v l 1048576 _ (by decide) (by decide) (hv.below B0) hl hs
  rw [S0] at H1
  obtain ⟨va, vc, hvv, -, -⟩ := hv
  generalize hnn : l.length = n0 at hvv
  subst hvv
  go_enter Tryd.func6, Tryd.ntmps6
  go_wp2_with fail
  refine H1.mono ?_
  rintro e w1 ⟨q, rfl, ⟨hq0, hq1⟩, HQ, b1⟩
  have B1 := B0.trans (b1.mono (by omega))
  by_cases hq : q < 0
  · go_wp2
    go_ret
    exact ⟨-1, rfl, ⟨by omega, by omega⟩, fun h => (by omega), B1⟩
  · go_wp2
    go_ret
    exact ⟨q, rfl, ⟨by omega, by omega⟩, fun h => by have := HQ.out h; rw [hnn] at this; exact this, B1⟩

set_option maxRecDepth 100000 in
set_option maxHeartbeats 1000000 in
theorem eqTxn_same (sq : Int) (u v : Value) (l : List Wr) (w : World) (hl : l.length ≤ 1048577) (hu : WrsAt w u l) (hv : WrsAt w v l) :
    Calls Tryd.prog 10 #[.agg #[.int .i64 sq, u], .agg #[.int .i64 sq, v]] w fun r w' => r = .returned (.bool true) ∧ Below w.heap.size w w' := by
  have B0 := (below_lit w (.cells #[.int .i64 sq, u] 29)).alloc (by simp) (.cells #[.int .i64 sq, v] 29)
  have S0 : ((w.alloc (.cells #[.int .i64 sq, u] 29)).alloc (.cells #[.int .i64 sq, v] 29)).heap.size = w.heap.size + 1 + 1 := by simp
  have H1 := eqWrS_any u v l l _ (by omega) (hu.below B0) (hv.below B0)
  rw [decide_eq_true rfl, S0] at H1
  obtain ⟨ua, uc, huu, -, -⟩ := hu
  obtain ⟨va, vc, hvv, -, -⟩ := hv
  generalize l.length = n0 at huu hvv
  subst hvv
  subst huu
  go_enter Tryd.func10, Tryd.ntmps10
  go_wp2_with (go_at_call 31; refine H1.mono ?_; rintro e w1 ⟨rfl, b1⟩)
  go_ret
  exact ⟨rfl, B0.trans (b1.mono (by omega))⟩

set_option maxRecDepth 100000 in
set_option maxHeartbeats 1000000 in
theorem markTxn_any (sq : Int) (v : Value) (l : List Wr) (k base : Nat) (w : World) (hv : WrRow w base v l) (hl : l.length ≤ 1048577) (hk0 : 0 < k) (hk1 : k ≤ 100000000) :
    Calls Tryd.prog 13 #[.agg #[.int .i64 sq, v], .int .i64 k] w fun e w' => e = .returned (.int .i64 ((k + 2 * l.length : Nat) : Int)) ∧ WrRow w' base v (marksW k l.length) ∧ w.grownBy w' v.ownBlock := by
  have B0 := below_lit w (.cells #[.int .i64 sq, v] 29)
  have H1 := markWrS_any v l k base _ (hv.below B0) hl hk0 hk1
  have HG : Hid (∀ w', (w.alloc (.cells #[.int .i64 sq, v] 29)).grownBy w' v.ownBlock → w.grownBy w' v.ownBlock) := fun w' g => gbr_trans (gbi_of_below B0) g
  obtain ⟨va, vc, hvv, -, -⟩ := hv.at
  generalize marksW k l.length = mW at *
  generalize (k + 2 * l.length : Nat) = nm at *
  generalize l.length = n0 at hvv
  subst hvv
  go_enter Tryd.func13, Tryd.ntmps13
  go_wp2_with (go_at_call 36; refine H1.mono ?_; rintro e w1 ⟨rfl, r1, g1⟩)
  go_ret
  exact ⟨rfl, r1, HG.out _ g1⟩

set_option maxRecDepth 100000 in
set_option maxHeartbeats 1000000 in
theorem heldTxn_marks (sq : Int) (v : Value) (n k : Nat) (w : World) (hn : n ≤ 1048577) (hk0 : 0 < k) (hk1 : k ≤ 100000000) (hv : WrsAt w v (marksW k n)) :
    Calls Tryd.prog 14 #[.agg #[.int .i64 sq, v], .int .i64 k] w fun e w' => e = .returned (.int .i64 ((k + 2 * n : Nat) : Int)) ∧ Below w.heap.size w w' := by
  have B0 := below_lit w (.cells #[.int .i64 sq, v] 29)
  have S0 : (w.alloc (.cells #[.int .i64 sq, v] 29)).heap.size = w.heap.size + 1 := by simp
  have H1 := heldWrS_marks v n k _ hn hk0 hk1 (hv.below B0)
  rw [S0] at H1
  obtain ⟨va, vc, hvv, -, -⟩ := hv
  generalize (marksW k n).length = n0 at hvv
  subst hvv
  have hnn : ¬ (((k + 2 * n : Nat) : Int) < 0) := by omega
  generalize (k + 2 * n : Nat) = nm at *
  go_enter Tryd.func14, Tryd.ntmps14
  go_wp2_with (go_at_call 37; refine H1.mono ?_; rintro e w1 ⟨rfl, b1⟩)
  go_ret
  exact ⟨rfl, B0.trans (b1.mono (by omega))⟩

end Go.Proofs.YtfdahfealibbnaaDoor
