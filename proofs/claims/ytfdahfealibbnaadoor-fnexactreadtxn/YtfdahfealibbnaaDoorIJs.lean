/- Journals, impl: ReadTxn. -/
import Derived.Test.YtfdahfealibbnaaDoorRows
import Derived.Test.YtfdahfealibbnaaDoorIJr
import Derived.Test.YtfdahfealibbnaaDoorIJp
import Derived.Defers
import Derived.Recover
namespace Go.Proofs.YtfdahfealibbnaaDoor
open Go.RowKit Go.Sort

set_option maxRecDepth 100000 in
theorem catchT_panics (p q : Nat) (T : TypeId) (x : Value) (older : List PanicEntry) (a0 a1 f : Value) (w : World) (hp : w.heap[p]? = some (.cells #[a0, a1] 29)) (hq : w.heap[q]? = some (.cells #[f] 4)) (hne : p ≠ q) :
    CallsD Tryd.prog 34 #[.pointer (some ⟨p, 0, none⟩), .pointer (some ⟨q, 0, none⟩)] (.panicking ({ v := .iface T x, recovered := false } :: older)) w fun e u' w' =>
      e = .returned (.tuple #[]) ∧ u' = .panicking ({ v := .iface T x, recovered := true } :: older) ∧ w' = ((w.setCell ⟨p, 0, none⟩ (.int .i64 0)).setCell ⟨p, 1, none⟩ (.slice none 0 0)).setCell ⟨q, 0, none⟩ (.bool false) := by
  have c0 := Joins.cell_of_block hp 0
  have c1 := Joins.cell_of_block hp 1
  have f0 := Joins.unfrozen_of_block hp 0
  have f1 := Joins.unfrozen_of_block hp 1
  have d0 := Joins.cell_of_block hq 0
  have g0 := Joins.unfrozen_of_block hq 0
  dsimp at c0 c1 d0
  have d1 : (w.setCell ⟨p, 0, none⟩ (.int .i64 0)).cell? ⟨q, 0, none⟩ = some f := (World.cell?_setCell_far _ _ _ _ hne).trans d0
  refine callsD_of_wpS Tryd.func34 rfl fun c₀ cs hu => ?_
  apply wpS_seq
  apply wpS_region
  simp [wpOpsS, go_sem, recoverD, hu, Tryd.ntmps34, Exit.thenS]
  refine wpS_cond (t := true) (by simp [Act.eval, Array.replicate]) ?_
  simp only [if_true]
  apply wpS_region
  simp [wpOpsS, go_sem, c0, c1, f0, f1, d1, g0, bodyPostS, results, Tryd.results34]

set_option maxRecDepth 100000 in
theorem catchT_idle (p q : Nat) (w : World) :
    CallsD Tryd.prog 34 #[.pointer (some ⟨p, 0, none⟩), .pointer (some ⟨q, 0, none⟩)] .returning w fun e u' w' => e = .returned (.tuple #[]) ∧ u' = .returning ∧ w' = w := by
  refine callsD_of_wpS Tryd.func34 rfl fun c₀ cs hu => ?_
  apply wpS_seq
  apply wpS_region
  simp [wpOpsS, go_sem, recoverD, hu, Tryd.ntmps34, Exit.thenS]
  refine wpS_cond (t := false) (by simp [Act.eval, Array.replicate]) ?_
  simp only [Bool.false_eq_true, if_false]
  refine wpS_of_wp (wp_skip ?_)
  cases c₀
  simp_all [bodyPostS, results, Tryd.results34]

theorem results_tb {fn : Func} {p q : Tmp} (h : fn.results = #[.cell p 29, .cell q 4]) (tmps : Array Value) (w : World) (g g2 : Nat) (cs : Array Value) (f : Bool) (hc : cs.size = 2)
    (hp : tmps.getD p undef = .pointer (some ⟨g, 0, none⟩)) (hq : tmps.getD q undef = .pointer (some ⟨g2, 0, none⟩)) (hg : w.heap[g]? = some (.cells cs 29 (0, 0))) (hg2 : w.heap[g2]? = some (.cells #[.bool f] 4 (0, 0))) :
    (results fn tmps).run Tryd.prog w = .ok (.tuple #[.agg cs, .bool f]) w := by
  have hi : (Tryd.prog.info? 29).map (·.size) = some cs.size := by rw [hc]; kernel_rfl
  have hr := run_loadVar_row (P := Tryd.prog) w g 29 29 cs (0, 0) _ hg Tryd.underlying29 rfl hi
  have hp' : tmps[p]?.getD undef = .pointer (some ⟨g, 0, none⟩) := by simpa using hp
  have hq' : tmps[q]?.getD undef = .pointer (some ⟨g2, 0, none⟩) := by simpa using hq
  have hb : w.cell? ⟨g2, 0, none⟩ = some (.bool f) := Joins.cell_of_block hg2 0
  have hb2 : (loadVar 4 ⟨g2, 0, none⟩).run Tryd.prog w = .ok (.bool f) w := by simp [go_sem, hb]
  simp [results, h, hp', hq', asAddr, hr, hb2]
/-- the world once the answer is laid down -/
def finT (w : World) (p : Nat) (x0 x1 : Value) (f : Bool) : World := ((w.setCell ⟨p, 0, none⟩ x0).setCell ⟨p, 1, none⟩ x1).setCell ⟨p + 1, 0, none⟩ (.bool f)
theorem finT_facts {w wr : World} {p : Nat} {a0 a1 b0 : Value} (x0 x1 : Value) (f : Bool) (hp : wr.heap[p]? = some (.cells #[a0, a1] 29 (0, 0))) (hq : wr.heap[p + 1]? = some (.cells #[b0] 4 (0, 0))) (hb : Below p w wr) :
    (finT wr p x0 x1 f).heap[p]? = some (.cells #[x0, x1] 29 (0, 0)) ∧ (finT wr p x0 x1 f).heap[p + 1]? = some (.cells #[.bool f] 4 (0, 0)) ∧ Below p w (finT wr p x0 x1 f) := by
  have hle : p ≤ p := Nat.le_refl _
  refine ⟨?_, ?_, ((hb.setCell hle _).setCell hle _).setCell (by show p ≤ p + 1; omega) _⟩
  · unfold finT
    rw [Below.heap_setCell _ _ _ p (by show p ≠ p + 1; omega)]
    exact put2d x0 x1 hp
  · unfold finT
    refine Joins.block_setCell (i := 0) (cs := #[b0]) ?_ (.bool f)
    rw [Below.heap_setCell _ _ _ (p + 1) (by show p + 1 ≠ p; omega), Below.heap_setCell _ _ _ (p + 1) (by show p + 1 ≠ p; omega)]
    exact hq
theorem finT_row {wr : World} {p q : Nat} {u : Value} {l : List Wr} (h : WrRow wr q u l) (hq : p + 1 < q) (x0 x1 : Value) (f : Bool) : WrRow (finT wr p x0 x1 f) q u l := own_low (own_low (own_low h (by omega) _ _) (by omega) _ _) (by omega) _ _

set_option maxRecDepth 100000 in
set_option maxHeartbeats 2000000 in
theorem iReadTxn (s : ByteArray) (T : TypeId) (x : Value) (w : World) (hC : CrcTab w) (hE : ErrV w T x) (hl : s.size ≤ 1048576) :
    Calls Tryd.prog 12 #[.string s] w fun e w' => SaysR (readT s) w e w' := by
  have B0 : Below w.heap.size w ((w.alloc (.cells #[.int .i64 0, .slice none 0 0] 29)).alloc (.cells #[.bool false] 4)) := (below_lit w _).alloc (by simp) _
  have hp0 := (MapKept.heap_alloc w (.cells #[.int .i64 0, .slice none 0 0] 29)).1
  have hq0 := (MapKept.heap_alloc (w.alloc (.cells #[.int .i64 0, .slice none 0 0] 29)) (.cells #[.bool false] 4)).1
  have S1 : (w.alloc (.cells #[.int .i64 0, .slice none 0 0] 29)).heap.size = w.heap.size + 1 := by simp
  have B1 := below_lit (w.alloc (.cells #[.int .i64 0, .slice none 0 0] 29)) (.cells #[.bool false] 4)
  rw [S1] at hq0 B1
  obtain ⟨w0, HW0⟩ : ∃ w0, Hid (w0 = (w.alloc (.cells #[.int .i64 0, .slice none 0 0] 29)).alloc (.cells #[.bool false] 4)) := ⟨_, rfl⟩
  have hf : (w.alloc (.cells #[.int .i64 0, .slice none 0 0] 29)).alloc (.cells #[.bool false] 4) = w0 := HW0.out.symm
  rw [hf] at B0 hq0 B1
  have hp0 := (B1.block _ (by omega)).trans hp0
  have S0 : w0.heap.size = w.heap.size + 2 := by rw [HW0.out]; simp
  have HFIT := fit_one s w0
  have hmf : ∀ (fn : Fn) (first cap : Array Value) (w : World), (Instr.makeFunc fn first cap).run Tryd.prog w = .ok (.func fn first cap) w := fun _ _ _ _ => rfl
  have HN : Hid (∀ w', readT s = none → Below w.heap.size w w' → SaysR (readT s) w (.returned (.tuple #[.agg #[.int .i64 0, .slice none 0 0], .bool false])) w') := fun w' h1 h2 => .inr ⟨h1, rfl, h2⟩
  have HY : Hid (∀ t u w', readT s = some t → WrRow w' w.heap.size u t.outs → Below w.heap.size w w' → SaysR (readT s) w (.returned (.tuple #[.agg #[.int .i64 t.seq, u], .bool true])) w') := fun t u w' h1 h3 h4 => .inl ⟨t, u, h1, rfl, h3, h4⟩
  by_cases hbig : 4000 < s.size
  · have hnone : Hid (readT s = none) := by show _ = _; unfold readT; rw [if_pos hbig]
    rw [decide_eq_true hbig] at HFIT
    generalize readT s = o at *
    have c0 := Joins.cell_of_block hp0 0
    have c1 := Joins.cell_of_block hp0 1
    have f0 := fun i => Joins.unfrozen_of_block hp0 i
    have d0 := Joins.cell_of_block hq0 0
    have d1 := fun i => Joins.unfrozen_of_block hq0 i
    dsimp at c0 c1 d0
    have hne : ¬ w.heap.size = w.heap.size + 1 := by omega
    go_enter_defers Tryd.func12, Tryd.ntmps12
    go_wp2_with (go_at_call 30; refine HFIT.mono ?_; rintro e w' ⟨rfl, rfl⟩)
    obtain ⟨k1, k2, k3⟩ := finT_facts (.int .i64 0) (.slice none 0 0) false hp0 hq0 B0
    change bodyPostD _ _ _ _ _ (finT w0 w.heap.size (.int .i64 0) (.slice none 0 0) false)
    exact ⟨_, results_tb Tryd.results12 _ _ w.heap.size (w.heap.size + 1) _ false rfl rfl rfl k1 k2, HN.out _ hnone.out k3⟩
  · rw [decide_eq_false hbig] at HFIT
    have HRV := readTxn_any s T x w0 (hE.below B0) hl
    have HSW : Hid (∀ t u w', t.outs.length ≤ 1048576 → WrsAt w' u t.outs → Below w.heap.size w w' → Calls Tryd.prog 9 #[.agg #[.int .i64 t.seq, u]] w' fun e w'' => e = .returned (.string (showN t)) ∧ Below w'.heap.size w' w'') := fun t u w' hs h b => iShowTxn _ t w' (by omega) (hC.below b) ⟨u, rfl, h⟩
    have HNO : Hid (∀ t, txnRd s.data.toList = some t → showN t ≠ s → readT s = none) := fun t h h2 => by unfold readT; rw [if_neg hbig, h]; simp only [Option.bind_some]; rw [if_neg h2]
    have HN0 : Hid (txnRd s.data.toList = none → readT s = none) := fun h => by unfold readT; rw [if_neg hbig, h]; rfl
    have HYE : Hid (∀ t, txnRd s.data.toList = some t → showN t = s → readT s = some t) := fun t h h2 => by unfold readT; rw [if_neg hbig, h]; simp only [Option.bind_some]; rw [if_pos h2]
    clear hC hE hl
    generalize readT s = o at *
    generalize txnRd s.data.toList = rd at *
    have c0 := Joins.cell_of_block hp0 0
    dsimp at c0
    go_enter_defers Tryd.func12, Tryd.ntmps12
    go_wp2_with (go_at_call 30; refine HFIT.mono ?_; rintro e w' ⟨rfl, rfl⟩)
    refine HRV.mono ?_
    rintro e w1 hs
    rcases hs with ⟨t, u, ht, rfl, hrow, hol, b1⟩ | ⟨ht, rfl, b1⟩
    · obtain ⟨ua, uc, hu, -, -⟩ := hrow.at
      generalize hnn : t.outs.length = n at hu
      subst hu
      have B1 := B0.trans (b1.mono B0.size)
      have hs1 := b1.size
      have hp1 := (b1.block _ (by omega)).trans hp0
      have hq1 := (b1.block _ (by omega)).trans hq0
      have BX := below_lit w1 (.cells #[.int .i64 t.seq, .slice ua n uc] 29)
      have SX : (w1.alloc (.cells #[.int .i64 t.seq, .slice ua n uc] 29)).heap.size = w1.heap.size + 1 := by simp
      have HBX := (MapKept.heap_alloc w1 (.cells #[.int .i64 t.seq, .slice ua n uc] 29)).1
      have B2 := B1.trans (BX.mono B1.size)
      have hSW := HSW.out t (.slice ua n uc) _ hol (hrow.below BX).at B2
      rw [SX] at hSW
      have hNo : Hid (showN t ≠ s → o = none) := HNO.out t ht
      have hYe : Hid (showN t = s → o = some t) := HYE.out t ht
      have HYV := HY.out t (.slice ua n uc)
      generalize showN t = st at *
      clear HSW HNO HYE HY HN0
      generalize t.seq = sq at *
      go_wp2_with fail
      refine hSW.mono ?_
      rintro e w4 ⟨rfl, b4⟩
      rw [← SX] at b4
      have BX4 := BX.trans (b4.mono BX.size)
      have B4 := B1.trans (BX4.mono B1.size)
      have hs4 := BX4.size
      have hp4 := (BX4.block _ (by omega)).trans hp1
      have hq4 := (BX4.block _ (by omega)).trans hq1
      have hx4 := (b4.block _ (by omega)).trans HBX
      have y0 := Joins.cell_of_block hx4 0
      have y1 := Joins.cell_of_block hx4 1
      have row4 := hrow.below BX4
      have c0 := Joins.cell_of_block hp4 0
      have c1 := Joins.cell_of_block hp4 1
      have f0 := fun i => Joins.unfrozen_of_block hp4 i
      have d0 := Joins.cell_of_block hq4 0
      have d1 := fun i => Joins.unfrozen_of_block hq4 i
      dsimp at c0 c1 d0 y0 y1
      have hne : ¬ w.heap.size = w.heap.size + 1 := by omega
      by_cases he : st = s
      · have hbe : (st.toList == s.toList) = true := by simp [he]
        have hsome := hYe.out he
        obtain ⟨k1, k2, k3⟩ := finT_facts (.int .i64 sq) (.slice ua n uc) true hp4 hq4 B4
        have k4 := (finT_row (p := w.heap.size) row4 (by rw [S0]; omega) (.int .i64 sq) (.slice ua n uc) true).mono B0.size
        have HF : Hid (SaysR o w (.returned (.tuple #[.agg #[.int .i64 sq, .slice ua n uc], .bool true])) (finT w4 w.heap.size (.int .i64 sq) (.slice ua n uc) true)) := HYV _ hsome k4 k3
        clear HYV hsome he hNo hYe
        go_wp2
        change bodyPostD _ _ _ _ _ (finT w4 w.heap.size (.int .i64 sq) (.slice ua n uc) true)
        generalize finT w4 w.heap.size (.int .i64 sq) (.slice ua n uc) true = wz at *
        refine leaves_cons (f := 34) (args := #[.pointer (some ⟨w.heap.size, 0, none⟩), .pointer (some ⟨w.heap.size + 1, 0, none⟩)]) (by simp) (by simp [go_sem]) ?_
        refine (catchT_idle w.heap.size (w.heap.size + 1) wz).mono ?_
        rintro e u' w'' ⟨rfl, rfl, rfl⟩
        exact ⟨_, results_tb Tryd.results12 _ _ w.heap.size (w.heap.size + 1) _ true rfl rfl rfl k1 k2, HF.out⟩
      · have hbe : (st.toList == s.toList) = false := by rw [text_beq]; exact decide_eq_false he
        have hnone := hNo.out he
        obtain ⟨k1, k2, k3⟩ := finT_facts (.int .i64 0) (.slice none 0 0) false hp4 hq4 B4
        have HF : Hid (SaysR o w (.returned (.tuple #[.agg #[.int .i64 0, .slice none 0 0], .bool false])) (finT w4 w.heap.size (.int .i64 0) (.slice none 0 0) false)) := HN.out _ hnone k3
        clear HYV hnone he hNo hYe
        go_wp2
        change bodyPostD _ _ _ _ _ (finT w4 w.heap.size (.int .i64 0) (.slice none 0 0) false)
        generalize finT w4 w.heap.size (.int .i64 0) (.slice none 0 0) false = wz at *
        refine leaves_cons (f := 34) (args := #[.pointer (some ⟨w.heap.size, 0, none⟩), .pointer (some ⟨w.heap.size + 1, 0, none⟩)]) (by simp) (by simp [go_sem]) ?_
        refine (catchT_idle w.heap.size (w.heap.size + 1) wz).mono ?_
        rintro e u' w'' ⟨rfl, rfl, rfl⟩
        exact ⟨_, results_tb Tryd.results12 _ _ w.heap.size (w.heap.size + 1) _ false rfl rfl rfl k1 k2, HF.out⟩
    · have hnone : Hid (o = none) := HN0.out ht
      have B1 := B0.trans (b1.mono B0.size)
      have hp1 := (b1.block _ (by omega)).trans hp0
      have hq1 := (b1.block _ (by omega)).trans hq0
      obtain ⟨k1, k2, k3⟩ := finT_facts (.int .i64 0) (.slice none 0 0) false hp1 hq1 B1
      go_wp2
      refine leaves_cons (f := 34) (args := #[.pointer (some ⟨w.heap.size, 0, none⟩), .pointer (some ⟨w.heap.size + 1, 0, none⟩)]) (by simp) (by simp [go_sem]) ?_
      refine (catchT_panics w.heap.size (w.heap.size + 1) T x [] _ _ _ w1 hp1 hq1 (by omega)).mono ?_
      rintro e u' w'' ⟨rfl, rfl, rfl⟩
      change Leaves _ _ _ _ _ _ (finT w1 w.heap.size (.int .i64 0) (.slice none 0 0) false)
      exact ⟨_, results_tb Tryd.results12 _ _ w.heap.size (w.heap.size + 1) _ false rfl rfl rfl k1 k2, HN.out _ hnone.out k3⟩

end Go.Proofs.YtfdahfealibbnaaDoor
