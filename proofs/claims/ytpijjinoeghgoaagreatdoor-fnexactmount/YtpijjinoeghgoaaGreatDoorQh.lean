/- Journals: what Mount answers. Pure; a row of texts behind a row of texts. Journals, impl: ReadTxn. Journals, impl: the home blocks, readJournal. -/
import Derived.Test.YtpijjinoeghgoaaGreatDoorRows
import Derived.Test.YtpijjinoeghgoaaGreatDoorQd
import Derived.Test.YtpijjinoeghgoaaGreatDoorQb
import Derived.Test.YtpijjinoeghgoaaGreatDoorQa
import Derived.Test.YtpijjinoeghgoaaGreatDoorNa
import Derived.Test.YtpijjinoeghgoaaGreatDoorQg
import Derived.Test.YtpijjinoeghgoaaGreatDoorQf
import Derived.Laws.AppendOwnNone
import Derived.Defers
import Derived.Recover
namespace Go.Proofs.YtpijjinoeghgoaaGreatDoor

section
open Go.RowKit

/-- the journal's transaction -/
def jourN (s : ByteArray) : Option Tx := if s.size = 0 then some ⟨0, []⟩ else readT s
/-- the blocks with the writes done -/
def homeN (l : List Wr) (b : List ByteArray) : List ByteArray := doneN (fun _ => true) 0 l b
theorem homeN_len (l : List Wr) (b : List ByteArray) : (homeN l b).length = b.length := doneN_len _ _ _ _
theorem homeN_zero (l : List Wr) (b : List ByteArray) : homeN (l.take 0) b = b := rfl
theorem homeN_step (l : List Wr) (b : List ByteArray) (k : Nat) (h : k < l.length) : homeN (l.take (k + 1)) b = (homeN (l.take k) b).set l[k]!.block.toNat l[k]!.text := by
  unfold homeN; rw [doneN_step _ l b k h]; rfl
theorem homeN_all (l : List Wr) (b : List ByteArray) : homeN (l.take l.length) b = homeN l b := by rw [List.take_length]
noncomputable def mountN (L : List ByteArray) : Option (Vo × Tx) := if L.length = 18 then (jourN L[17]!).bind fun t => (readN (homeN t.outs (L.take 17))).bind fun v => some (v, t) else none
/-- the writes that the journal tells -/
theorem jour_ok {s : ByteArray} {t : Tx} (h : jourN s = some t) : t.outs.length ≤ 17 ∧ ∀ x ∈ t.outs, 0 ≤ x.block ∧ x.block ≤ 16 ∧ x.text.size ≤ 400 := by
  unfold jourN at h
  split at h
  · cases h; exact ⟨by simp, fun x hx => by cases hx⟩
  · obtain ⟨h1, h2, -⟩ := readT_is h
    obtain ⟨-, h3, h4⟩ := txnB_parts (showN_back h1 h2).1
    exact ⟨h3.2, fun x hx => ris_at _ _ h4 x hx⟩
theorem home_short : ∀ (l : List Wr) (b : List ByteArray) (m : Nat), 400 ≤ m → (∀ x ∈ l, x.text.size ≤ 400) → (∀ t ∈ b, t.size ≤ m) → ∀ t ∈ homeN l b, t.size ≤ m := by
  intro l
  unfold homeN
  generalize 0 = i
  induction l generalizing i with
  | nil => intro b m _ _ hb; exact hb
  | cons x l ih =>
    intro b m hm hl hb
    rw [doneN]
    refine ih (i + 1) _ m hm (fun y hy => hl y (by simp [hy])) ?_
    intro t ht
    rcases List.mem_or_eq_of_mem_set ht with h | h
    · exact hb t h
    · rw [h]; have := hl x (by simp); omega

/-- 'append(out, x...)', out a row of texts of the call's own, x any row of texts -/
theorem append_txts (w : World) {ops : Array Oper} {rest : List Oper} {o : Oper} {a : Act} {Q : Exit → Act → World → Prop} (hgd : o.guard = none) (s x : Operand)
    (ho : o.op = .call { callee := .builtin .append, args := #[s, x], argTypes := #[22, 22] }) (base : Nat)
    (v u : Value) (l m : List ByteArray) (hl : l.length + m.length ≤ 1099511627776) (hown : TxtRow w base v l) (hu : TxtsAt w u m) (hs : a.eval s = v) (hx : a.eval x = u)
    (hbase : base ≤ w.heap.size)
    (h : ∀ v' w', TxtRow w' base v' (l ++ m) → Below base w w' → wpList Tryz.prog ops Q rest (a.put o.dst v') w') :
    wpList Tryz.prog ops Q (o :: rest) a w := by
  obtain ⟨i0, hi, hz0, hz1, hz2⟩ := info_parts Tryz.infoTxt
  obtain ⟨ad, cap, rfl, hn, hc⟩ := hu
  cases ad with
  | none =>
    have hc0 := hn rfl
    have hm : m = [] := by
      cases m with
      | nil => rfl
      | cons e m => obtain ⟨b, off, h1, _⟩ := hc 0 (by simp); cases h1
    subst hm hc0
    refine wpList_append_own_none hgd s x 22 ho base 9 i0 1 Tryz.underlying22 hi v l.length (strsV l) hs hown hx ?_
    refine h v w (by rw [List.append_nil]; exact hown) (Below.refl _ _)
  | some ad =>
    have hcl : ∀ j y, (strsV m)[j]? = some y → w.cell? (ad.add j) = some y := by
      intro j y hy
      have hj : j < m.length := by
        have := (List.getElem?_eq_some_iff.1 hy).1
        rwa [strsV_length] at this
      obtain ⟨b1, off1, e, _, hcj⟩ := hc j hj
      cases e
      rw [Addr.add_lit, hcj, ← hy, strsV_get m j hj]
    refine wpList_append_own _ hgd s x 22 ho base 9 i0 _ 1 16 Tryz.underlying22 hi hz0 hz1 hz2 rfl (by decide) v l.length (strsV l) hs hown ad m.length cap (strsV m) hx (by rw [strsV_length]; omega) hcl (fun u hu => by
      simp only [strsV, List.mem_map] at hu
      obtain ⟨z, -, rfl⟩ := hu
      rfl) (by unfold maxLen; omega) (by omega) hbase ?_
    intro v' w' hown' hgrow _
    refine h v' w' ?_ ?_
    · unfold TxtRow
      rw [strsV_append, List.length_append]
      exact hown'
    · refine (Below.refl base w).grown hgrow hbase ?_
      intro k hk
      exact (World.ownsRow.lt hown k hk).1
theorem lit_txts (w : World) : TxtRow (w.alloc (.cells #[] 9)) w.heap.size (.slice (some ⟨w.heap.size, 0, none⟩) 0 0) [] :=
  World.ownsRow_lit (base := w.heap.size) (e := 9) (size := 1) w #[] 0 (Nat.le_refl _) (by unfold maxLen; omega) rfl
/-- the first n of a row of texts, as a slice of it -/
theorem TxtsAt.take {w : World} {a : Option Addr} {n cap : Nat} {l : List ByteArray} (h : TxtsAt w (.slice a n cap) l) (m : Nat) (hm : m ≤ n) : TxtsAt w (.slice a m cap) (l.take m) := by
  obtain ⟨a', cap', e, hn, hc⟩ := h
  cases e
  have hl : (l.take m).length = m := by rw [List.length_take]; omega
  refine ⟨a, cap, by rw [hl], hn, fun t ht => ?_⟩
  rw [hl] at ht
  obtain ⟨b, off, h1, h2, h3⟩ := hc t (by omega)
  refine ⟨b, off, h1, h2, ?_⟩
  rw [getElem!_pos _ t (by rw [hl]; exact ht), List.getElem_take, ← getElem!_pos l t (by omega)]
  exact h3
end

section
open Go.RowKit Go.Sort

set_option maxRecDepth 100000 in
theorem catchT_panics (p q : Nat) (T : TypeId) (x : Value) (older : List PanicEntry) (a0 a1 f : Value) (w : World) (hp : w.heap[p]? = some (.cells #[a0, a1] 38)) (hq : w.heap[q]? = some (.cells #[f] 4)) (hne : p ≠ q) :
    CallsD Tryz.prog 52 #[.pointer (some ⟨p, 0, none⟩), .pointer (some ⟨q, 0, none⟩)] (.panicking ({ v := .iface T x, recovered := false } :: older)) w fun e u' w' =>
      e = .returned (.tuple #[]) ∧ u' = .panicking ({ v := .iface T x, recovered := true } :: older) ∧ w' = ((w.setCell ⟨p, 0, none⟩ (.int .i64 0)).setCell ⟨p, 1, none⟩ (.slice none 0 0)).setCell ⟨q, 0, none⟩ (.bool false) := by
  have c0 := Joins.cell_of_block hp 0
  have c1 := Joins.cell_of_block hp 1
  have f0 := Joins.unfrozen_of_block hp 0
  have f1 := Joins.unfrozen_of_block hp 1
  have d0 := Joins.cell_of_block hq 0
  have g0 := Joins.unfrozen_of_block hq 0
  dsimp at c0 c1 d0
  have d1 : (w.setCell ⟨p, 0, none⟩ (.int .i64 0)).cell? ⟨q, 0, none⟩ = some f := (World.cell?_setCell_far _ _ _ _ hne).trans d0
  refine callsD_of_wpS Tryz.func52 rfl fun c₀ cs hu => ?_
  apply wpS_seq
  apply wpS_region
  simp [wpOpsS, go_sem, recoverD, hu, Tryz.ntmps52, Exit.thenS]
  refine wpS_cond (t := true) (by simp [Act.eval, Array.replicate]) ?_
  simp only [if_true]
  apply wpS_region
  simp [wpOpsS, go_sem, c0, c1, f0, f1, d1, g0, bodyPostS, results, Tryz.results52]

set_option maxRecDepth 100000 in
theorem catchT_idle (p q : Nat) (w : World) :
    CallsD Tryz.prog 52 #[.pointer (some ⟨p, 0, none⟩), .pointer (some ⟨q, 0, none⟩)] .returning w fun e u' w' => e = .returned (.tuple #[]) ∧ u' = .returning ∧ w' = w := by
  refine callsD_of_wpS Tryz.func52 rfl fun c₀ cs hu => ?_
  apply wpS_seq
  apply wpS_region
  simp [wpOpsS, go_sem, recoverD, hu, Tryz.ntmps52, Exit.thenS]
  refine wpS_cond (t := false) (by simp [Act.eval, Array.replicate]) ?_
  simp only [Bool.false_eq_true, if_false]
  refine wpS_of_wp (wp_skip ?_)
  cases c₀
  simp_all [bodyPostS, results, Tryz.results52]

theorem results_tb {fn : Func} {p q : Tmp} (h : fn.results = #[.cell p 38, .cell q 4]) (tmps : Array Value) (w : World) (g g2 : Nat) (cs : Array Value) (f : Bool) (hc : cs.size = 2)
    (hp : tmps.getD p undef = .pointer (some ⟨g, 0, none⟩)) (hq : tmps.getD q undef = .pointer (some ⟨g2, 0, none⟩)) (hg : w.heap[g]? = some (.cells cs 38 (0, 0))) (hg2 : w.heap[g2]? = some (.cells #[.bool f] 4 (0, 0))) :
    (results fn tmps).run Tryz.prog w = .ok (.tuple #[.agg cs, .bool f]) w := by
  have hi : (Tryz.prog.info? 38).map (·.size) = some cs.size := by rw [hc]; kernel_rfl
  have hr := run_loadVar_row (P := Tryz.prog) w g 38 38 cs (0, 0) _ hg Tryz.underlying38 rfl hi
  have hp' : tmps[p]?.getD undef = .pointer (some ⟨g, 0, none⟩) := by simpa using hp
  have hq' : tmps[q]?.getD undef = .pointer (some ⟨g2, 0, none⟩) := by simpa using hq
  have hb : w.cell? ⟨g2, 0, none⟩ = some (.bool f) := Joins.cell_of_block hg2 0
  have hb2 : (loadVar 4 ⟨g2, 0, none⟩).run Tryz.prog w = .ok (.bool f) w := by simp [go_sem, hb]
  simp [results, h, hp', hq', asAddr, hr, hb2]
/-- the world once the answer is laid down -/
def finT (w : World) (p : Nat) (x0 x1 : Value) (f : Bool) : World := ((w.setCell ⟨p, 0, none⟩ x0).setCell ⟨p, 1, none⟩ x1).setCell ⟨p + 1, 0, none⟩ (.bool f)
theorem finT_facts {w wr : World} {p : Nat} {a0 a1 b0 : Value} (x0 x1 : Value) (f : Bool) (hp : wr.heap[p]? = some (.cells #[a0, a1] 38 (0, 0))) (hq : wr.heap[p + 1]? = some (.cells #[b0] 4 (0, 0))) (hb : Below p w wr) :
    (finT wr p x0 x1 f).heap[p]? = some (.cells #[x0, x1] 38 (0, 0)) ∧ (finT wr p x0 x1 f).heap[p + 1]? = some (.cells #[.bool f] 4 (0, 0)) ∧ Below p w (finT wr p x0 x1 f) := by
  have hle : p ≤ p := Nat.le_refl _
  refine ⟨?_, ?_, ((hb.setCell hle _).setCell hle _).setCell (by show p ≤ p + 1; omega) _⟩
  · unfold finT
    rw [Below.heap_setCell _ _ _ p (by show p ≠ p + 1; omega)]
    exact put2d x0 x1 hp
  · unfold finT
    refine Joins.block_setCell (i := 0) (cs := #[b0]) ?_ (.bool f)
    rw [Below.heap_setCell _ _ _ (p + 1) (by show p + 1 ≠ p; omega), Below.heap_setCell _ _ _ (p + 1) (by show p + 1 ≠ p; omega)]
    exact hq
theorem finT_row {wr : World} {p q : Nat} {u : Value} {l : List Wr} (h : WrRow wr q u l) (hq : p + 1 < q) (x0 x1 : Value) (f : Bool) : WrRow (finT wr p x0 x1 f) q u l := own_low (own_low (own_low h (by omega) _ _) (by omega) _ _) (by omega) _ _

set_option maxRecDepth 100000 in
set_option maxHeartbeats 2000000 in
theorem iReadTxn (s : ByteArray) (T : TypeId) (x : Value) (w : World) (hC : CrcTab w) (hE : ErrV w T x) (hl : s.size ≤ 1048576) :
    Calls Tryz.prog 33 #[.string s] w fun e w' => SaysR (readT s) w e w' := by
  have B0 : Below w.heap.size w ((w.alloc (.cells #[.int .i64 0, .slice none 0 0] 38)).alloc (.cells #[.bool false] 4)) := (below_lit w _).alloc (by simp) _
  have hp0 := (MapKept.heap_alloc w (.cells #[.int .i64 0, .slice none 0 0] 38)).1
  have hq0 := (MapKept.heap_alloc (w.alloc (.cells #[.int .i64 0, .slice none 0 0] 38)) (.cells #[.bool false] 4)).1
  have S1 : (w.alloc (.cells #[.int .i64 0, .slice none 0 0] 38)).heap.size = w.heap.size + 1 := by simp
  have B1 := below_lit (w.alloc (.cells #[.int .i64 0, .slice none 0 0] 38)) (.cells #[.bool false] 4)
  rw [S1] at hq0 B1
  obtain ⟨w0, HW0⟩ : ∃ w0, Hid (w0 = (w.alloc (.cells #[.int .i64 0, .slice none 0 0] 38)).alloc (.cells #[.bool false] 4)) := ⟨_, rfl⟩
  have hf : (w.alloc (.cells #[.int .i64 0, .slice none 0 0] 38)).alloc (.cells #[.bool false] 4) = w0 := HW0.out.symm
  rw [hf] at B0 hq0 B1
  have hp0 := (B1.block _ (by omega)).trans hp0
  have S0 : w0.heap.size = w.heap.size + 2 := by rw [HW0.out]; simp
  have HFIT := fit_one s w0
  have hmf : ∀ (fn : Fn) (first cap : Array Value) (w : World), (Instr.makeFunc fn first cap).run Tryz.prog w = .ok (.func fn first cap) w := fun _ _ _ _ => rfl
  have HN : Hid (∀ w', readT s = none → Below w.heap.size w w' → SaysR (readT s) w (.returned (.tuple #[.agg #[.int .i64 0, .slice none 0 0], .bool false])) w') := fun w' h1 h2 => .inr ⟨h1, rfl, h2⟩
  have HY : Hid (∀ t u w', readT s = some t → WrRow w' w.heap.size u t.outs → Below w.heap.size w w' → SaysR (readT s) w (.returned (.tuple #[.agg #[.int .i64 t.seq, u], .bool true])) w') := fun t u w' h1 h3 h4 => .inl ⟨t, u, h1, rfl, h3, h4⟩
  by_cases hbig : 4000 < s.size
  · have hnone : Hid (readT s = none) := by show _ = _; unfold readT; rw [if_pos hbig]
    rw [decide_eq_true hbig] at HFIT
    generalize readT s = o at *
    have c0 := Joins.cell_of_block hp0 0
    have c1 := Joins.cell_of_block hp0 1
    have f0 := fun i => Joins.unfrozen_of_block hp0 i
    have d0 := Joins.cell_of_block hq0 0
    have d1 := fun i => Joins.unfrozen_of_block hq0 i
    dsimp at c0 c1 d0
    have hne : ¬ w.heap.size = w.heap.size + 1 := by omega
    go_enter_defers Tryz.func33, Tryz.ntmps33
    go_wp2_with (go_at_call 51; refine HFIT.mono ?_; rintro e w' ⟨rfl, rfl⟩)
    obtain ⟨k1, k2, k3⟩ := finT_facts (.int .i64 0) (.slice none 0 0) false hp0 hq0 B0
    change bodyPostD _ _ _ _ _ (finT w0 w.heap.size (.int .i64 0) (.slice none 0 0) false)
    exact ⟨_, results_tb Tryz.results33 _ _ w.heap.size (w.heap.size + 1) _ false rfl rfl rfl k1 k2, HN.out _ hnone.out k3⟩
  · rw [decide_eq_false hbig] at HFIT
    have HRV := readTxn_any s T x w0 (hE.below B0) hl
    have HSW : Hid (∀ t u w', t.outs.length ≤ 1048576 → WrsAt w' u t.outs → Below w.heap.size w w' → Calls Tryz.prog 54 #[.agg #[.int .i64 t.seq, u]] w' fun e w'' => e = .returned (.string (showN t)) ∧ Below w'.heap.size w' w'') := fun t u w' hs h b => iShowTxn _ t w' (by omega) (hC.below b) ⟨u, rfl, h⟩
    have HNO : Hid (∀ t, txnRd s.data.toList = some t → showN t ≠ s → readT s = none) := fun t h h2 => by unfold readT; rw [if_neg hbig, h]; simp only [Option.bind_some]; rw [if_neg h2]
    have HN0 : Hid (txnRd s.data.toList = none → readT s = none) := fun h => by unfold readT; rw [if_neg hbig, h]; rfl
    have HYE : Hid (∀ t, txnRd s.data.toList = some t → showN t = s → readT s = some t) := fun t h h2 => by unfold readT; rw [if_neg hbig, h]; simp only [Option.bind_some]; rw [if_pos h2]
    clear hC hE hl
    generalize readT s = o at *
    generalize txnRd s.data.toList = rd at *
    have c0 := Joins.cell_of_block hp0 0
    dsimp at c0
    go_enter_defers Tryz.func33, Tryz.ntmps33
    go_wp2_with (go_at_call 51; refine HFIT.mono ?_; rintro e w' ⟨rfl, rfl⟩)
    refine HRV.mono ?_
    rintro e w1 hs
    rcases hs with ⟨t, u, ht, rfl, hrow, hol, b1⟩ | ⟨ht, rfl, b1⟩
    · obtain ⟨ua, uc, hu, -, -⟩ := hrow.at
      generalize hnn : t.outs.length = n at hu
      subst hu
      have B1 := B0.trans (b1.mono B0.size)
      have hs1 := b1.size
      have hp1 := (b1.block _ (by omega)).trans hp0
      have hq1 := (b1.block _ (by omega)).trans hq0
      have BX := below_lit w1 (.cells #[.int .i64 t.seq, .slice ua n uc] 38)
      have SX : (w1.alloc (.cells #[.int .i64 t.seq, .slice ua n uc] 38)).heap.size = w1.heap.size + 1 := by simp
      have HBX := (MapKept.heap_alloc w1 (.cells #[.int .i64 t.seq, .slice ua n uc] 38)).1
      have B2 := B1.trans (BX.mono B1.size)
      have hSW := HSW.out t (.slice ua n uc) _ hol (hrow.below BX).at B2
      rw [SX] at hSW
      have hNo : Hid (showN t ≠ s → o = none) := HNO.out t ht
      have hYe : Hid (showN t = s → o = some t) := HYE.out t ht
      have HYV := HY.out t (.slice ua n uc)
      generalize showN t = st at *
      clear HSW HNO HYE HY HN0
      generalize t.seq = sq at *
      go_wp2_with fail
      refine hSW.mono ?_
      rintro e w4 ⟨rfl, b4⟩
      rw [← SX] at b4
      have BX4 := BX.trans (b4.mono BX.size)
      have B4 := B1.trans (BX4.mono B1.size)
      have hs4 := BX4.size
      have hp4 := (BX4.block _ (by omega)).trans hp1
      have hq4 := (BX4.block _ (by omega)).trans hq1
      have hx4 := (b4.block _ (by omega)).trans HBX
      have y0 := Joins.cell_of_block hx4 0
      have y1 := Joins.cell_of_block hx4 1
      have row4 := hrow.below BX4
      have c0 := Joins.cell_of_block hp4 0
      have c1 := Joins.cell_of_block hp4 1
      have f0 := fun i => Joins.unfrozen_of_block hp4 i
      have d0 := Joins.cell_of_block hq4 0
      have d1 := fun i => Joins.unfrozen_of_block hq4 i
      dsimp at c0 c1 d0 y0 y1
      have hne : ¬ w.heap.size = w.heap.size + 1 := by omega
      by_cases he : st = s
      · have hbe : (st.toList == s.toList) = true := by simp [he]
        have hsome := hYe.out he
        obtain ⟨k1, k2, k3⟩ := finT_facts (.int .i64 sq) (.slice ua n uc) true hp4 hq4 B4
        have k4 := (finT_row (p := w.heap.size) row4 (by rw [S0]; omega) (.int .i64 sq) (.slice ua n uc) true).mono B0.size
        have HF : Hid (SaysR o w (.returned (.tuple #[.agg #[.int .i64 sq, .slice ua n uc], .bool true])) (finT w4 w.heap.size (.int .i64 sq) (.slice ua n uc) true)) := HYV _ hsome k4 k3
        clear HYV hsome he hNo hYe
        go_wp2
        change bodyPostD _ _ _ _ _ (finT w4 w.heap.size (.int .i64 sq) (.slice ua n uc) true)
        generalize finT w4 w.heap.size (.int .i64 sq) (.slice ua n uc) true = wz at *
        refine leaves_cons (f := 52) (args := #[.pointer (some ⟨w.heap.size, 0, none⟩), .pointer (some ⟨w.heap.size + 1, 0, none⟩)]) (by simp) (by simp [go_sem]) ?_
        refine (catchT_idle w.heap.size (w.heap.size + 1) wz).mono ?_
        rintro e u' w'' ⟨rfl, rfl, rfl⟩
        exact ⟨_, results_tb Tryz.results33 _ _ w.heap.size (w.heap.size + 1) _ true rfl rfl rfl k1 k2, HF.out⟩
      · have hbe : (st.toList == s.toList) = false := by rw [text_beq]; exact decide_eq_false he
        have hnone := hNo.out he
        obtain ⟨k1, k2, k3⟩ := finT_facts (.int .i64 0) (.slice none 0 0) false hp4 hq4 B4
        have HF : Hid (SaysR o w (.returned (.tuple #[.agg #[.int .i64 0, .slice none 0 0], .bool false])) (finT w4 w.heap.size (.int .i64 0) (.slice none 0 0) false)) := HN.out _ hnone k3
        clear HYV hnone he hNo hYe
        go_wp2
        change bodyPostD _ _ _ _ _ (finT w4 w.heap.size (.int .i64 0) (.slice none 0 0) false)
        generalize finT w4 w.heap.size (.int .i64 0) (.slice none 0 0) false = wz at *
        refine leaves_cons (f := 52) (args := #[.pointer (some ⟨w.heap.size, 0, none⟩), .pointer (some ⟨w.heap.size + 1, 0, none⟩)]) (by simp) (by simp [go_sem]) ?_
        refine (catchT_idle w.heap.size (w.heap.size + 1) wz).mono ?_
        rintro e u' w'' ⟨rfl, rfl, rfl⟩
        exact ⟨_, results_tb Tryz.results33 _ _ w.heap.size (w.heap.size + 1) _ false rfl rfl rfl k1 k2, HF.out⟩
    · have hnone : Hid (o = none) := HN0.out ht
      have B1 := B0.trans (b1.mono B0.size)
      have hp1 := (b1.block _ (by omega)).trans hp0
      have hq1 := (b1.block _ (by omega)).trans hq0
      obtain ⟨k1, k2, k3⟩ := finT_facts (.int .i64 0) (.slice none 0 0) false hp1 hq1 B1
      go_wp2
      refine leaves_cons (f := 52) (args := #[.pointer (some ⟨w.heap.size, 0, none⟩), .pointer (some ⟨w.heap.size + 1, 0, none⟩)]) (by simp) (by simp [go_sem]) ?_
      refine (catchT_panics w.heap.size (w.heap.size + 1) T x [] _ _ _ w1 hp1 hq1 (by omega)).mono ?_
      rintro e u' w'' ⟨rfl, rfl, rfl⟩
      change Leaves _ _ _ _ _ _ (finT w1 w.heap.size (.int .i64 0) (.slice none 0 0) false)
      exact ⟨_, results_tb Tryz.results33 _ _ w.heap.size (w.heap.size + 1) _ false rfl rfl rfl k1 k2, HN.out _ hnone.out k3⟩
end

section
open Go.RowKit Go.Sort

set_option maxRecDepth 100000 in
set_option maxHeartbeats 1000000 in
theorem cloneT_any (v : Value) (d : List ByteArray) (w : World) (hv : TxtsAt w v d) (hl : d.length ≤ 1048576) :
    Calls Tryz.prog 19 #[v] w fun e w' => ∃ u, e = .returned u ∧ TxtRow w' w.heap.size u d ∧ Below w.heap.size w w' := by
  have hb := below_lit w (.cells #[] 9)
  have hrow := lit_txts w
  have hv' := hv.below hb
  obtain ⟨a, ca, rfl, hn, hva⟩ := hv
  cases a with
  | none =>
    obtain rfl : ca = 0 := hn rfl
    have hd : d = [] := by
      cases d with
      | nil => rfl
      | cons e d => obtain ⟨b, off, h, _⟩ := hva 0 (by simp); cases h
    subst hd
    clear hva
    have hq : ∀ w, (binOp .eql 22 (.slice none 0 0) (.slice none 0 0)).run Tryz.prog w = .ok (.bool true) w := fun w => Lib.run_eql_slice_nil w _ _ none 0 0 0 0 Tryz.underlying22
    go_enter Tryz.func19, Tryz.ntmps19
    go_wp2
    go_ret
    exact ⟨_, rfl, World.ownsRow_nil _ _ _ _, Below.refl _ _⟩
  | some a =>
    clear hva
    have hq : ∀ w, (binOp .eql 22 (.slice (some a) d.length ca) (.slice none 0 0)).run Tryz.prog w = .ok (.bool false) w := fun w => Lib.run_eql_slice_nil w _ _ (some a) _ _ 0 0 Tryz.underlying22
    go_enter Tryz.func19, Tryz.ntmps19
    go_wp2_with (at_builtin; refine append_txts _ rfl (.tmp 5) (.tmp 6) rfl w.heap.size _ _ [] d (by simp; omega) hrow hv' rfl rfl hb.size ?_; intro v' w3 hown3 hbel3)
    go_ret
    exact ⟨_, rfl, by simpa using hown3, hb.trans hbel3⟩

set_option maxRecDepth 100000 in
set_option maxHeartbeats 1000000 in
theorem homePut_any (g cap base : Nat) (L : List ByteArray) (x : Wr) (w : World) (hL : L.length = 17) (hx : 0 ≤ x.block ∧ x.block ≤ 16) (h : TxtRow w base (.slice (some ⟨g, 0, none⟩) 17 cap) L) :
    Calls Tryz.prog 175 #[.slice (some ⟨g, 0, none⟩) 17 cap, .agg #[.int .i64 x.block, .string x.text]] w fun e w' => e = .returned (.tuple #[]) ∧ TxtRow w' base (.slice (some ⟨g, 0, none⟩) 17 cap) (L.set x.block.toNat x.text) ∧ w.grownBy w' (some g) := by
  obtain ⟨xb, xt⟩ := x
  dsimp only at *
  obtain ⟨k, rfl⟩ : ∃ k : Nat, xb = (k : Int) := ⟨xb.toNat, by omega⟩
  rw [Int.toNat_natCast]
  have B0 := below_lit w (.cells #[.int .i64 (k : Int), .string xt] 42)
  have h0 := h.below B0
  have hgl := (World.ownsRow.lt h g rfl).2
  obtain ⟨W, HW⟩ : ∃ W, Hid (W = w.alloc (.cells #[.int .i64 (k : Int), .string xt] 42)) := ⟨_, rfl⟩
  have hf : w.alloc (.cells #[.int .i64 (k : Int), .string xt] 42) = W := HW.out.symm
  have HB := (MapKept.heap_alloc w (.cells #[.int .i64 (k : Int), .string xt] 42)).1
  rw [hf] at B0 h0 HB
  obtain ⟨c0, c1⟩ := blk2 HB
  unfold TxtRow at h0
  rw [hL] at h0
  have hst := (h0.stored k (.string xt)).1
  rw [strsV_set] at hst
  obtain ⟨uu, hcell⟩ : ∃ u, W.cell? ⟨g, k, none⟩ = some u := ⟨_, (h0.cellAt k (by omega)).trans (List.getElem?_eq_getElem (by have := h0.1; omega))⟩
  have hfr := h0.frozenAt k
  have K1 : Hid (TxtRow (W.setCell ⟨g, k, none⟩ (.string xt)) base (.slice (some ⟨g, 0, none⟩) 17 cap) (L.set k xt)) := by
    show TxtRow _ _ _ _
    unfold TxtRow
    rw [List.length_set, hL]
    exact hst
  have K2 : Hid (w.grownBy (W.setCell ⟨g, k, none⟩ (.string xt)) (some g)) := gbr_trans (gbi_of_below B0) (gbr_set _ _ _ _)
  have hk0 : (0 : Int) ≤ (k : Int) := by omega
  have hk1 : (k : Int) < 17 := by omega
  clear hst h0 h B0 HB
  go_enter Tryz.func175, Tryz.ntmps175
  go_wp2
  refine bodyPost_end (v := .tuple #[]) (by simp [results, Tryz.results175, go_sem]) rfl ?_
  exact ⟨rfl, K1.out, K2.out⟩

theorem meth_home (g cap : Nat) (w : World) : (method 204 45 (.slice (some ⟨g, 0, none⟩) 17 cap) "loop.example/g00773/impl.put").run Tryz.prog w = .ok (175, .slice (some ⟨g, 0, none⟩) 17 cap) w := by kernel_rfl

set_option maxRecDepth 100000 in
set_option maxHeartbeats 2000000 in
theorem putHome_any (g cap base : Nat) (L : List ByteArray) (v : Value) (l : List Wr) (w : World) (hL : L.length = 17) (hl : l.length ≤ 17) (hx : ∀ x ∈ l, 0 ≤ x.block ∧ x.block ≤ 16) (h : TxtRow w base (.slice (some ⟨g, 0, none⟩) 17 cap) L) (B : Nat) (hv : WrRow w B v l) :
    Calls Tryz.prog 20 #[.iface 45 (.slice (some ⟨g, 0, none⟩) 17 cap), v] w fun e w' => e = .returned (.tuple #[]) ∧ TxtRow w' base (.slice (some ⟨g, 0, none⟩) 17 cap) (homeN l L) ∧ w.grownBy w' (some g) := by
  have HAP : Hid (∀ q, v.ownBlock = some q → q ≠ g) := fun q hq e => by
    subst e
    rcases h.2 with ⟨e, -⟩ | ⟨g', cap', cur', e, -, hh', -⟩
    · cases e
    · simp only [Value.slice.injEq, Option.some.injEq, Addr.mk.injEq, and_true] at e
      have e1 := e.1
      subst e1
      rcases hv.2 with ⟨rfl, -⟩ | ⟨g2, cap2, cur2, rfl, -, hh2, -⟩
      · cases hq
      · cases hq
        rw [hh'] at hh2
        simp at hh2
  have HROW : Hid (∀ w', w.grownBy w' (some g) → WrsAt w' v l) := fun w' gb => WrRow.at (own_gb hv gb fun q hq e => HAP.out q hq (Option.some.inj e).symm)
  have HST : Hid (∀ k, k < l.length → (homeN (l.take k) L).set l[k]!.block.toNat l[k]!.text = homeN (l.take (k + 1)) L) := fun k hk => (homeN_step l L k hk).symm
  have HLN : Hid (∀ k, (homeN (l.take k) L).length = 17) := fun k => by rw [homeN_len, hL]
  have HE : Hid (homeN (l.take l.length) L = homeN l L) := homeN_all l L
  have HX : Hid (∀ k, k < l.length → 0 ≤ l[k]!.block ∧ l[k]!.block ≤ 16) := fun k hk => hx _ (by rw [getElem!_pos l k hk]; exact List.getElem_mem hk)
  obtain ⟨a, ca, hvv, -, -⟩ := hv.at
  obtain ⟨n, HN⟩ : ∃ n, Hid (n = l.length) := ⟨_, rfl⟩
  obtain ⟨R, HR⟩ : ∃ R, Hid (R = homeN l L) := ⟨_, rfl⟩
  rw [← HR.out] at HE ⊢
  rw [← HN.out] at hvv hl HST HX HE
  subst hvv
  have HM := meth_home g cap
  clear hv hx
  go_enter Tryz.func20, Tryz.ntmps20
  go_wp2
  go_loopw [8] (fun i wr => ∃ k : Nat, k ≤ n ∧ i = .int .i64 k ∧ TxtRow wr base (.slice (some ⟨g, 0, none⟩) 17 cap) (homeN (l.take k) L) ∧ w.grownBy wr (some g)) (fun i _ => n - (intOf i).toNat)
  case atStart => exact ⟨0, Nat.zero_le _, rfl, by rw [homeN_zero]; exact h, ⟨rfl, rfl, rfl, Nat.le_refl _, fun _ _ _ => rfl⟩⟩
  case round =>
    obtain ⟨k, hk, rfl, hj, hg⟩ := hrel
    by_cases hlt : k < n
    · obtain ⟨a', ca', e', -, ha⟩ := HROW.out wr hg
      rw [← HN.out] at e' ha
      cases e'
      obtain ⟨b1, o1, rfl, hb1, hc1⟩ := ha k hlt
      have c0 := hc1.c0
      have c1 := hc1.c1
      have HS := HST.out k hlt
      have hxs := HX.out k hlt
      generalize l[k]! = y at c0 c1 HS hxs
      have BX := below_lit wr (.cells #[.int .i64 y.block, .string y.text] 42)
      have HP := homePut_any g cap base (homeN (l.take k) L) y (wr.alloc (.cells #[.int .i64 y.block, .string y.text] 42)) (HLN.out k) hxs (hj.below BX)
      rw [HS] at HP
      have hgX := gbr_trans hg (gbi_of_below (r := some g) BX)
      obtain ⟨yb, yt⟩ := y
      dsimp only at *
      have hkn : (k : Int) < (n : Int) := by omega
      have hk0 : (0 : Int) ≤ (k : Int) := by omega
      have HGX : Hid _ := hgX
      clear hc1 ha HS hj BX hgX
      go_wp2_with fail
      refine HP.mono ?_
      rintro e w2 ⟨rfl, hj2, hg2⟩
      go_wp2
      go_roundw
      case rel => exact ⟨k + 1, by omega, by go_num, hj2, gbr_trans HGX.out hg2⟩
      case measure => simp [intOf]; omega
    · obtain rfl : k = n := by omega
      rw [HE.out] at hj
      go_wp2
      refine bodyPost_end (v := .tuple #[]) (by simp [results, Tryz.results20, go_sem]) rfl ?_
      exact ⟨rfl, hj, hg⟩

/-- what readJournal says -/
def SaysJ (o : Option Tx) (w : World) (e : Ending) (w' : World) : Prop :=
  (∃ t u, o = some t ∧ e = .returned (.tuple #[.agg #[.int .i64 t.seq, u], .bool true]) ∧ WrRow w' w.heap.size u t.outs ∧ Below w.heap.size w w') ∨
  (o = none ∧ e = .returned (.tuple #[.agg #[.int .i64 0, .slice none 0 0], .bool false]) ∧ Below w.heap.size w w')

set_option maxRecDepth 100000 in
set_option maxHeartbeats 2000000 in
theorem readJournal_any (s : ByteArray) (T : TypeId) (x : Value) (w : World) (hC : CrcTab w) (hE : ErrV w T x) (hl : s.size ≤ 1048576) :
    Calls Tryz.prog 18 #[.string s] w fun e w' => SaysJ (jourN s) w e w' := by
  have B0 := below_lit w (.cells #[.int .i64 0, .slice none 0 0] 38)
  have hp0 := (MapKept.heap_alloc w (.cells #[.int .i64 0, .slice none 0 0] 38)).1
  obtain ⟨w0, HW0⟩ : ∃ w0, Hid (w0 = w.alloc (.cells #[.int .i64 0, .slice none 0 0] 38)) := ⟨_, rfl⟩
  have hf : w.alloc (.cells #[.int .i64 0, .slice none 0 0] 38) = w0 := HW0.out.symm
  rw [hf] at B0 hp0
  have z0 := lt_of_block hp0
  by_cases h0 : s.size = 0
  · have hj : jourN s = some ⟨0, []⟩ := by unfold jourN; rw [if_pos h0]
    have f1 : s.toList = [] := by rw [ByteArray.toList_eq, ← List.length_eq_zero_iff, size_list]; exact h0
    have f2 : (s.toList == []) = true := by rw [f1]; rfl
    have c0 := Joins.cell_of_block hp0 0
    have c1 := Joins.cell_of_block hp0 1
    have cf := fun i => Joins.unfrozen_of_block hp0 i
    dsimp at c0 c1
    have K1 : Hid (((w0.setCell ⟨w.heap.size, 0, none⟩ (.int .i64 0)).setCell ⟨w.heap.size, 1, none⟩ (.slice none 0 0)).heap[w.heap.size]? = some (.cells #[.int .i64 0, .slice none 0 0] 38 (0, 0))) := put2d _ _ hp0
    have K2 : Hid (SaysJ (jourN s) w (.returned (.tuple #[.agg #[.int .i64 0, .slice none 0 0], .bool true])) ((w0.setCell ⟨w.heap.size, 0, none⟩ (.int .i64 0)).setCell ⟨w.heap.size, 1, none⟩ (.slice none 0 0))) :=
      .inl ⟨⟨0, []⟩, .slice none 0 0, hj, rfl, nil_wrs _ _, (B0.setCell (p := ⟨w.heap.size, 0, none⟩) (Nat.le_refl _) (.int .i64 0)).setCell (p := ⟨w.heap.size, 1, none⟩) (Nat.le_refl _) (.slice none 0 0)⟩
    clear hj h0
    generalize jourN s = o at *
    go_enter Tryz.func18, Tryz.ntmps18
    go_wp2
    exact bodyPost_ret (results_txnb Tryz.results18 _ _ w.heap.size _ _ rfl rfl rfl K1.out) rfl K2.out
  · have hj : jourN s = readT s := by unfold jourN; rw [if_neg h0]
    have f1 : ¬ s.toList = [] := fun h => h0 (by rw [← size_list, ← ByteArray.toList_eq, h]; rfl)
    have f2 : (s.toList == []) = false := by rw [beq_eq_false_iff_ne]; exact f1
    have HR := iReadTxn s T x w0 (hC.below B0) (hE.below B0) hl
    rw [hj]
    generalize readT s = o at *
    go_enter Tryz.func18, Tryz.ntmps18
    go_wp2_with fail
    refine HR.mono ?_
    rintro e w1 h1
    rcases h1 with ⟨t, u, ht, rfl, r1, b1⟩ | ⟨ht, rfl, b1⟩
    · obtain ⟨ua, uc, hu, -, -⟩ := r1.at
      generalize hnn : t.outs.length = n at hu
      subst hu
      have hp1 := (b1.block _ z0).trans hp0
      have B1 := B0.trans (b1.mono B0.size)
      have c0 := Joins.cell_of_block hp1 0
      have c1 := Joins.cell_of_block hp1 1
      have cf := fun i => Joins.unfrozen_of_block hp1 i
      dsimp at c0 c1
      have K1 : Hid (((w1.setCell ⟨w.heap.size, 0, none⟩ (.int .i64 t.seq)).setCell ⟨w.heap.size, 1, none⟩ (.slice ua n uc)).heap[w.heap.size]? = some (.cells #[.int .i64 t.seq, .slice ua n uc] 38 (0, 0))) := put2d _ _ hp1
      have K2 : Hid (SaysJ o w (.returned (.tuple #[.agg #[.int .i64 t.seq, .slice ua n uc], .bool true])) ((w1.setCell ⟨w.heap.size, 0, none⟩ (.int .i64 t.seq)).setCell ⟨w.heap.size, 1, none⟩ (.slice ua n uc))) :=
        .inl ⟨t, .slice ua n uc, ht, rfl, WrRow.mono (own_low (own_low r1 (g := w.heap.size) z0 _ _) (g := w.heap.size) z0 _ _) (by omega), (B1.setCell (p := ⟨w.heap.size, 0, none⟩) (Nat.le_refl _) (.int .i64 t.seq)).setCell (p := ⟨w.heap.size, 1, none⟩) (Nat.le_refl _) (.slice ua n uc)⟩
      clear r1 b1 hp1 B1 hnn ht
      generalize t.seq = sq at *
      go_wp2
      exact bodyPost_ret (results_txnb Tryz.results18 _ _ w.heap.size _ _ rfl rfl rfl K1.out) rfl K2.out
    · have hp1 := (b1.block _ z0).trans hp0
      have B1 := B0.trans (b1.mono B0.size)
      have c0 := Joins.cell_of_block hp1 0
      have c1 := Joins.cell_of_block hp1 1
      have cf := fun i => Joins.unfrozen_of_block hp1 i
      dsimp at c0 c1
      have K1 : Hid (((w1.setCell ⟨w.heap.size, 0, none⟩ (.int .i64 0)).setCell ⟨w.heap.size, 1, none⟩ (.slice none 0 0)).heap[w.heap.size]? = some (.cells #[.int .i64 0, .slice none 0 0] 38 (0, 0))) := put2d _ _ hp1
      have K2 : Hid (SaysJ o w (.returned (.tuple #[.agg #[.int .i64 0, .slice none 0 0], .bool false])) ((w1.setCell ⟨w.heap.size, 0, none⟩ (.int .i64 0)).setCell ⟨w.heap.size, 1, none⟩ (.slice none 0 0))) :=
        .inr ⟨ht, rfl, (B1.setCell (p := ⟨w.heap.size, 0, none⟩) (Nat.le_refl _) (.int .i64 0)).setCell (p := ⟨w.heap.size, 1, none⟩) (Nat.le_refl _) (.slice none 0 0)⟩
      clear b1 hp1 B1 ht
      go_wp2
      exact bodyPost_ret (results_txnb Tryz.results18 _ _ w.heap.size _ _ rfl rfl rfl K1.out) rfl K2.out
end

end Go.Proofs.YtpijjinoeghgoaaGreatDoor
