/- Journals, impl: the cursor's writes, readTxn. -/
import Derived.Test.YtfdahfealibbnaaDoorRows
import Derived.Test.YtfdahfealibbnaaDoorRpJ
import Derived.Test.YtfdahfealibbnaaDoorJnT
import Derived.Test.YtfdahfealibbnaaDoorLTx
import Derived.Test.YtfdahfealibbnaaDoorJdT
import Derived.Deep.RegionLaw
import Derived.Deep.RegionHeld3
namespace Go.Proofs.YtfdahfealibbnaaDoor
open Go.RowKit Go.Sort

/-- a write's value -/
def valW (e : Wr) : Value := .agg #[.int .i64 e.block, .string e.text]
theorem results_one_wr {fn : Func} {p : Tmp} (h : fn.results = #[.cell p 43]) (tmps : Array Value) (w : World) (g : Nat) (cs : Array Value) (hc : cs.size = 2)
    (hp : tmps.getD p undef = .pointer (some ⟨g, 0, none⟩)) (hg : w.heap[g]? = some (.cells cs 43 (0, 0))) :
    (results fn tmps).run Tryd.prog w = .ok (.agg cs) w := by
  have hi : (Tryd.prog.info? 43).map (·.size) = some cs.size := by rw [hc]; kernel_rfl
  have hr := run_loadVar_row (P := Tryd.prog) w g 43 43 cs (0, 0) _ hg Tryd.underlying43 rfl hi
  have hp' : tmps[p]?.getD undef = .pointer (some ⟨g, 0, none⟩) := by simpa using hp
  simp [results, h, hp', asAddr, hr]

set_option maxRecDepth 100000 in
set_option maxHeartbeats 1000000 in
theorem write_any (b : Nat) (l : List UInt8) (T : TypeId) (x : Value) (w : World) (hE : ErrV w T x) (h : CurSt w b l) (hl : l.length ≤ 1048576) :
    Calls Tryd.prog 54 #[.pointer (some ⟨b, 0, none⟩)] w fun e w' => Says (outR l) valW T x b w e w' := by
  have B0 := below_lit w (.cells #[.int .i64 0, .string ⟨#[]⟩] 43)
  have hh0 : (w.alloc (.cells #[.int .i64 0, .string ⟨#[]⟩] 43)).heap[w.heap.size]? = some (.cells #[.int .i64 0, .string ⟨#[]⟩] 43 (0, 0)) := (MapKept.heap_alloc _ _).1
  obtain ⟨w0, HW0⟩ : ∃ w0, Hid (w0 = w.alloc (.cells #[.int .i64 0, .string ⟨#[]⟩] 43)) := ⟨_, rfl⟩
  rw [← HW0.out] at B0 hh0
  have hg0 : w.heap.size < w0.heap.size := lt_of_block hh0
  have hbl : b < w.heap.size := h.lt
  have h0 := h.below B0
  have E0 := hE.below B0
  have hb := h.2
  have g00 : w.grownBy w0 (some b) := gbi_of_below B0
  have HP : Hid (∀ e w', (outR l = none ∧ e = .panicked [{ v := .iface T x, recovered := false }] ∧ w.grownBy w' (some b)) → Says (outR l) valW T x b w e w') := fun e w' h => .inr h
  have HR : Hid (∀ p e w', (outR l = some p ∧ e = .returned (valW p.1) ∧ CurSt w' b p.2 ∧ w.grownBy w' (some b)) → Says (outR l) valW T x b w e w') := fun p e w' h => .inl ⟨p, h⟩
  have HN := number_any b l T x w0 E0 h0 hl
  go_enter Tryd.func54, Tryd.ntmps54
  go_wp2_with fail
  rw [← HW0.out]
  refine HN.mono ?_
  rintro e w1 hs
  rcases hs with ⟨⟨i, r1⟩, hn1, rfl, hc1, hg1⟩ | ⟨hn1, rfl, hg1⟩
  · have hl1 := numR_len hn1
    dsimp only at hc1 hl1 ⊢
    have E1 := E0.grown hg1 hb
    have HP1 := piece_any b r1 T x w1 E1 hc1 (by omega)
    go_wp2_with fail
    refine HP1.mono ?_
    rintro e w2 hs
    rcases hs with ⟨⟨nm, r2⟩, hn2, rfl, hc2, hg2⟩ | ⟨hn2, rfl, hg2⟩
    · dsimp only at hc2 ⊢
      have hent : outR l = some (⟨i, bA nm⟩, r2) := by unfold outR; rw [hn1]; simp only [Option.bind_some]; rw [hn2]; rfl
      have g2 : w0.grownBy w2 (some b) := gbr_trans hg1 hg2
      have HR3 : Hid (∀ w', CurSt w' b r2 → w.grownBy w' (some b) → Says (outR l) valW T x b w (.returned (.agg #[.int .i64 i, .string (bA nm)])) w') := fun w' h1 h2 => HR.out _ _ _ ⟨hent, rfl, h1, h2⟩
      clear hent HR HP HN HP1
      generalize bA nm = nms at *
      have hh4 := (g2.block w.heap.size hg0 (by simp; omega)).trans hh0
      have k0 := cell_blk hh4 0
      have k1 := cell_blk hh4 1
      have f0 := fun i => unfrozen_blk hh4 i
      dsimp at k0 k1
      have g4 : w.grownBy w2 (some b) := gbr_trans g00 g2
      have hne : b ≠ w.heap.size := by omega
      have hpc := put2d (.int .i64 i) (.string nms) hh4
      have c5 := (hc2.set hne 0 (.int .i64 i)).set hne 1 (.string nms)
      have g5 := gb_set_new (gb_set_new g4 (Nat.le_refl _) 0 (.int .i64 i)) (Nat.le_refl _) 1 (.string nms)
      have HF : Hid _ := HR3.out _ c5 g5
      go_wp2
      exact bodyPost_ret (results_one_wr Tryd.results54 _ _ w.heap.size _ rfl rfl hpc) rfl HF.out
    · go_wp2
      exact ⟨rfl, HP.out _ _ ⟨by unfold outR; rw [hn1]; simp only [Option.bind_some]; rw [hn2]; rfl, rfl, gbr_trans (gbr_trans g00 hg1) hg2⟩⟩
  · go_wp2
    exact ⟨rfl, HP.out _ _ ⟨by unfold outR; rw [hn1]; rfl, rfl, gbr_trans g00 hg1⟩⟩

/-- 'append(out, e)' as one step of a statement whose order is open -/
theorem step_append_wr1 {ops : Array Oper} {o : Oper} {a : Act} {w : World} {K : Act → World → Prop} {Q : Exit → Act → World → Prop} {Z : Prop}
    (hg : o.guard = none) (s x : Operand) (hop : o.op = Op.call { callee := Callee.builtin Builtin.append, args := #[s, x], argTypes := #[27, 27] }) (base : Nat)
    (v : Value) (l : List Wr) (e : Wr) (hown : WrRow w base v l) (hs : a.eval s = v)
    (xb : Nat) (cap : Nat) (hx : a.eval x = .slice (some ⟨xb, 0, none⟩) 1 cap) (hxc : w.heap[xb]? = some (.cells #[.int .i64 e.block, .string e.text] 43))
    (hl : l.length + 1 ≤ 1099511627776) (hbase : base ≤ w.heap.size)
    (hK : ∀ v' w', WrRow w' base v' (l ++ [e]) → w.grownBy w' v.ownBlock → K (a.put o.dst v') w') :
    if Region.wanted o (yielded ops a.tmps) = true then Oper.wp Tryd.prog o a w K Q else Z := by
  obtain ⟨i0, hi, hz0, hz1, hz2⟩ := info_parts Tryd.infoW
  have hw : Region.wanted o (yielded ops a.tmps) = true := by simp [Region.wanted, hg]
  rw [if_pos hw]
  have hcl : ∀ j z, (encW e)[j]? = some z → w.cell? ((⟨xb, 0, none⟩ : Addr).add j) = some z := by
    intro j z hz
    rw [Addr.add_lit, Nat.zero_add, Joins.cell_of_block hxc j]
    rw [← hz]; simp [encW]
  obtain ⟨v', w', hrun, r1, r2, _⟩ := run_append_own (P := Tryd.prog) w base 27 o.type 43 i0 _ 2 24 Tryd.underlying27 hi hz0 hz1 hz2 rfl (by decide) v l.length (flatW l) hown ⟨xb, 0, none⟩ 1 cap (encW e) rfl hcl
    (encW_one e) (by unfold maxLen; omega) (by omega) hbase
  unfold Oper.wp
  simp [execOp, hop, resolve, invoke, builtin, hs, hx, hrun, Result.andThen]
  refine hK v' w' ?_ r2
  unfold WrRow
  rw [flatW_append, flatW_one, List.length_append]
  exact r1

/-- on the way of readTxn -/
structure TiSt (w : World) (q : Nat) (sq : Int) (u : Value) (acc : List Wr) (T : TypeId) (x : Value) (r : List UInt8) (wr : World) : Prop where
  cur : CurSt wr (w.heap.size + 1) r
  res : wr.heap[w.heap.size]? = some (.cells #[.int .i64 0, .slice none 0 0] 29)
  box : wr.heap[q]? = some (.cells #[.int .i64 sq, u] 29)
  row : WrRow wr (q + 1) u acc
  err : ErrV wr T x
  bel : Below w.heap.size w wr
  lt : w.heap.size + 1 < q
  err0 : ErrV w T x
theorem TiSt.next {w wr w' : World} {q : Nat} {sq : Int} {u : Value} {acc : List Wr} {T : TypeId} {x : Value} {r r' : List UInt8} (h : TiSt w q sq u acc T x r wr) (hc : CurSt w' (w.heap.size + 1) r') (g : wr.grownBy w' (some (w.heap.size + 1))) : TiSt w q sq u acc T x r' w' :=
  have hlt := h.lt
  ⟨hc, (g.block _ (lt_of_block h.res) (by simp)).trans h.res, (g.block _ (lt_of_block h.box) (by simp; omega)).trans h.box, own_gb h.row g (fun k hk e => by have := (World.ownsRow.lt h.row k hk).1; cases e; omega), h.err.grown g h.cur.2, h.bel.grown g h.bel.size (fun k hk => by cases hk; omega), h.lt, h.err0⟩
theorem TiSt.below {w wr w' : World} {q : Nat} {sq : Int} {u : Value} {acc : List Wr} {T : TypeId} {x : Value} {r : List UInt8} (h : TiSt w q sq u acc T x r wr) (hb : Below wr.heap.size wr w') : TiSt w q sq u acc T x r w' :=
  ⟨h.cur.below hb, (hb.block _ (lt_of_block h.res)).trans h.res, (hb.block _ (lt_of_block h.box)).trans h.box, h.row.below hb, h.err.below hb, h.bel.trans (hb.mono h.bel.size), h.lt, h.err0⟩
/-- a row appended to, and laid into the box -/
theorem TiSt.app {w wr w9 : World} {q : Nat} {sq : Int} {u v' : Value} {acc acc' : List Wr} {T : TypeId} {x : Value} {r : List UInt8} (h : TiSt w q sq u acc T x r wr) (g : wr.grownBy w9 u.ownBlock) (hr : WrRow w9 (q + 1) v' acc') :
    (w9.cell? ⟨q, 1, none⟩ = some u ∧ w9.frozen? ⟨q, 1, none⟩ = false) ∧ TiSt w q sq v' acc' T x r (w9.setCell ⟨q, 1, none⟩ v') := by
  have hlt := h.lt
  have hne : ∀ k, k ≤ q → k < wr.heap.size → w9.heap[k]? = wr.heap[k]? := fun k hk hs => g.block k hs (fun e => by have := (World.ownsRow.lt h.row k e.symm).1; omega)
  have hq := lt_of_block h.box
  have hbox := (hne q (Nat.le_refl _) hq).trans h.box
  have hset : ∀ k, k ≠ q → (w9.setCell ⟨q, 1, none⟩ v').heap[k]? = w9.heap[k]? := fun k hk => Below.heap_setCell _ _ _ k hk
  have hb : Below w.heap.size w (w9.setCell ⟨q, 1, none⟩ v') := (h.bel.grown g h.bel.size (fun k hk => by have := (World.ownsRow.lt h.row k hk).1; omega)).setCell (by show w.heap.size ≤ q; omega) _
  refine ⟨⟨Joins.cell_of_block hbox 1, Joins.unfrozen_of_block hbox 1⟩, ⟨⟨(hset _ (by omega)).trans ((hne _ (by omega) h.cur.lt).trans h.cur.1), h.cur.2⟩, (hset _ (by omega)).trans ((hne _ (by omega) (lt_of_block h.res)).trans h.res), Joins.block_setCell (i := 1) hbox v', own_low hr (by omega) _ _, h.err0.below hb, hb, h.lt, h.err0⟩⟩
/-- what is read of n writes, acc being read -/
theorem outs_none {n i : Nat} {l r : List UInt8} {acc : List Wr} (h : outsR n l = (outsR (n - i) r).map fun q => (acc ++ q.1, q.2)) (hi : i < n) (he : outR r = none) : outsR n l = none := by
  obtain ⟨m, hm⟩ : ∃ m, n - i = m + 1 := ⟨n - i - 1, by omega⟩
  rw [h, hm, outsR, he]; rfl
theorem outs_some {n i : Nat} {l r r' : List UInt8} {acc : List Wr} {e : Wr} (h : outsR n l = (outsR (n - i) r).map fun q => (acc ++ q.1, q.2)) (hi : i < n) (he : outR r = some (e, r')) : outsR n l = (outsR (n - (i + 1)) r').map fun q => ((acc ++ [e]) ++ q.1, q.2) := by
  obtain ⟨m, hm⟩ : ∃ m, n - i = m + 1 := ⟨n - i - 1, by omega⟩
  rw [h, hm, outsR, he, show n - (i + 1) = m by omega]
  simp only [Option.bind_some]
  cases outsR m r' with
  | none => rfl
  | some q => simp
theorem outR_len {l : List UInt8} {p : Wr × List UInt8} (h : outR l = some p) : p.2.length < l.length ∧ p.1.text.size ≤ l.length := by
  unfold outR at h
  cases h1 : numR l with
  | none => rw [h1] at h; cases h
  | some a =>
    rw [h1] at h
    simp only [Option.bind_some] at h
    cases h2 : pieR a.2 with
    | none => rw [h2] at h; cases h
    | some b =>
      rw [h2] at h
      cases h
      have k1 := numR_len h1
      have k2 := pieR_len h2
      refine ⟨by show b.2.length < _; omega, ?_⟩
      show (bA b.1).size ≤ _
      rw [bA_size]; omega
theorem cur_new (w : World) (s : ByteArray) (T : TypeId) (x : Value) (hE : ErrV w T x) : CurSt (w.alloc (.cells #[.string s] 80)) w.heap.size s.data.toList :=
  ⟨by rw [bA_of]; exact (MapKept.heap_alloc w _).1, by have := hE.lt; omega⟩
/-- what readTxn says -/
def SaysX (o : Option Tx) (T : TypeId) (x : Value) (w : World) (e : Ending) (w' : World) : Prop :=
  (∃ t s, o = some t ∧ e = .returned (.agg #[.int .i64 t.seq, s]) ∧ WrRow w' w.heap.size s t.outs ∧ t.outs.length ≤ 1048576 ∧ Below w.heap.size w w') ∨ (o = none ∧ e = .panicked [{ v := .iface T x, recovered := false }] ∧ Below w.heap.size w w')
/-- on the way: what is left -/
structure RdX (w2 : World) (T : TypeId) (x : Value) (b : Nat) (r : List UInt8) (w' : World) : Prop where
  cur : CurSt w' b r
  err : ErrV w' T x
  g : w2.grownBy w' (some b)
theorem RdX.next {w2 w' w'' : World} {T : TypeId} {x : Value} {b : Nat} {r r' : List UInt8} (h : RdX w2 T x b r w') (hc : CurSt w'' b r') (g : w'.grownBy w'' (some b)) : RdX w2 T x b r' w'' :=
  ⟨hc, h.err.grown g h.cur.2, gbr_trans h.g g⟩

/-- what ReadTxn says -/
def SaysR (o : Option Tx) (w : World) (e : Ending) (w' : World) : Prop :=
  (∃ t u, o = some t ∧ e = .returned (.tuple #[.agg #[.int .i64 t.seq, u], .bool true]) ∧ WrRow w' w.heap.size u t.outs ∧ Below w.heap.size w w') ∨
  (o = none ∧ e = .returned (.tuple #[.agg #[.int .i64 0, .slice none 0 0], .bool false]) ∧ Below w.heap.size w w')

end Go.Proofs.YtfdahfealibbnaaDoor
