/- Journals, impl: the cursor's writes, readTxn. Journals, impl: readTxn. Journals, spec: ReadTxn. -/
import Derived.Test.YtpijjinoeghgoaaGreatDoorRows
import Derived.Test.YtpijjinoeghgoaaGreatDoorPc
import Derived.Test.YtpijjinoeghgoaaGreatDoorQd
import Derived.Test.YtpijjinoeghgoaaGreatDoorQe
import Derived.Test.YtpijjinoeghgoaaGreatDoorQa
import Derived.Deep.RegionLaw
import Derived.Deep.RegionHeld3
namespace Go.Proofs.YtpijjinoeghgoaaGreatDoor

section
open Go.RowKit Go.Sort

/-- a write's value -/
def valW (e : Wr) : Value := .agg #[.int .i64 e.block, .string e.text]
theorem results_one_wr {fn : Func} {p : Tmp} (h : fn.results = #[.cell p 42]) (tmps : Array Value) (w : World) (g : Nat) (cs : Array Value) (hc : cs.size = 2)
    (hp : tmps.getD p undef = .pointer (some ⟨g, 0, none⟩)) (hg : w.heap[g]? = some (.cells cs 42 (0, 0))) :
    (results fn tmps).run Tryz.prog w = .ok (.agg cs) w := by
  have hi : (Tryz.prog.info? 42).map (·.size) = some cs.size := by rw [hc]; kernel_rfl
  have hr := run_loadVar_row (P := Tryz.prog) w g 42 42 cs (0, 0) _ hg Tryz.underlying42 rfl hi
  have hp' : tmps[p]?.getD undef = .pointer (some ⟨g, 0, none⟩) := by simpa using hp
  simp [results, h, hp', asAddr, hr]

set_option maxRecDepth 100000 in
set_option maxHeartbeats 1000000 in
theorem write_any (b : Nat) (l : List UInt8) (T : TypeId) (x : Value) (w : World) (hE : ErrV w T x) (h : CurSt w b l) (hl : l.length ≤ 1048576) :
    Calls Tryz.prog 70 #[.pointer (some ⟨b, 0, none⟩)] w fun e w' => Says (outR l) valW T x b w e w' := by
  have B0 := below_lit w (.cells #[.int .i64 0, .string ⟨#[]⟩] 42)
  have hh0 : (w.alloc (.cells #[.int .i64 0, .string ⟨#[]⟩] 42)).heap[w.heap.size]? = some (.cells #[.int .i64 0, .string ⟨#[]⟩] 42 (0, 0)) := (MapKept.heap_alloc _ _).1
  obtain ⟨w0, HW0⟩ : ∃ w0, Hid (w0 = w.alloc (.cells #[.int .i64 0, .string ⟨#[]⟩] 42)) := ⟨_, rfl⟩
  rw [← HW0.out] at B0 hh0
  have hg0 : w.heap.size < w0.heap.size := lt_of_block hh0
  have hbl : b < w.heap.size := h.lt
  have h0 := h.below B0
  have E0 := hE.below B0
  have hb := h.2
  have g00 : w.grownBy w0 (some b) := gbi_of_below B0
  have HP : Hid (∀ e w', (outR l = none ∧ e = .panicked [{ v := .iface T x, recovered := false }] ∧ w.grownBy w' (some b)) → Says (outR l) valW T x b w e w') := fun e w' h => .inr h
  have HR : Hid (∀ p e w', (outR l = some p ∧ e = .returned (valW p.1) ∧ CurSt w' b p.2 ∧ w.grownBy w' (some b)) → Says (outR l) valW T x b w e w') := fun p e w' h => .inl ⟨p, h⟩
  have HN := number_any b l T x w0 E0 h0 hl
  go_enter Tryz.func70, Tryz.ntmps70
  go_wp2_with fail
  rw [← HW0.out]
  refine HN.mono ?_
  rintro e w1 hs
  rcases hs with ⟨⟨i, r1⟩, hn1, rfl, hc1, hg1⟩ | ⟨hn1, rfl, hg1⟩
  · have hl1 := numR_len hn1
    dsimp only at hc1 hl1 ⊢
    have E1 := E0.grown hg1 hb
    have HP1 := piece_any b r1 T x w1 E1 hc1 (by omega)
    go_wp2_with fail
    refine HP1.mono ?_
    rintro e w2 hs
    rcases hs with ⟨⟨nm, r2⟩, hn2, rfl, hc2, hg2⟩ | ⟨hn2, rfl, hg2⟩
    · dsimp only at hc2 ⊢
      have hent : outR l = some (⟨i, bA nm⟩, r2) := by unfold outR; rw [hn1]; simp only [Option.bind_some]; rw [hn2]; rfl
      have g2 : w0.grownBy w2 (some b) := gbr_trans hg1 hg2
      have HR3 : Hid (∀ w', CurSt w' b r2 → w.grownBy w' (some b) → Says (outR l) valW T x b w (.returned (.agg #[.int .i64 i, .string (bA nm)])) w') := fun w' h1 h2 => HR.out _ _ _ ⟨hent, rfl, h1, h2⟩
      clear hent HR HP HN HP1
      generalize bA nm = nms at *
      have hh4 := (g2.block w.heap.size hg0 (by simp; omega)).trans hh0
      have k0 := cell_blk hh4 0
      have k1 := cell_blk hh4 1
      have f0 := fun i => unfrozen_blk hh4 i
      dsimp at k0 k1
      have g4 : w.grownBy w2 (some b) := gbr_trans g00 g2
      have hne : b ≠ w.heap.size := by omega
      have hpc := put2d (.int .i64 i) (.string nms) hh4
      have c5 := (hc2.set hne 0 (.int .i64 i)).set hne 1 (.string nms)
      have g5 := gb_set_new (gb_set_new g4 (Nat.le_refl _) 0 (.int .i64 i)) (Nat.le_refl _) 1 (.string nms)
      have HF : Hid _ := HR3.out _ c5 g5
      go_wp2
      exact bodyPost_ret (results_one_wr Tryz.results70 _ _ w.heap.size _ rfl rfl hpc) rfl HF.out
    · go_wp2
      exact ⟨rfl, HP.out _ _ ⟨by unfold outR; rw [hn1]; simp only [Option.bind_some]; rw [hn2]; rfl, rfl, gbr_trans (gbr_trans g00 hg1) hg2⟩⟩
  · go_wp2
    exact ⟨rfl, HP.out _ _ ⟨by unfold outR; rw [hn1]; rfl, rfl, gbr_trans g00 hg1⟩⟩

/-- 'append(out, e)' as one step of a statement whose order is open -/
theorem step_append_wr1 {ops : Array Oper} {o : Oper} {a : Act} {w : World} {K : Act → World → Prop} {Q : Exit → Act → World → Prop} {Z : Prop}
    (hg : o.guard = none) (s x : Operand) (hop : o.op = Op.call { callee := Callee.builtin Builtin.append, args := #[s, x], argTypes := #[27, 27] }) (base : Nat)
    (v : Value) (l : List Wr) (e : Wr) (hown : WrRow w base v l) (hs : a.eval s = v)
    (xb : Nat) (cap : Nat) (hx : a.eval x = .slice (some ⟨xb, 0, none⟩) 1 cap) (hxc : w.heap[xb]? = some (.cells #[.int .i64 e.block, .string e.text] 42))
    (hl : l.length + 1 ≤ 1099511627776) (hbase : base ≤ w.heap.size)
    (hK : ∀ v' w', WrRow w' base v' (l ++ [e]) → w.grownBy w' v.ownBlock → K (a.put o.dst v') w') :
    if Region.wanted o (yielded ops a.tmps) = true then Oper.wp Tryz.prog o a w K Q else Z := by
  obtain ⟨i0, hi, hz0, hz1, hz2⟩ := info_parts Tryz.infoW
  have hw : Region.wanted o (yielded ops a.tmps) = true := by simp [Region.wanted, hg]
  rw [if_pos hw]
  have hcl : ∀ j z, (encW e)[j]? = some z → w.cell? ((⟨xb, 0, none⟩ : Addr).add j) = some z := by
    intro j z hz
    rw [Addr.add_lit, Nat.zero_add, Joins.cell_of_block hxc j]
    rw [← hz]; simp [encW]
  obtain ⟨v', w', hrun, r1, r2, _⟩ := run_append_own (P := Tryz.prog) w base 27 o.type 42 i0 _ 2 24 Tryz.underlying27 hi hz0 hz1 hz2 rfl (by decide) v l.length (flatW l) hown ⟨xb, 0, none⟩ 1 cap (encW e) rfl hcl
    (encW_one e) (by unfold maxLen; omega) (by omega) hbase
  unfold Oper.wp
  simp [execOp, hop, resolve, invoke, builtin, hs, hx, hrun, Result.andThen]
  refine hK v' w' ?_ r2
  unfold WrRow
  rw [flatW_append, flatW_one, List.length_append]
  exact r1

/-- on the way of readTxn -/
structure TiSt (w : World) (q : Nat) (sq : Int) (u : Value) (acc : List Wr) (T : TypeId) (x : Value) (r : List UInt8) (wr : World) : Prop where
  cur : CurSt wr (w.heap.size + 1) r
  res : wr.heap[w.heap.size]? = some (.cells #[.int .i64 0, .slice none 0 0] 38)
  box : wr.heap[q]? = some (.cells #[.int .i64 sq, u] 38)
  row : WrRow wr (q + 1) u acc
  err : ErrV wr T x
  bel : Below w.heap.size w wr
  lt : w.heap.size + 1 < q
  err0 : ErrV w T x
theorem TiSt.next {w wr w' : World} {q : Nat} {sq : Int} {u : Value} {acc : List Wr} {T : TypeId} {x : Value} {r r' : List UInt8} (h : TiSt w q sq u acc T x r wr) (hc : CurSt w' (w.heap.size + 1) r') (g : wr.grownBy w' (some (w.heap.size + 1))) : TiSt w q sq u acc T x r' w' :=
  have hlt := h.lt
  ⟨hc, (g.block _ (lt_of_block h.res) (by simp)).trans h.res, (g.block _ (lt_of_block h.box) (by simp; omega)).trans h.box, own_gb h.row g (fun k hk e => by have := (World.ownsRow.lt h.row k hk).1; cases e; omega), h.err.grown g h.cur.2, h.bel.grown g h.bel.size (fun k hk => by cases hk; omega), h.lt, h.err0⟩
theorem TiSt.below {w wr w' : World} {q : Nat} {sq : Int} {u : Value} {acc : List Wr} {T : TypeId} {x : Value} {r : List UInt8} (h : TiSt w q sq u acc T x r wr) (hb : Below wr.heap.size wr w') : TiSt w q sq u acc T x r w' :=
  ⟨h.cur.below hb, (hb.block _ (lt_of_block h.res)).trans h.res, (hb.block _ (lt_of_block h.box)).trans h.box, h.row.below hb, h.err.below hb, h.bel.trans (hb.mono h.bel.size), h.lt, h.err0⟩
/-- a row appended to, and laid into the box -/
theorem TiSt.app {w wr w9 : World} {q : Nat} {sq : Int} {u v' : Value} {acc acc' : List Wr} {T : TypeId} {x : Value} {r : List UInt8} (h : TiSt w q sq u acc T x r wr) (g : wr.grownBy w9 u.ownBlock) (hr : WrRow w9 (q + 1) v' acc') :
    (w9.cell? ⟨q, 1, none⟩ = some u ∧ w9.frozen? ⟨q, 1, none⟩ = false) ∧ TiSt w q sq v' acc' T x r (w9.setCell ⟨q, 1, none⟩ v') := by
  have hlt := h.lt
  have hne : ∀ k, k ≤ q → k < wr.heap.size → w9.heap[k]? = wr.heap[k]? := fun k hk hs => g.block k hs (fun e => by have := (World.ownsRow.lt h.row k e.symm).1; omega)
  have hq := lt_of_block h.box
  have hbox := (hne q (Nat.le_refl _) hq).trans h.box
  have hset : ∀ k, k ≠ q → (w9.setCell ⟨q, 1, none⟩ v').heap[k]? = w9.heap[k]? := fun k hk => Below.heap_setCell _ _ _ k hk
  have hb : Below w.heap.size w (w9.setCell ⟨q, 1, none⟩ v') := (h.bel.grown g h.bel.size (fun k hk => by have := (World.ownsRow.lt h.row k hk).1; omega)).setCell (by show w.heap.size ≤ q; omega) _
  refine ⟨⟨Joins.cell_of_block hbox 1, Joins.unfrozen_of_block hbox 1⟩, ⟨⟨(hset _ (by omega)).trans ((hne _ (by omega) h.cur.lt).trans h.cur.1), h.cur.2⟩, (hset _ (by omega)).trans ((hne _ (by omega) (lt_of_block h.res)).trans h.res), Joins.block_setCell (i := 1) hbox v', own_low hr (by omega) _ _, h.err0.below hb, hb, h.lt, h.err0⟩⟩
/-- what is read of n writes, acc being read -/
theorem outs_none {n i : Nat} {l r : List UInt8} {acc : List Wr} (h : outsR n l = (outsR (n - i) r).map fun q => (acc ++ q.1, q.2)) (hi : i < n) (he : outR r = none) : outsR n l = none := by
  obtain ⟨m, hm⟩ : ∃ m, n - i = m + 1 := ⟨n - i - 1, by omega⟩
  rw [h, hm, outsR, he]; rfl
theorem outs_some {n i : Nat} {l r r' : List UInt8} {acc : List Wr} {e : Wr} (h : outsR n l = (outsR (n - i) r).map fun q => (acc ++ q.1, q.2)) (hi : i < n) (he : outR r = some (e, r')) : outsR n l = (outsR (n - (i + 1)) r').map fun q => ((acc ++ [e]) ++ q.1, q.2) := by
  obtain ⟨m, hm⟩ : ∃ m, n - i = m + 1 := ⟨n - i - 1, by omega⟩
  rw [h, hm, outsR, he, show n - (i + 1) = m by omega]
  simp only [Option.bind_some]
  cases outsR m r' with
  | none => rfl
  | some q => simp
theorem outR_len {l : List UInt8} {p : Wr × List UInt8} (h : outR l = some p) : p.2.length < l.length ∧ p.1.text.size ≤ l.length := by
  unfold outR at h
  cases h1 : numR l with
  | none => rw [h1] at h; cases h
  | some a =>
    rw [h1] at h
    simp only [Option.bind_some] at h
    cases h2 : pieR a.2 with
    | none => rw [h2] at h; cases h
    | some b =>
      rw [h2] at h
      cases h
      have k1 := numR_len h1
      have k2 := pieR_len h2
      refine ⟨by show b.2.length < _; omega, ?_⟩
      show (bA b.1).size ≤ _
      rw [bA_size]; omega
theorem cur_new (w : World) (s : ByteArray) (T : TypeId) (x : Value) (hE : ErrV w T x) : CurSt (w.alloc (.cells #[.string s] 93)) w.heap.size s.data.toList :=
  ⟨by rw [bA_of]; exact (MapKept.heap_alloc w _).1, by have := hE.lt; omega⟩
/-- what readTxn says -/
def SaysX (o : Option Tx) (T : TypeId) (x : Value) (w : World) (e : Ending) (w' : World) : Prop :=
  (∃ t s, o = some t ∧ e = .returned (.agg #[.int .i64 t.seq, s]) ∧ WrRow w' w.heap.size s t.outs ∧ t.outs.length ≤ 1048576 ∧ Below w.heap.size w w') ∨ (o = none ∧ e = .panicked [{ v := .iface T x, recovered := false }] ∧ Below w.heap.size w w')
/-- on the way: what is left -/
structure RdX (w2 : World) (T : TypeId) (x : Value) (b : Nat) (r : List UInt8) (w' : World) : Prop where
  cur : CurSt w' b r
  err : ErrV w' T x
  g : w2.grownBy w' (some b)
theorem RdX.next {w2 w' w'' : World} {T : TypeId} {x : Value} {b : Nat} {r r' : List UInt8} (h : RdX w2 T x b r w') (hc : CurSt w'' b r') (g : w'.grownBy w'' (some b)) : RdX w2 T x b r' w'' :=
  ⟨hc, h.err.grown g h.cur.2, gbr_trans h.g g⟩

/-- what ReadTxn says -/
def SaysR (o : Option Tx) (w : World) (e : Ending) (w' : World) : Prop :=
  (∃ t u, o = some t ∧ e = .returned (.tuple #[.agg #[.int .i64 t.seq, u], .bool true]) ∧ WrRow w' w.heap.size u t.outs ∧ Below w.heap.size w w') ∨
  (o = none ∧ e = .returned (.tuple #[.agg #[.int .i64 0, .slice none 0 0], .bool false]) ∧ Below w.heap.size w w')
end

section
open Go.RowKit Go.Sort

set_option maxRecDepth 100000 in
set_option maxHeartbeats 2000000 in
theorem readTxn_any (s : ByteArray) (T : TypeId) (x : Value) (w : World) (hE : ErrV w T x) (hl : s.size ≤ 1048576) :
    Calls Tryz.prog 53 #[.string s] w fun e w' => SaysX (txnRd s.data.toList) T x w e w' := by
  have B00 := below_lit w (.cells #[.int .i64 0, .slice none 0 0] 38)
  have hres0 := (MapKept.heap_alloc w (.cells #[.int .i64 0, .slice none 0 0] 38)).1
  have S00 : (w.alloc (.cells #[.int .i64 0, .slice none 0 0] 38)).heap.size = w.heap.size + 1 := by simp
  have B01 := below_lit (w.alloc (.cells #[.int .i64 0, .slice none 0 0] 38)) (.cells #[.string s] 93)
  have hc0 := cur_new (w.alloc (.cells #[.int .i64 0, .slice none 0 0] 38)) s T x (hE.below B00)
  rw [S00] at B01 hc0
  obtain ⟨w0, HW0⟩ : ∃ w0, Hid (w0 = (w.alloc (.cells #[.int .i64 0, .slice none 0 0] 38)).alloc (.cells #[.string s] 93)) := ⟨_, rfl⟩
  have hf : (w.alloc (.cells #[.int .i64 0, .slice none 0 0] 38)).alloc (.cells #[.string s] 93) = w0 := HW0.out.symm
  rw [hf] at B01 hc0
  have hres : w0.heap[w.heap.size]? = some (.cells #[.int .i64 0, .slice none 0 0] 38) := (B01.block _ (by omega)).trans hres0
  have B0 : Below w.heap.size w w0 := B00.trans (B01.mono (by omega))
  have S0 : w0.heap.size = w.heap.size + 2 := by rw [HW0.out]; simp
  have hl' : s.data.toList.length ≤ 1048576 := by rw [size_list]; exact hl
  have R0 : RdX w0 T x (w.heap.size + 1) s.data.toList w0 := ⟨hc0, hE.below B0, gb_self _ _⟩
  have HG : Hid (∀ w', w0.grownBy w' (some (w.heap.size + 1)) → Below w.heap.size w w') := fun w' h => B0.grown h B0.size (fun k hk => by cases hk; omega)
  have HP : Hid (∀ e w', (txnRd s.data.toList = none ∧ e = .panicked [{ v := .iface T x, recovered := false }] ∧ w0.grownBy w' (some (w.heap.size + 1))) → SaysX (txnRd s.data.toList) T x w e w') := fun e w' h => .inr ⟨h.1, h.2.1, HG.out w' h.2.2⟩
  have HP2 : Hid (∀ e w', (txnRd s.data.toList = none ∧ e = .panicked [{ v := .iface T x, recovered := false }] ∧ Below w.heap.size w w') → SaysX (txnRd s.data.toList) T x w e w') := fun e w' h => .inr h
  have HR : Hid (∀ t z w', (txnRd s.data.toList = some t ∧ WrRow w' w.heap.size z t.outs ∧ t.outs.length ≤ 1048576 ∧ Below w.heap.size w w') → SaysX (txnRd s.data.toList) T x w (.returned (.agg #[.int .i64 t.seq, z])) w') := fun t z w' h => .inl ⟨t, z, h.1, rfl, h.2⟩
  have HT := take_any (w.heap.size + 1) s.data.toList 4 T x w0 R0.err R0.cur (by decide)
  generalize hL : s.data.toList = l at *
  clear B00 B01 hc0 hres0
  go_enter Tryz.func53, Tryz.ntmps53
  go_wp2_with fail
  refine HT.mono ?_
  rintro e w1 hs
  rcases hs with ⟨⟨u1, l1⟩, hn1, rfl, hc1, hg1⟩ | ⟨hn1, rfl, hg1⟩
  · have hl1 := takR_len hn1
    have R1 := R0.next hc1 hg1
    have HM := mark_any (w.heap.size + 1) l1 116 T x w1 R1.err R1.cur (by dsimp only at hl1; omega)
    clear HT
    dsimp only at hl1 ⊢
    go_wp2_with fail
    refine HM.mono ?_
    rintro e w2 hs
    rcases hs with ⟨⟨u2, l2⟩, hn2, rfl, hc2, hg2⟩ | ⟨hn2, rfl, hg2⟩
    · obtain ⟨r0, hm2, hm3⟩ := Option.map_eq_some_iff.1 hn2
      cases hm3
      have hll2 : l2.length ≤ l1.length := by
        cases l1 with
        | nil => cases hm2
        | cons c r => unfold mrkR at hm2; simp only at hm2; split at hm2 <;> cases hm2; simp
      have R2 := R1.next hc2 hg2
      have HN := number_any (w.heap.size + 1) l2 T x w2 R2.err R2.cur (by omega)
      clear HM
      dsimp only
      go_wp2_with fail
      refine HN.mono ?_
      rintro e w3 hs
      rcases hs with ⟨⟨ya, l3⟩, hn3, rfl, hc3, hg3⟩ | ⟨hn3, rfl, hg3⟩
      · have hl3 := numR_len hn3
        have R3 := R2.next hc3 hg3
        dsimp only at hl3 ⊢
        have htx : txnRd l = (numR l3).bind fun n => (outsR n.1.toNat n.2).bind fun o => some ⟨ya, o.1⟩ := by
          unfold txnRd; rw [hn1]; simp only [Option.bind_some]; rw [hm2]; simp only [Option.bind_some]; rw [hn3]; simp only [Option.bind_some]
        have hw3 := R3.g.size
        have B3 := below_lit w3 (.cells #[.int .i64 ya, .slice none 0 0] 38)
        have ST : TiSt w w3.heap.size ya (.slice none 0 0) [] T x l3 (w3.alloc (.cells #[.int .i64 ya, .slice none 0 0] 38)) :=
          ⟨R3.cur.below B3, (B3.block _ (by omega)).trans ((R3.g.block _ (by omega) (by simp)).trans hres), (MapKept.heap_alloc w3 _).1, nil_wrs _ _, R3.err.below B3, (HG.out w3 R3.g).trans (B3.mono (HG.out w3 R3.g).size), by omega, hE⟩
        have HN := number_any (w.heap.size + 1) l3 T x _ ST.err ST.cur (by omega)
        clear hn1 hn2 hm2 hn3 hc1 hc2 hc3 hg1 hg2 hg3 R0 R1 R2
        go_wp2_with fail
        refine HN.mono ?_
        rintro e w6 hs
        rcases hs with ⟨⟨cn, l6⟩, hn6, rfl, hc6, hg6⟩ | ⟨hn6, rfl, hg6⟩
        · have hl6 := numR_len hn6
          have ST6 := ST.next hc6 hg6
          dsimp only at hl6 ⊢
          obtain ⟨n, rfl⟩ : ∃ n : Nat, cn = (n : Int) := ⟨cn.toNat, by omega⟩
          rw [hn6] at htx
          simp only [Option.bind_some, Int.toNat_natCast] at htx
          have HTX : Hid (txnRd l = (outsR n l6).bind fun o => some ⟨ya, o.1⟩) := htx
          have HST6 : Hid (TiSt w w3.heap.size ya (.slice none 0 0) [] T x l6 w6) := ST6
          have hn63 : (n : Int) ≤ 562949953421311 := hl6.2.2
          have hl6' : l6.length ≤ 1048576 := by omega
          clear htx ST ST6 HN hn6 hc6 hg6 R3 hres
          go_wp2
          go_loopw [12] (fun i wr => ∃ (k : Nat) (acc : List Wr) (u : Value) (r : List UInt8), k ≤ n ∧ i = .int .i64 k ∧ Hid (outsR n l6 = (outsR (n - k) r).map fun q => (acc ++ q.1, q.2)) ∧ acc.length = k ∧ k + r.length ≤ 1048576 ∧ Hid (TiSt w w3.heap.size ya u acc T x r wr)) (fun i _ => n - (intOf i).toNat)
          case atStart => exact ⟨0, [], .slice none 0 0, l6, Nat.zero_le _, rfl, by show _ = _; simp, rfl, by omega, HST6⟩
          case round =>
            obtain ⟨k, acc, u, r, hk, rfl, HEN, hacc, hkr, HST⟩ := hrel
            by_cases hlt : k < n
            · have hlt' : (k : Int) < (n : Int) := by omega
              have c4 : wr.cell? ⟨w3.heap.size, 1, none⟩ = some u := Joins.cell_of_block HST.out.box 1
              have SD := HST.out.below ((Below.refl wr.heap.size wr).drew)
              have HEA := write_any (w.heap.size + 1) r T x wr.drew SD.err SD.cur (by omega)
              cases hen : outR r with
              | none =>
                have HE0 : Calls Tryz.prog 70 #[.pointer (some ⟨w.heap.size + 1, 0, none⟩)] wr.drew fun e w' => e = .panicked [{ v := .iface T x, recovered := false }] ∧ wr.drew.grownBy w' (some (w.heap.size + 1)) := HEA.mono fun e w' h => by
                  rcases h with ⟨p, hp, -⟩ | ⟨-, h⟩
                  · rw [hen] at hp; cases hp
                  · exact h
                have hres7 : Hid (txnRd l = none) := by show _ = _; rw [HTX.out, outs_none HEN.out hlt hen]; rfl
                have HB7 : Hid (∀ w', wr.drew.grownBy w' (some (w.heap.size + 1)) → Below w.heap.size w w') := fun w' h => SD.bel.grown h SD.bel.size (fun k hk => by cases hk; omega)
                clear HEA SD
                go_wp2
                have hS0 : wr.drew.cell? ⟨w3.heap.size, 1, none⟩ = some u := c4
                refine wp_region_held_drew (S := fun w' => w'.cell? ⟨w3.heap.size, 1, none⟩ = some u) (by kernel_rfl) hS0 (fun hHeld => ?_)
                refine wpAnyH_take (i := 0) (v := .pointer (some ⟨w3.heap.size, 1, none⟩)) rfl (by kernel_rfl) (by kernel_rfl) (by kernel_rfl) (fun _ _ _ h => h) (Or.inl ⟨by rfl, ?_⟩) hHeld ?_
                · intro w' hS'
                  go_simp
                refine wpAnyH_take (i := 1) (v := u) rfl (by kernel_rfl) (by kernel_rfl) (by kernel_rfl) (fun _ _ _ h => h) (Or.inl ⟨by rfl, ?_⟩) hHeld ?_
                · intro w' hS'
                  go_simp
                refine wpAnyH_ready (rs := [2]) (by kernel_rfl) (by simp) ?_
                refine AllReadyH.cons rfl (fun K hK => ?_) AllReadyH.nil
                go_simp
                refine HE0.mono ?_
                rintro e w7 ⟨rfl, hg7⟩
                exact ⟨rfl, HP2.out _ w7 ⟨hres7.out, rfl, HB7.out w7 hg7⟩⟩
              | some p =>
                obtain ⟨en, r'⟩ := p
                have hle := outR_len hen
                dsimp only at hle
                have HE0 : Calls Tryz.prog 70 #[.pointer (some ⟨w.heap.size + 1, 0, none⟩)] wr.drew fun e w' => e = .returned (valW en) ∧ TiSt w w3.heap.size ya u acc T x r' w' := HEA.mono fun e w' h => by
                  rcases h with ⟨p, hp, h1, h2, h3⟩ | ⟨hp, -⟩
                  · rw [hen] at hp; cases hp; exact ⟨h1, SD.next h2 h3⟩
                  · rw [hen] at hp; cases hp
                have HEN' : Hid (outsR n l6 = (outsR (n - (k + 1)) r').map fun q => ((acc ++ [en]) ++ q.1, q.2)) := outs_some HEN.out hlt hen
                have haccl : acc.length + 1 ≤ 1099511627776 := by omega
                obtain ⟨n0, n1⟩ := en
                unfold valW at HE0
                dsimp only at HE0
                clear HEA SD
                go_wp2
                have c4d : wr.drew.cell? ⟨w3.heap.size, 1, none⟩ = some u := c4
                go_region_law
                  (first
                  | (go_simp; go_at_call 70; refine HE0.mono ?_; rintro e w7 ⟨rfl, ST7⟩; have c7 : w7.cell? ⟨w3.heap.size, 1, none⟩ = some u := Joins.cell_of_block ST7.box 1; have ST8 := ST7.below (below_lit w7 (.cells #[.int .i64 n0, .string n1] 42)); have c8 : (w7.alloc (.cells #[.int .i64 n0, .string n1] 42)).cell? ⟨w3.heap.size, 1, none⟩ = some u := Joins.cell_of_block ST8.box 1; have hblk8 := (MapKept.heap_alloc w7 (.cells #[.int .i64 n0, .string n1] 42)).1; have hb8 : w3.heap.size + 1 ≤ (w7.alloc (.cells #[.int .i64 n0, .string n1] 42)).heap.size := Nat.le_trans (lt_of_block ST7.box) (by simp); have hq7 : ¬ w3.heap.size = w7.heap.size := (by have := lt_of_block ST7.box; omega); have hq7' : ¬ w7.heap.size = w3.heap.size := (by omega); dsimp only)
                  | ((refine step_append_wr1 (by rfl) (.tmp 15) (.tmp 17) (by rfl) (w3.heap.size + 1) u acc ⟨n0, n1⟩ ST8.row (by rfl) w7.heap.size 1 (by rfl) hblk8 haccl hb8 ?_; intro v' w9 hr9 hg9; obtain ⟨⟨c9, f9⟩, ST9⟩ := ST8.app hg9 hr9; obtain ⟨va, vc, hv9, -, -⟩ := hr9.at; rw [List.length_append, List.length_singleton, hacc] at hv9; subst hv9; have ST9 : Hid (TiSt w w3.heap.size ya (.slice va (k + 1) vc) (acc ++ [⟨n0, n1⟩]) T x r' (w9.setCell ⟨w3.heap.size, 1, none⟩ (.slice va (k + 1) vc))) := ST9)))
                all_goals go_wp2
                all_goals go_roundw
                all_goals first
                  | exact ⟨k + 1, acc ++ [⟨n0, n1⟩], _, r', by omega, by go_num, HEN', by simp; omega, by omega, ST9⟩
                  | (simp [intOf]; omega)
            · obtain rfl : k = n := by omega
              have hz := HEN.out
              rw [Nat.sub_self, outsR] at hz
              simp only [Option.map_some, List.append_nil] at hz
              have hres8 : Hid (txnRd l = some ⟨ya, acc⟩) := by show _ = _; rw [HTX.out, hz]; rfl
              have st := HST.out
              obtain ⟨ua, uc, hu, -, -⟩ := st.row.at
              rw [hacc] at hu
              subst hu
              have b0 : wr.cell? ⟨w3.heap.size, 0, none⟩ = some (.int .i64 ya) := Joins.cell_of_block st.box 0
              have b1 : wr.cell? ⟨w3.heap.size, 1, none⟩ = some (.slice ua k uc) := Joins.cell_of_block st.box 1
              have q0 := Joins.cell_of_block st.res 0
              have q1 := Joins.cell_of_block st.res 1
              have qf := fun i => Joins.unfrozen_of_block st.res i
              dsimp at q0 q1
              have hlt5 := st.lt
              have hgg := put2d (.int .i64 ya) (.slice ua k uc) st.res
              have hbb := (st.bel.setCell (p := ⟨w.heap.size, 0, none⟩) (Nat.le_refl _) (.int .i64 ya)).setCell (p := ⟨w.heap.size, 1, none⟩) (Nat.le_refl _) (.slice ua k uc)
              have K5 := WrRow.mono (own_low (own_low st.row (g := w.heap.size) (by omega) 0 (.int .i64 ya)) (g := w.heap.size) (by omega) 1 (.slice ua k uc)) (base' := w.heap.size) (by omega)
              have HR8 : Hid (SaysX (txnRd l) T x w (.returned (.agg #[.int .i64 ya, .slice ua k uc])) ((wr.setCell ⟨w.heap.size, 0, none⟩ (.int .i64 ya)).setCell ⟨w.heap.size, 1, none⟩ (.slice ua k uc))) := HR.out ⟨ya, acc⟩ (.slice ua k uc) _ ⟨hres8.out, K5, by show acc.length ≤ _; omega, hbb⟩
              have HGG : Hid (((wr.setCell ⟨w.heap.size, 0, none⟩ (.int .i64 ya)).setCell ⟨w.heap.size, 1, none⟩ (.slice ua k uc)).heap[w.heap.size]? = some (.cells #[.int .i64 ya, .slice ua k uc] 38 (0, 0))) := hgg
              clear st HST hz hgg K5 hbb HR HP HP2 HTX
              go_wp2
              generalize (wr.setCell ⟨w.heap.size, 0, none⟩ (.int .i64 ya)).setCell ⟨w.heap.size, 1, none⟩ (.slice ua k uc) = wz at *
              generalize txnRd l = oz at *
              exact bodyPost_ret (results_txn Tryz.results53 _ _ w.heap.size _ rfl rfl HGG.out) rfl HR8.out
        · have hres6 : Hid (txnRd l = none) := by show _ = _; rw [htx, hn6]; rfl
          have B6 := (ST.bel).grown hg6 ST.bel.size (fun k hk => by cases hk; omega)
          go_wp2
          exact ⟨rfl, HP2.out _ w6 ⟨hres6.out, rfl, B6⟩⟩
      · have hres3 : Hid (txnRd l = none) := by show _ = _; unfold txnRd; rw [hn1]; simp only [Option.bind_some]; rw [hm2]; simp only [Option.bind_some]; rw [hn3]; rfl
        go_wp2
        exact ⟨rfl, HP.out _ w3 ⟨hres3.out, rfl, gbr_trans R2.g hg3⟩⟩
    · have hm2 : mrkR 116 l1 = none := Option.map_eq_none_iff.1 hn2
      have hres2 : Hid (txnRd l = none) := by show _ = _; unfold txnRd; rw [hn1]; simp only [Option.bind_some]; rw [hm2]; rfl
      go_wp2
      exact ⟨rfl, HP.out _ w2 ⟨hres2.out, rfl, gbr_trans R1.g hg2⟩⟩
  · have hres1 : Hid (txnRd l = none) := by show _ = _; unfold txnRd; rw [hn1]; rfl
    go_wp2
    exact ⟨rfl, HP.out _ w1 ⟨hres1.out, rfl, hg1⟩⟩
end

section
open Go.RowKit Go.Sort

/-- what is read of n writes by places, acc being read -/
theorem outsS_none {l : List UInt8} {n i : Nat} {p q : Int} {acc : List Wr} (h : outsS l n p = (outsS l (n - i) q).map fun e => (acc ++ e.1, e.2)) (hi : i < n) (he : outS l q = none) : outsS l n p = none := by
  obtain ⟨m, hm⟩ : ∃ m, n - i = m + 1 := ⟨n - i - 1, by omega⟩
  rw [h, hm, outsS, he]; rfl
theorem outsS_some {l : List UInt8} {n i : Nat} {p q q' : Int} {acc : List Wr} {e : Wr} (h : outsS l n p = (outsS l (n - i) q).map fun e => (acc ++ e.1, e.2)) (hi : i < n) (he : outS l q = some (e, q')) : outsS l n p = (outsS l (n - (i + 1)) q').map fun z => ((acc ++ [e]) ++ z.1, z.2) := by
  obtain ⟨m, hm⟩ : ∃ m, n - i = m + 1 := ⟨n - i - 1, by omega⟩
  rw [h, hm, outsS, he, show n - (i + 1) = m by omega]
  simp only [Option.bind_some]
  cases outsS l m q' with
  | none => rfl
  | some q => simp
/-- a row of two numbers, as the walk reads it -/
theorem two_ints {w : World} {base : Nat} {u : Value} {a b : Int} (h : IntRow w base u [a, b]) : ∃ g cap, u = .slice (some ⟨g, 0, none⟩) 2 cap ∧ base ≤ g ∧ w.cell? ⟨g, 0, none⟩ = some (.int .i64 a) ∧ w.cell? ⟨g, 1, none⟩ = some (.int .i64 b) := by
  obtain ⟨aa, cc, e, hc⟩ := h.at
  obtain ⟨b0, off0, h1, -, h3⟩ := hc 0 (by simp)
  obtain ⟨b1, off1, k1, -, k3⟩ := hc 1 (by simp)
  rcases h.2 with ⟨_, h0⟩ | ⟨g, cap, cur, rfl, hg, hh, _⟩
  · simp at h0
  · refine ⟨g, cap, rfl, hg, ?_, ?_⟩
    · simp only [Value.slice.injEq] at e
      rw [← e.1] at h1
      cases h1
      simpa using h3
    · simp only [Value.slice.injEq] at e
      rw [← e.1] at k1
      cases k1
      simpa using k3
theorem one_int {w : World} {base : Nat} {u : Value} {a : Int} (h : IntRow w base u [a]) : ∃ g cap, u = .slice (some ⟨g, 0, none⟩) 1 cap ∧ base ≤ g ∧ w.cell? ⟨g, 0, none⟩ = some (.int .i64 a) := by
  obtain ⟨aa, cc, e, hc⟩ := h.at
  obtain ⟨b0, off0, h1, -, h3⟩ := hc 0 (by simp)
  rcases h.2 with ⟨_, h0⟩ | ⟨g, cap, cur, rfl, hg, hh, _⟩
  · simp at h0
  · refine ⟨g, cap, rfl, hg, ?_⟩
    simp only [Value.slice.injEq] at e
    rw [← e.1] at h1
    cases h1
    simpa using h3
/-- on the way: the answer's block, the row of the head's numbers, the transaction's box and row -/
structure QxSt (w : World) (g q : Nat) (sq : Int) (n : Int) (u : Value) (acc : List Wr) (wr : World) : Prop where
  res : wr.heap[w.heap.size]? = some (.cells #[.int .i64 0, .slice none 0 0] 38)
  c0 : wr.cell? ⟨g, 0, none⟩ = some (.int .i64 sq)
  c1 : wr.cell? ⟨g, 1, none⟩ = some (.int .i64 n)
  glt : w.heap.size < g ∧ g < q
  box : wr.heap[q]? = some (.cells #[.int .i64 sq, u] 38)
  row : WrRow wr (q + 1) u acc
  bel : Below w.heap.size w wr
theorem QxSt.below {w wr w' : World} {g q : Nat} {sq n : Int} {u : Value} {acc : List Wr} (h : QxSt w g q sq n u acc wr) (hb : Below wr.heap.size wr w') : QxSt w g q sq n u acc w' :=
  ⟨(hb.block _ (lt_of_block h.res)).trans h.res, (hb.cell (p := ⟨g, 0, none⟩) (World.block_lt_of_cell? _ _ h.c0)).trans h.c0, (hb.cell (p := ⟨g, 1, none⟩) (World.block_lt_of_cell? _ _ h.c1)).trans h.c1, h.glt, (hb.block _ (lt_of_block h.box)).trans h.box, h.row.below hb, h.bel.trans (hb.mono h.bel.size)⟩
theorem QxSt.app {w wr w9 : World} {g q : Nat} {sq n : Int} {u v' : Value} {acc acc' : List Wr} (h : QxSt w g q sq n u acc wr) (gb : wr.grownBy w9 u.ownBlock) (hr : WrRow w9 (q + 1) v' acc') :
    (w9.cell? ⟨q, 1, none⟩ = some u ∧ w9.frozen? ⟨q, 1, none⟩ = false) ∧ QxSt w g q sq n v' acc' (w9.setCell ⟨q, 1, none⟩ v') := by
  have hlt := h.glt
  have hne : ∀ k, k ≤ q → k < wr.heap.size → w9.heap[k]? = wr.heap[k]? := fun k hk hs => gb.block k hs (fun e => by have := (World.ownsRow.lt h.row k e.symm).1; omega)
  have hq := lt_of_block h.box
  have hbox := (hne q (Nat.le_refl _) hq).trans h.box
  have hset : ∀ k, k ≠ q → (w9.setCell ⟨q, 1, none⟩ v').heap[k]? = w9.heap[k]? := fun k hk => Below.heap_setCell _ _ _ k hk
  have hG : (w9.setCell ⟨q, 1, none⟩ v').heap[g]? = wr.heap[g]? := (hset g (by omega)).trans (hne g (by omega) (by omega))
  have hb : Below w.heap.size w (w9.setCell ⟨q, 1, none⟩ v') := (h.bel.grown gb h.bel.size (fun k hk => by have := (World.ownsRow.lt h.row k hk).1; omega)).setCell (by show w.heap.size ≤ q; omega) _
  exact ⟨⟨Joins.cell_of_block hbox 1, Joins.unfrozen_of_block hbox 1⟩, ⟨(hset _ (by omega)).trans ((hne _ (by omega) (lt_of_block h.res)).trans h.res), (World.cell?_of_block (a := ⟨g, 0, none⟩) hG).trans h.c0, (World.cell?_of_block (a := ⟨g, 1, none⟩) hG).trans h.c1, h.glt, Joins.block_setCell (i := 1) hbox v', own_low hr (by omega) _ _, hb⟩⟩

theorem vars_nums : ∀ (l : List UInt8) (n : Nat) (p : Int), ∀ z ∈ (varsS l n p).1, 0 ≤ z ∧ z ≤ 562949953421311
  | l, 0, p, z, h => by simp [varsS] at h
  | l, n + 1, p, z, h => by
    rw [varsS] at h
    split at h
    · simp at h
    · split at h
      · simp at h
      · rcases List.mem_cons.1 h with rfl | h
        · exact rdN_in _
        · exact vars_nums l n _ z h
theorem tak_neg {l : List UInt8} {p : Int} (h : p < 0) : (takS l p).2 = -1 := by
  unfold takS
  have hv : varsS l 1 p = ([], -1) := vars_out (.inl h)
  rw [hv, if_pos (.inl (by show (-1 : Int) < 0; omega))]
theorem len_two {α : Type} {l : List α} (h : l.length = 2) : ∃ a b, l = [a, b] := by
  match l, h with
  | [a, b], _ => exact ⟨a, b, rfl⟩

set_option maxRecDepth 100000 in
set_option maxHeartbeats 2000000 in
theorem sReadTxn (s : ByteArray) (w : World) (hl : s.size ≤ 1048576) :
    Calls Tryz.prog 16 #[.string s] w fun e w' => SaysR (readT s) w e w' := by
  have B0 := below_lit w (.cells #[.int .i64 0, .slice none 0 0] 38)
  have hp0 := (MapKept.heap_alloc w (.cells #[.int .i64 0, .slice none 0 0] 38)).1
  have S0 : (w.alloc (.cells #[.int .i64 0, .slice none 0 0] 38)).heap.size = w.heap.size + 1 := by simp
  obtain ⟨w0, HW0⟩ : ∃ w0, Hid (w0 = w.alloc (.cells #[.int .i64 0, .slice none 0 0] 38)) := ⟨_, rfl⟩
  have hf : w.alloc (.cells #[.int .i64 0, .slice none 0 0] 38) = w0 := HW0.out.symm
  rw [hf] at B0 hp0 S0
  have HN : Hid (∀ w', readT s = none → Below w.heap.size w w' → SaysR (readT s) w (.returned (.tuple #[.agg #[.int .i64 0, .slice none 0 0], .bool false])) w') := fun w' h1 h2 => .inr ⟨h1, rfl, h2⟩
  have HY : Hid (∀ t u w', readT s = some t → WrRow w' w.heap.size u t.outs → Below w.heap.size w w' → SaysR (readT s) w (.returned (.tuple #[.agg #[.int .i64 t.seq, u], .bool true])) w') := fun t u w' h1 h3 h4 => .inl ⟨t, u, h1, rfl, h3, h4⟩
  have HRS := readT_S s
  -- the answer is none, laid into a world in which the answer's block is as it was
  have HFN : Hid (∀ wr, readT s = none → wr.heap[w.heap.size]? = some (.cells #[.int .i64 0, .slice none 0 0] 38) → Below w.heap.size w wr → Hid (((wr.setCell ⟨w.heap.size, 0, none⟩ (.int .i64 0)).setCell ⟨w.heap.size, 1, none⟩ (.slice none 0 0)).heap[w.heap.size]? = some (.cells #[.int .i64 0, .slice none 0 0] 38 (0, 0))) ∧ Hid (SaysR (readT s) w (.returned (.tuple #[.agg #[.int .i64 0, .slice none 0 0], .bool false])) ((wr.setCell ⟨w.heap.size, 0, none⟩ (.int .i64 0)).setCell ⟨w.heap.size, 1, none⟩ (.slice none 0 0)))) := fun wr h1 h2 h3 =>
    ⟨put2d _ _ h2, HN.out _ h1 ((h3.setCell (Nat.le_refl _) _).setCell (Nat.le_refl _) _)⟩
  by_cases hbig : 4000 < s.size
  · have hnone : readT s = none := by unfold readT; rw [if_pos hbig]
    have hb4 : (4000 : Int) < (s.size : Int) := by omega
    obtain ⟨K1, K2⟩ := HFN.out w0 hnone hp0 B0
    clear HFN HN HY HRS hnone
    generalize readT s = o at *
    have c0 := Joins.cell_of_block hp0 0
    have c1 := Joins.cell_of_block hp0 1
    have f0 := fun i => Joins.unfrozen_of_block hp0 i
    dsimp at c0 c1
    go_enter Tryz.func16, Tryz.ntmps16
    go_wp2
    exact bodyPost_ret (results_txnb Tryz.results16 _ _ w.heap.size _ _ rfl rfl rfl K1.out) rfl K2.out
  · have hb4 : ¬ ((4000 : Int) < (s.size : Int)) := by omega
    rw [if_neg hbig] at HRS
    obtain ⟨l, hsl⟩ : ∃ l, l = s.data.toList := ⟨_, rfl⟩
    have hll : l.length ≤ 1048576 := by rw [hsl, size_list]; exact hl
    have HV1 := l7Vars_any l 5 2 w0 hll (by decide) (by decide) (by decide)
    have HVA := fun p w' h0 h1 => l7Vars_any l p 1 w' hll h0 h1 (by decide)
    have HTA := fun p w' h0 h1 => l7Take_any l p w' hll h0 h1
    have hsb : bA l = s := by rw [hsl]; exact bA_of s
    rw [hsb] at HV1 HVA HTA
    rw [← hsl] at HRS
    have HTX : Hid (txnS l = if (varsS l 2 5).2 < 0 ∨ 17 < (varsS l 2 5).1[1]! then none else (outsS l (varsS l 2 5).1[1]!.toNat (varsS l 2 5).2).bind fun e => some ⟨(varsS l 2 5).1[0]!, e.1⟩) := rfl
    have hve := vars_end l 2 5 hll (by decide) (by decide)
    have hvn := vars_nums l 2 5
    have HSN : Hid (txnS l = none → readT s = none) := fun h => by rw [HRS, h]; rfl
    have HSS : Hid (∀ t, txnS l = some t → readT s = if showN t = s then some t else none) := fun t h => by rw [HRS, h]; rfl
    clear HRS hsl hsb
    obtain ⟨P, HPP⟩ : ∃ P, Hid (P = varsS l 2 5) := ⟨_, rfl⟩
    rw [← HPP.out] at HV1 HTX hve hvn
    obtain ⟨ps, pe⟩ := P
    dsimp only at *
    generalize txnS l = tx at HTX HSN HSS
    generalize readT s = o at *
    by_cases hneg : pe < 0
    · have hnone : o = none := HSN.out (by rw [HTX.out, if_pos (.inl hneg)])
      clear HTX HSN HSS
      go_enter Tryz.func16, Tryz.ntmps16
      go_wp2_with fail
      refine HV1.mono ?_
      rintro e w1 ⟨u, rfl, hrow, b1⟩
      have hp1 := (b1.block _ (by omega)).trans hp0
      have B1 := B0.trans (b1.mono B0.size)
      obtain ⟨K1, K2⟩ := HFN.out w1 hnone hp1 B1
      have c0 := Joins.cell_of_block hp1 0
      have c1 := Joins.cell_of_block hp1 1
      have f0 := fun i => Joins.unfrozen_of_block hp1 i
      dsimp at c0 c1
      obtain ⟨ua, uc, hu, -⟩ := hrow.at
      subst hu
      clear HFN HN HY hnone hrow HPP
      go_wp2
      exact bodyPost_ret (results_txnb Tryz.results16 _ _ w.heap.size _ _ rfl rfl rfl K1.out) rfl K2.out
    · obtain ⟨a, b, hab⟩ := len_two (hve.2.2.1 (by omega))
      subst hab
      have hb0 := hvn b (by simp)
      have ha0 := hvn a (by simp)
      have e1 : ([a, b] : List Int)[1]! = b := rfl
      have e0 : ([a, b] : List Int)[0]! = a := rfl
      rw [e1, e0] at HTX
      by_cases h17 : 17 < b
      · have hnone : o = none := HSN.out (by rw [HTX.out, if_pos (.inr h17)])
        clear HTX HSN HSS
        go_enter Tryz.func16, Tryz.ntmps16
        go_wp2_with fail
        refine HV1.mono ?_
        rintro e w1 ⟨u, rfl, hrow, b1⟩
        have hp1 := (b1.block _ (by omega)).trans hp0
        have B1 := B0.trans (b1.mono B0.size)
        obtain ⟨K1, K2⟩ := HFN.out w1 hnone hp1 B1
        have c0 := Joins.cell_of_block hp1 0
        have c1 := Joins.cell_of_block hp1 1
        have f0 := fun i => Joins.unfrozen_of_block hp1 i
        dsimp at c0 c1
        obtain ⟨g, cap, rfl, hg, d0, d1⟩ := two_ints hrow
        clear HFN HN HY hnone hrow HPP
        go_wp2
        exact bodyPost_ret (results_txnb Tryz.results16 _ _ w.heap.size _ _ rfl rfl rfl K1.out) rfl K2.out
      · obtain ⟨n, rfl⟩ : ∃ n : Nat, b = (n : Int) := ⟨b.toNat, by omega⟩
        have hn17 : n ≤ 17 := by omega
        have HTX : Hid (tx = (outsS l n pe).bind fun e => some ⟨a, e.1⟩) := by
          have := HTX.out
          rw [if_neg (by omega), Int.toNat_natCast] at this
          exact this
        have HSH : Hid (∀ acc u w', WrsAt w' u acc → Calls Tryz.prog 29 #[.agg #[.int .i64 a, u]] w' fun e w'' => e = .returned (.string (showN ⟨a, acc⟩)) ∧ Below w'.heap.size w' w'') := fun acc u w' h => sShowTxn _ ⟨a, acc⟩ w' ⟨u, rfl, h⟩
        have hpe0 : -1 ≤ pe := hve.1
        have hpe1 : pe ≤ 1099511627776 := hve.2.1
        clear hve hvn
        go_enter Tryz.func16, Tryz.ntmps16
        go_wp2_with fail
        refine HV1.mono ?_
        rintro e w1 ⟨u, rfl, hrow, b1⟩
        have hp1 := (b1.block _ (by omega)).trans hp0
        have B1 := B0.trans (b1.mono B0.size)
        obtain ⟨g, cap, rfl, hg, d0, d1⟩ := two_ints hrow
        have BX := below_lit w1 (.cells #[.int .i64 a, .slice none 0 0] 38)
        have ST : QxSt w g w1.heap.size a n (.slice none 0 0) [] (w1.alloc (.cells #[.int .i64 a, .slice none 0 0] 38)) :=
          ⟨(BX.block _ (lt_of_block hp1)).trans hp1, (BX.cell (p := ⟨g, 0, none⟩) (World.block_lt_of_cell? _ _ d0)).trans d0, (BX.cell (p := ⟨g, 1, none⟩) (World.block_lt_of_cell? _ _ d1)).trans d1, ⟨by omega, World.block_lt_of_cell? _ _ d0⟩, (MapKept.heap_alloc w1 _).1, nil_wrs _ _, B1.trans (BX.mono B1.size)⟩
        have HST0 : Hid _ := ST
        have h17' : ¬ ((17 : Int) < (n : Int)) := by omega
        clear ST hrow HV1 BX
        go_wp2
        go_loopw [5, 7] (fun at_ i wr => ∃ (k : Nat) (p : Int) (acc : List Wr) (u : Value), k ≤ n ∧ i = .int .i64 k ∧ at_ = .int .i64 p ∧ (-1 ≤ p ∧ p ≤ 1099511627776) ∧ Hid (outsS l n pe = (outsS l (n - k) p).map fun e => (acc ++ e.1, e.2)) ∧ acc.length = k ∧ Hid (QxSt w g w1.heap.size a n u acc wr)) (fun _ i _ => n - (intOf i).toNat)
        case atStart => exact ⟨0, pe, [], .slice none 0 0, Nat.zero_le _, rfl, rfl, ⟨hpe0, hpe1⟩, by show _ = _; simp, rfl, HST0⟩
        case round =>
          obtain ⟨k, p, acc, u, hk, rfl, rfl, ⟨hq0, hq1⟩, HEN, hacc, HST⟩ := hrel
          have d0 := HST.out.c0
          have d1 := HST.out.c1
          by_cases hlt : k < n
          · have hlt' : (k : Int) < (n : Int) := by omega
            have HV := HVA p wr hq0 hq1
            have hve := vars_end l 1 p hll hq0 hq1
            have hte := tak_end (l := l) (p := (varsS l 1 p).2) hll hve.1 hve.2.1
            have HT := fun w' => HTA (varsS l 1 p).2 w' hve.1 hve.2.1
            have HO : Hid (outS l p = if (takS l (varsS l 1 p).2).2 < 0 then none else some (⟨(varsS l 1 p).1[0]!, bA (takS l (varsS l 1 p).2).1⟩, (takS l (varsS l 1 p).2).2)) := rfl
            have hneg2 : (varsS l 1 p).2 < 0 → (takS l (varsS l 1 p).2).2 = -1 := fun h => tak_neg h
            have HNO : Hid (outS l p = none → o = none) := fun h => HSN.out (by rw [HTX.out, outsS_none HEN.out hlt h]; rfl)
            have HYS : Hid (∀ e q', outS l p = some (e, q') → outsS l n pe = (outsS l (n - (k + 1)) q').map fun z => ((acc ++ [e]) ++ z.1, z.2)) := fun e q' h => outsS_some HEN.out hlt h
            generalize outS l p = O at HO HNO HYS
            obtain ⟨V, HVV⟩ : ∃ V, Hid (V = varsS l 1 p) := ⟨_, rfl⟩
            rw [← HVV.out] at HV hve hte HT HO hneg2
            obtain ⟨vs, ve⟩ := V
            dsimp only at HV hve hte HT HO hneg2
            obtain ⟨K, HKK⟩ : ∃ K, Hid (K = takS l ve) := ⟨_, rfl⟩
            rw [← HKK.out] at hte HT HO hneg2
            obtain ⟨kt, ke⟩ := K
            dsimp only at hte HT HO hneg2
            have hkts : (bA kt).size = kt.length := bA_size kt
            generalize bA kt = kx at HT HO hkts
            clear HPP HVV HKK
            by_cases hke : ke < 0
            · have hnone : o = none := HNO.out (by rw [HO.out, if_pos hke])
              clear HO HNO HYS HTX HSN HSS
              go_wp2_with fail
              refine HV.mono ?_
              rintro e w2 ⟨u2, rfl, hrow2, b2⟩
              obtain ⟨ua2, uc2, hu2, -⟩ := hrow2.at
              subst hu2
              go_wp2_with fail
              refine (HT w2).mono ?_
              rintro e w3 ⟨rfl, b3⟩
              have st3 := (HST.out.below b2).below b3
              obtain ⟨K1, K2⟩ := HFN.out w3 hnone st3.res st3.bel
              have c0 := Joins.cell_of_block st3.res 0
              have c1 := Joins.cell_of_block st3.res 1
              have f0 := fun i => Joins.unfrozen_of_block st3.res i
              dsimp at c0 c1
              clear HFN HN HY hnone hrow2 st3 HST
              go_wp2
              exact bodyPost_ret (results_txnb Tryz.results16 _ _ w.heap.size _ _ rfl rfl rfl K1.out) rfl K2.out
            · have hvn : ¬ ve < 0 := fun h => by have := hneg2 h; omega
              obtain ⟨z, hz⟩ : ∃ z, vs = [z] := List.length_eq_one_iff.1 (hve.2.2.1 (by omega))
              subst hz
              have e0 : ([z] : List Int)[0]! = z := rfl
              have HEN' : Hid (outsS l n pe = (outsS l (n - (k + 1)) ke).map fun y => ((acc ++ [⟨z, kx⟩]) ++ y.1, y.2)) := HYS.out ⟨z, kx⟩ ke (by rw [HO.out, if_neg hke, e0])
              have haccl : acc.length + 1 ≤ 1099511627776 := by omega
              have hkb : ke ≤ 1099511627776 := by omega
              clear HO HNO HYS hneg2 hve
              go_wp2_with fail
              refine HV.mono ?_
              rintro e w2 ⟨u2, rfl, hrow2, b2⟩
              obtain ⟨g2, cap2, rfl, hg2, y0⟩ := one_int hrow2
              go_wp2_with fail
              refine (HT w2).mono ?_
              rintro e w3 ⟨rfl, b3⟩
              have y3 : w3.drew.cell? ⟨g2, 0, none⟩ = some (.int .i64 z) := (b3.cell (p := ⟨g2, 0, none⟩) (World.block_lt_of_cell? _ _ y0)).trans y0
              have y3' : w3.cell? ⟨g2, 0, none⟩ = some (.int .i64 z) := y3
              have ST3 := ((HST.out.below b2).below b3).below ((Below.refl w3.heap.size w3).drew)
              have c4 : w3.drew.cell? ⟨w1.heap.size, 1, none⟩ = some u := Joins.cell_of_block ST3.box 1
              have c4' : w3.cell? ⟨w1.heap.size, 1, none⟩ = some u := c4
              have ST8 := (((HST.out.below b2).below b3).below (below_lit w3 (.cells #[.int .i64 z, .string kx] 42))).below ((Below.refl _ (w3.alloc (.cells #[.int .i64 z, .string kx] 42))).drew)
              have c8 : (w3.alloc (.cells #[.int .i64 z, .string kx] 42)).cell? ⟨w1.heap.size, 1, none⟩ = some u := Joins.cell_of_block ST8.box 1
              have hblk8 : (w3.alloc (.cells #[.int .i64 z, .string kx] 42)).drew.heap[w3.heap.size]? = some (.cells #[.int .i64 z, .string kx] 42) := (MapKept.heap_alloc w3 (.cells #[.int .i64 z, .string kx] 42)).1
              have hz3 : w1.heap.size < w3.heap.size := lt_of_block ST3.box
              have hb8 : w1.heap.size + 1 ≤ (w3.alloc (.cells #[.int .i64 z, .string kx] 42)).drew.heap.size := by show w1.heap.size + 1 ≤ (w3.alloc (.cells #[.int .i64 z, .string kx] 42)).heap.size; simp; omega
              have hq7 : ¬ w1.heap.size = w3.heap.size := by omega
              have hq7' : ¬ w3.heap.size = w1.heap.size := by omega
              have HS8 : Hid (QxSt w g w1.heap.size a n u acc (w3.alloc (.cells #[.int .i64 z, .string kx] 42)).drew) := ST8
              clear hrow2 ST3 ST8 HST hz3
              go_wp2
              go_region_law
                ((refine step_append_wr1 (by rfl) (.tmp 56) (.tmp 62) (by rfl) (w1.heap.size + 1) u acc ⟨z, kx⟩ HS8.out.row (by rfl) w3.heap.size 1 (by rfl) hblk8 haccl hb8 ?_; intro v' w9 hr9 hg9; obtain ⟨⟨c9, f9⟩, ST9⟩ := HS8.out.app hg9 hr9; obtain ⟨va, vc, hv9, -, -⟩ := hr9.at; rw [List.length_append, List.length_singleton, hacc] at hv9; subst hv9; have ST9 : Hid (QxSt w g w1.heap.size a n (.slice va (k + 1) vc) (acc ++ [⟨z, kx⟩]) (w9.setCell ⟨w1.heap.size, 1, none⟩ (.slice va (k + 1) vc))) := ST9))
              all_goals go_wp2
              all_goals go_roundw
              all_goals first
                | exact ⟨k + 1, ke, acc ++ [⟨z, kx⟩], _, by omega, by go_num, rfl, ⟨by omega, hkb⟩, HEN', by simp; omega, ST9⟩
                | (simp [intOf]; omega)
          · obtain rfl : k = n := by omega
            have hz := HEN.out
            rw [Nat.sub_self, outsS] at hz
            simp only [Option.map_some, List.append_nil] at hz
            have htx : tx = some ⟨a, acc⟩ := by rw [HTX.out, hz]; rfl
            have hoo := HSS.out _ htx
            have st := HST.out
            obtain ⟨ua, uc, hu, -, -⟩ := st.row.at
            rw [hacc] at hu
            subst hu
            have b0 := Joins.cell_of_block st.box 0
            have b1' := Joins.cell_of_block st.box 1
            dsimp at b0 b1'
            have HS := HSH.out acc _ wr st.row.at
            generalize showN ⟨a, acc⟩ = sh at hoo HS
            have HOO : Hid (o = if sh = s then some ⟨a, acc⟩ else none) := hoo
            clear hz HTX HSN HSS htx hoo HSH
            go_wp2_with fail
            refine HS.mono ?_
            rintro e w4 ⟨rfl, b4⟩
            have st4 := st.below b4
            have b0 := Joins.cell_of_block st4.box 0
            have b1' := Joins.cell_of_block st4.box 1
            have c0 := Joins.cell_of_block st4.res 0
            have c1 := Joins.cell_of_block st4.res 1
            have f0 := fun i => Joins.unfrozen_of_block st4.res i
            dsimp at c0 c1 b0 b1'
            have hgl := st4.glt
            by_cases he : sh = s
            · have hbe : (sh.toList == s.toList) = true := by simp [he]
              have hsome : o = some ⟨a, acc⟩ := by rw [HOO.out, if_pos he]
              have K1 : Hid (((w4.setCell ⟨w.heap.size, 0, none⟩ (.int .i64 a)).setCell ⟨w.heap.size, 1, none⟩ (.slice ua k uc)).heap[w.heap.size]? = some (.cells #[.int .i64 a, .slice ua k uc] 38 (0, 0))) := put2d _ _ st4.res
              have K2 : Hid (SaysR o w (.returned (.tuple #[.agg #[.int .i64 a, .slice ua k uc], .bool true])) ((w4.setCell ⟨w.heap.size, 0, none⟩ (.int .i64 a)).setCell ⟨w.heap.size, 1, none⟩ (.slice ua k uc))) := HY.out ⟨a, acc⟩ (.slice ua k uc) _ hsome (WrRow.mono (own_low (own_low st4.row (g := w.heap.size) (by omega) 0 (.int .i64 a)) (g := w.heap.size) (by omega) 1 (.slice ua k uc)) (by omega)) ((st4.bel.setCell (p := ⟨w.heap.size, 0, none⟩) (Nat.le_refl _) (.int .i64 a)).setCell (p := ⟨w.heap.size, 1, none⟩) (Nat.le_refl _) (.slice ua k uc))
              clear HFN HN HY hsome st st4 HST HOO he
              go_wp2
              exact bodyPost_ret (results_txnb Tryz.results16 _ _ w.heap.size _ _ rfl rfl rfl K1.out) rfl K2.out
            · have hbe : (sh.toList == s.toList) = false := by rw [text_beq]; exact decide_eq_false he
              have hnone : o = none := by rw [HOO.out, if_neg he]
              obtain ⟨K1, K2⟩ := HFN.out w4 hnone st4.res st4.bel
              clear HFN HN HY hnone st st4 HST HOO he
              go_wp2
              exact bodyPost_ret (results_txnb Tryz.results16 _ _ w.heap.size _ _ rfl rfl rfl K1.out) rfl K2.out
end

end Go.Proofs.YtpijjinoeghgoaaGreatDoor
