/- Blocks, impl: readHead, readInode. Blocks, impl: readInode. -/
import Derived.Test.YtpijjinoeghgoaaGreatDoorRows
import Derived.Test.YtpijjinoeghgoaaGreatDoorPc
import Derived.Test.YtpijjinoeghgoaaGreatDoorNi
import Derived.Deep.RegionHeld3
namespace Go.Proofs.YtpijjinoeghgoaaGreatDoor

section
open Go.RowKit Go.Sort

/-- what a reader says: what o has, or a panic -/
def SaysP {α : Type} (o : Option α) (enc : α → Value) (T : TypeId) (x : Value) (w : World) (e : Ending) (w' : World) : Prop :=
  (∃ p, o = some p ∧ e = .returned (enc p) ∧ Below w.heap.size w w') ∨ (o = none ∧ e = .panicked [{ v := .iface T x, recovered := false }] ∧ Below w.heap.size w w')
/-- on the way: what is left, and the tables -/
structure Rd (w2 : World) (T : TypeId) (x : Value) (b : Nat) (r : List UInt8) (w' : World) : Prop where
  cur : CurSt w' b r
  err : ErrV w' T x
  tabs : Tabs w'
  crc : CrcTab w'
  g : w2.grownBy w' (some b)
theorem Rd.next {w2 w' w'' : World} {T : TypeId} {x : Value} {b : Nat} {r r' : List UInt8} (h : Rd w2 T x b r w') (hc : CurSt w'' b r') (g : w'.grownBy w'' (some b)) : Rd w2 T x b r' w'' :=
  ⟨hc, h.err.grown g h.cur.2, (h.tabs.grown h.crc h.cur g).1, (h.tabs.grown h.crc h.cur g).2, gbr_trans h.g g⟩
theorem cursor_new (w : World) (s : ByteArray) (T : TypeId) (x : Value) (hE : ErrV w T x) : CurSt (w.alloc (.cells #[.string s] 93)) w.heap.size s.data.toList :=
  ⟨by rw [bA_of]; exact (MapKept.heap_alloc w _).1, by have := hE.lt; omega⟩

set_option maxRecDepth 100000 in
set_option maxHeartbeats 1000000 in
theorem readHead_any (s : ByteArray) (T : TypeId) (x : Value) (w : World) (hT : Tabs w) (hC : CrcTab w) (hE : ErrV w T x) (hl : s.size ≤ 1048576) :
    Calls Tryz.prog 56 #[.string s] w fun e w' => SaysP (headRd s.data.toList) (fun p => .tuple #[.int .i64 p.1, .int .i64 p.2]) T x w e w' := by
  have B0 := below_lit w (.cells #[.string s] 93)
  have hc0 := cursor_new w s T x hE
  obtain ⟨w0, HW0⟩ : ∃ w0, Hid (w0 = w.alloc (.cells #[.string s] 93)) := ⟨_, rfl⟩
  have hf : w.alloc (.cells #[.string s] 93) = w0 := HW0.out.symm
  rw [hf] at B0 hc0
  have hl' : s.data.toList.length ≤ 1048576 := by rw [size_list]; exact hl
  have R0 : Rd w0 T x w.heap.size s.data.toList w0 := ⟨hc0, hE.below B0, hT.below B0, hC.below B0, gb_self _ _⟩
  have HP : Hid (∀ e w', (headRd s.data.toList = none ∧ e = .panicked [{ v := .iface T x, recovered := false }] ∧ w0.grownBy w' (some w.heap.size)) → SaysP (headRd s.data.toList) (fun p => .tuple #[.int .i64 p.1, .int .i64 p.2]) T x w e w') := fun e w' h => .inr ⟨h.1, h.2.1, B0.grown h.2.2 B0.size (fun k hk => by cases hk; exact Nat.le_refl _)⟩
  have HR : Hid (∀ p e w', (headRd s.data.toList = some p ∧ e = .returned (.tuple #[.int .i64 p.1, .int .i64 p.2]) ∧ w0.grownBy w' (some w.heap.size)) → SaysP (headRd s.data.toList) (fun p => .tuple #[.int .i64 p.1, .int .i64 p.2]) T x w e w') := fun p e w' h => .inl ⟨p, h.1, h.2.1, B0.grown h.2.2 B0.size (fun k hk => by cases hk; exact Nat.le_refl _)⟩
  have HM := mark_any w.heap.size s.data.toList 117 T x w0 R0.err R0.cur hl'
  generalize hL : s.data.toList = l at *
  clear hT hC hE
  go_enter Tryz.func56, Tryz.ntmps56
  go_wp2_with fail
  refine HM.mono ?_
  rintro e w1 hs
  rcases hs with ⟨⟨u1, l1⟩, hn1, rfl, hc1, hg1⟩ | ⟨hn1, rfl, hg1⟩
  · obtain ⟨r0, hm1, hm2⟩ := Option.map_eq_some_iff.1 hn1
    cases hm2
    have hll1 : l1.length ≤ l.length := by
      cases l with
      | nil => cases hm1
      | cons c r => unfold mrkR at hm1; simp only at hm1; split at hm1 <;> cases hm1; simp
    have R1 := R0.next hc1 hg1
    have HN := number_any w.heap.size l1 T x w1 R1.err R1.cur (by omega)
    dsimp only
    go_wp2_with fail
    refine HN.mono ?_
    rintro e w2 hs
    rcases hs with ⟨⟨a, l2⟩, hn2, rfl, hc2, hg2⟩ | ⟨hn2, rfl, hg2⟩
    · have hl2 := numR_len hn2
      have R2 := R1.next hc2 hg2
      have HN2 := number_any w.heap.size l2 T x w2 R2.err R2.cur (by dsimp only at hl2; omega)
      dsimp only
      go_wp2_with fail
      refine HN2.mono ?_
      rintro e w3 hs
      rcases hs with ⟨⟨c, l3⟩, hn3, rfl, hc3, hg3⟩ | ⟨hn3, rfl, hg3⟩
      · have R3 := R2.next hc3 hg3
        have hres : Hid (headRd l = some (a, c)) := by show _ = _; unfold headRd; rw [hm1]; simp only [Option.bind_some]; rw [hn2]; simp only [Option.bind_some]; rw [hn3]; rfl
        dsimp only
        go_wp2
        exact bodyPost_ret (results_tmp2 rfl _ _ _) rfl (HR.out (a, c) _ w3 ⟨hres.out, rfl, R3.g⟩)
      · have R3 := gbr_trans R2.g hg3
        have hres : Hid (headRd l = none) := by show _ = _; unfold headRd; rw [hm1]; simp only [Option.bind_some]; rw [hn2]; simp only [Option.bind_some]; rw [hn3]; rfl
        go_wp2
        exact ⟨rfl, HP.out _ w3 ⟨hres.out, rfl, R3⟩⟩
    · have hres : Hid (headRd l = none) := by show _ = _; unfold headRd; rw [hm1]; simp only [Option.bind_some]; rw [hn2]; rfl
      go_wp2
      exact ⟨rfl, HP.out _ w2 ⟨hres.out, rfl, gbr_trans R1.g hg2⟩⟩
  · have hm1 : mrkR 117 l = none := Option.map_eq_none_iff.1 hn1
    have hres : Hid (headRd l = none) := by show _ = _; unfold headRd; rw [hm1]; rfl
    go_wp2
    exact ⟨rfl, HP.out _ w1 ⟨hres.out, rfl, hg1⟩⟩
end

section
open Go.RowKit Go.Sort

/-- 'append(out, e)' as one step of a statement whose order is open -/
theorem step_append_ent {ops : Array Oper} {o : Oper} {a : Act} {w : World} {K : Act → World → Prop} {Q : Exit → Act → World → Prop} {Z : Prop}
    (hg : o.guard = none) (s x : Operand) (hop : o.op = Op.call { callee := Callee.builtin Builtin.append, args := #[s, x], argTypes := #[57, 57] }) (base : Nat)
    (v : Value) (l : List En) (e : En) (hown : EntRow w base v l) (hs : a.eval s = v)
    (xb : Nat) (cap : Nat) (hx : a.eval x = .slice (some ⟨xb, 0, none⟩) 1 cap) (hxc : w.heap[xb]? = some (.cells #[.int .i64 e.hash, .int .i64 e.index, .string e.name, .int .i64 e.id] 77))
    (hl : l.length + 1 ≤ 1099511627776) (hbase : base ≤ w.heap.size)
    (hK : ∀ v' w', EntRow w' base v' (l ++ [e]) → w.grownBy w' v.ownBlock → K (a.put o.dst v') w') :
    if Region.wanted o (yielded ops a.tmps) = true then Oper.wp Tryz.prog o a w K Q else Z := by
  obtain ⟨i0, hi, hz0, hz1, hz2⟩ := info_parts Tryz.infoE
  have hw : Region.wanted o (yielded ops a.tmps) = true := by simp [Region.wanted, hg]
  rw [if_pos hw]
  have hcl : ∀ j z, (encE e)[j]? = some z → w.cell? ((⟨xb, 0, none⟩ : Addr).add j) = some z := by
    intro j z hz
    rw [Addr.add_lit, Nat.zero_add, Joins.cell_of_block hxc j]
    rw [← hz]; simp [encE]
  obtain ⟨v', w', hrun, r1, r2, _⟩ := run_append_own (P := Tryz.prog) w base 57 o.type 77 i0 _ 4 40 Tryz.underlying57 hi hz0 hz1 hz2 rfl (by decide) v l.length (flatE l) hown ⟨xb, 0, none⟩ 1 cap (encE e) rfl hcl
    (encE_one e) (by unfold maxLen; omega) (by omega) hbase
  unfold Oper.wp
  simp [execOp, hop, resolve, invoke, builtin, hs, hx, hrun, Result.andThen]
  refine hK v' w' ?_ r2
  unfold EntRow
  rw [flatE_append, flatE_one, List.length_append]
  exact r1

/-- on the way of readInode -/
structure RiSt (w : World) (q : Nat) (a b c : Int) (d : ByteArray) (u : Value) (acc : List En) (T : TypeId) (x : Value) (r : List UInt8) (wr : World) : Prop where
  cur : CurSt wr (w.heap.size + 1) r
  res : wr.heap[w.heap.size]? = some (.cells #[.int .i64 0, .int .i64 0, .int .i64 0, .string ⟨#[]⟩, .slice none 0 0] 59)
  box : wr.heap[q]? = some (.cells #[.int .i64 a, .int .i64 b, .int .i64 c, .string d, u] 59)
  row : EntRow wr (q + 1) u acc
  err : ErrV wr T x
  tabs : Tabs wr
  crc : CrcTab wr
  bel : Below w.heap.size w wr
  lt : w.heap.size + 1 < q
  err0 : ErrV w T x
  tabs0 : Tabs w
  crc0 : CrcTab w
/-- behind a call of the cursor's -/
theorem RiSt.next {w wr w' : World} {q : Nat} {a b c : Int} {d : ByteArray} {u : Value} {acc : List En} {T : TypeId} {x : Value} {r r' : List UInt8} (h : RiSt w q a b c d u acc T x r wr) (hc : CurSt w' (w.heap.size + 1) r') (g : wr.grownBy w' (some (w.heap.size + 1))) : RiSt w q a b c d u acc T x r' w' :=
  have hlt := h.lt
  ⟨hc, (g.block _ (lt_of_block h.res) (by simp)).trans h.res, (g.block _ (lt_of_block h.box) (by simp; omega)).trans h.box, EntRow.kept h.row g (by
    cases hu : u.ownBlock with
    | none => exact .inl rfl
    | some k => right; have := (h.row.blk k hu).1; simp; omega), h.err.grown g h.cur.2, (h.tabs.grown h.crc h.cur g).1, (h.tabs.grown h.crc h.cur g).2, h.bel.grown g h.bel.size (fun k hk => by cases hk; omega), h.lt, h.err0, h.tabs0, h.crc0⟩

theorem RiSt.below {w wr w' : World} {q : Nat} {a b c : Int} {d : ByteArray} {u : Value} {acc : List En} {T : TypeId} {x : Value} {r : List UInt8} (h : RiSt w q a b c d u acc T x r wr) (hb : Below wr.heap.size wr w') : RiSt w q a b c d u acc T x r w' :=
  ⟨h.cur.below hb, (hb.block _ (lt_of_block h.res)).trans h.res, (hb.block _ (lt_of_block h.box)).trans h.box, h.row.below hb, h.err.below hb, h.tabs.below hb, h.crc.below hb, h.bel.trans (hb.mono h.bel.size), h.lt, h.err0, h.tabs0, h.crc0⟩
/-- a row appended to, and laid into the box -/
theorem RiSt.app {w wr w9 : World} {q : Nat} {a b c : Int} {d : ByteArray} {u v' : Value} {acc acc' : List En} {T : TypeId} {x : Value} {r : List UInt8} (h : RiSt w q a b c d u acc T x r wr) (g : wr.grownBy w9 u.ownBlock) (hr : EntRow w9 (q + 1) v' acc') :
    (w9.cell? ⟨q, 4, none⟩ = some u ∧ w9.frozen? ⟨q, 4, none⟩ = false) ∧ RiSt w q a b c d v' acc' T x r (w9.setCell ⟨q, 4, none⟩ v') := by
  have hlt := h.lt
  have hne : ∀ k, k ≤ q → k < wr.heap.size → w9.heap[k]? = wr.heap[k]? := fun k hk hs => g.block k hs (fun e => by have := (h.row.blk k e.symm).1; omega)
  have hq := lt_of_block h.box
  have hbox := (hne q (Nat.le_refl _) hq).trans h.box
  have hset : ∀ k, k ≠ q → (w9.setCell ⟨q, 4, none⟩ v').heap[k]? = w9.heap[k]? := fun k hk => Below.heap_setCell _ _ _ k hk
  have hb : Below w.heap.size w (w9.setCell ⟨q, 4, none⟩ v') := (h.bel.grown g h.bel.size (fun k hk => by have := (h.row.blk k hk).1; omega)).setCell (by show w.heap.size ≤ q; omega) _
  refine ⟨⟨Joins.cell_of_block hbox 4, Joins.unfrozen_of_block hbox 4⟩, ⟨⟨(hset _ (by omega)).trans ((hne _ (by omega) h.cur.lt).trans h.cur.1), h.cur.2⟩, (hset _ (by omega)).trans ((hne _ (by omega) (lt_of_block h.res)).trans h.res), Joins.block_setCell (i := 4) hbox v', ?_, ?_, ?_, ?_, hb, h.lt, h.err0, h.tabs0, h.crc0⟩⟩
  · exact hr.kept (gbr_set w9 q 4 v') (by
      cases hu : v'.ownBlock with
      | none => exact .inl rfl
      | some k => right; have := (hr.blk k hu).1; simp; omega)
  · exact h.err0.below hb
  · exact h.tabs0.below hb
  · exact h.crc0.below hb

/-- what is read of n entries, acc being read -/
theorem ents_none {n i : Nat} {l r : List UInt8} {acc : List En} (h : entsR n l = (entsR (n - i) r).map fun q => (acc ++ q.1, q.2)) (hi : i < n) (he : entR r = none) : entsR n l = none := by
  obtain ⟨m, hm⟩ : ∃ m, n - i = m + 1 := ⟨n - i - 1, by omega⟩
  rw [h, hm, entsR, he]; rfl
theorem ents_some {n i : Nat} {l r r' : List UInt8} {acc : List En} {e : En} (h : entsR n l = (entsR (n - i) r).map fun q => (acc ++ q.1, q.2)) (hi : i < n) (he : entR r = some (e, r')) : entsR n l = (entsR (n - (i + 1)) r').map fun q => ((acc ++ [e]) ++ q.1, q.2) := by
  obtain ⟨m, hm⟩ : ∃ m, n - i = m + 1 := ⟨n - i - 1, by omega⟩
  rw [h, hm, entsR, he, show n - (i + 1) = m by omega]
  simp only [Option.bind_some]
  cases entsR m r' with
  | none => rfl
  | some q => simp
theorem entR_len {l : List UInt8} {p : En × List UInt8} (h : entR l = some p) : p.2.length < l.length ∧ p.1.name.size ≤ l.length := by
  unfold entR at h
  cases h1 : numR l with
  | none => rw [h1] at h; cases h
  | some a =>
    rw [h1] at h
    simp only [Option.bind_some] at h
    cases h2 : pieR a.2 with
    | none => rw [h2] at h; cases h
    | some b =>
      rw [h2] at h
      simp only [Option.bind_some] at h
      cases h3 : numR b.2 with
      | none => rw [h3] at h; cases h
      | some c =>
        rw [h3] at h
        cases h
        have k1 := numR_len h1
        have k2 := pieR_len h2
        have k3 := numR_len h3
        refine ⟨by show c.2.length < _; omega, ?_⟩
        show (bA b.1).size ≤ _
        rw [bA_size]; omega

/-- five cells of a block written anew -/
def put5W (w : World) (g : Nat) (x0 x1 x2 x3 x4 : Value) : World := ((((w.setCell ⟨g, 0, none⟩ x0).setCell ⟨g, 1, none⟩ x1).setCell ⟨g, 2, none⟩ x2).setCell ⟨g, 3, none⟩ x3).setCell ⟨g, 4, none⟩ x4
theorem put5W_facts {w wr : World} {g q : Nat} {a0 a1 a2 a3 a4 : Value} {T : TypeId} {u : Value} {acc : List En} (x0 x1 x2 x3 x4 : Value) (hb : Below g w wr) (hr : wr.heap[g]? = some (.cells #[a0, a1, a2, a3, a4] T (0, 0))) (hrow : EntRow wr q u acc) (hq : g < q) :
    (put5W wr g x0 x1 x2 x3 x4).heap[g]? = some (.cells #[x0, x1, x2, x3, x4] T (0, 0)) ∧ EntRow (put5W wr g x0 x1 x2 x3 x4) g u acc ∧ Below g w (put5W wr g x0 x1 x2 x3 x4) := by
  have hle5 : g ≤ g := Nat.le_refl _
  have k1 := ownsRow_setCell_below hrow (a := ⟨g, 0, none⟩) hq x0
  have k2 := ownsRow_setCell_below k1 (a := ⟨g, 1, none⟩) hq x1
  have k3 := ownsRow_setCell_below k2 (a := ⟨g, 2, none⟩) hq x2
  have k4 := ownsRow_setCell_below k3 (a := ⟨g, 3, none⟩) hq x3
  have k5 := ownsRow_setCell_below k4 (a := ⟨g, 4, none⟩) hq x4
  exact ⟨put5 x0 x1 x2 x3 x4 hr, EntRow.mono k5 (by omega), ((((hb.setCell hle5 _).setCell hle5 _).setCell hle5 _).setCell hle5 _).setCell hle5 _⟩

/-- what readInode says -/
def SaysI (o : Option Ino) (T : TypeId) (x : Value) (w : World) (e : Ending) (w' : World) : Prop :=
  (∃ y s, o = some y ∧ e = .returned (valI y s) ∧ EntRow w' w.heap.size s y.ents ∧ Below w.heap.size w w') ∨ (o = none ∧ e = .panicked [{ v := .iface T x, recovered := false }] ∧ Below w.heap.size w w')

set_option maxRecDepth 100000 in
set_option maxHeartbeats 2000000 in
theorem readInode_any (s : ByteArray) (T : TypeId) (x : Value) (w : World) (hT : Tabs w) (hC : CrcTab w) (hE : ErrV w T x) (hl : s.size ≤ 1048576) :
    Calls Tryz.prog 57 #[.string s] w fun e w' => SaysI (inoRd s.data.toList) T x w e w' := by
  have B00 := below_lit w (.cells #[.int .i64 0, .int .i64 0, .int .i64 0, .string ⟨#[]⟩, .slice none 0 0] 59)
  have hres0 := (MapKept.heap_alloc w (.cells #[.int .i64 0, .int .i64 0, .int .i64 0, .string ⟨#[]⟩, .slice none 0 0] 59)).1
  have S00 : (w.alloc (.cells #[.int .i64 0, .int .i64 0, .int .i64 0, .string ⟨#[]⟩, .slice none 0 0] 59)).heap.size = w.heap.size + 1 := by simp
  have B01 := below_lit (w.alloc (.cells #[.int .i64 0, .int .i64 0, .int .i64 0, .string ⟨#[]⟩, .slice none 0 0] 59)) (.cells #[.string s] 93)
  have hc0 := cursor_new (w.alloc (.cells #[.int .i64 0, .int .i64 0, .int .i64 0, .string ⟨#[]⟩, .slice none 0 0] 59)) s T x (hE.below B00)
  rw [S00] at B01 hc0
  obtain ⟨w0, HW0⟩ : ∃ w0, Hid (w0 = (w.alloc (.cells #[.int .i64 0, .int .i64 0, .int .i64 0, .string ⟨#[]⟩, .slice none 0 0] 59)).alloc (.cells #[.string s] 93)) := ⟨_, rfl⟩
  have hf : (w.alloc (.cells #[.int .i64 0, .int .i64 0, .int .i64 0, .string ⟨#[]⟩, .slice none 0 0] 59)).alloc (.cells #[.string s] 93) = w0 := HW0.out.symm
  rw [hf] at B01 hc0
  have hres : w0.heap[w.heap.size]? = some (.cells #[.int .i64 0, .int .i64 0, .int .i64 0, .string ⟨#[]⟩, .slice none 0 0] 59) := (B01.block _ (by omega)).trans hres0
  have B0 : Below w.heap.size w w0 := B00.trans (B01.mono (by omega))
  have S0 : w0.heap.size = w.heap.size + 2 := by rw [HW0.out]; simp
  have hl' : s.data.toList.length ≤ 1048576 := by rw [size_list]; exact hl
  have R0 : Rd w0 T x (w.heap.size + 1) s.data.toList w0 := ⟨hc0, hE.below B0, hT.below B0, hC.below B0, gb_self _ _⟩
  have HG : Hid (∀ w', w0.grownBy w' (some (w.heap.size + 1)) → Below w.heap.size w w') := fun w' h => B0.grown h B0.size (fun k hk => by cases hk; omega)
  have HP : Hid (∀ e w', (inoRd s.data.toList = none ∧ e = .panicked [{ v := .iface T x, recovered := false }] ∧ w0.grownBy w' (some (w.heap.size + 1))) → SaysI (inoRd s.data.toList) T x w e w') := fun e w' h => .inr ⟨h.1, h.2.1, HG.out w' h.2.2⟩
  have HP2 : Hid (∀ e w', (inoRd s.data.toList = none ∧ e = .panicked [{ v := .iface T x, recovered := false }] ∧ Below w.heap.size w w') → SaysI (inoRd s.data.toList) T x w e w') := fun e w' h => .inr h
  have HR : Hid (∀ y z w', (inoRd s.data.toList = some y ∧ EntRow w' w.heap.size z y.ents ∧ Below w.heap.size w w') → SaysI (inoRd s.data.toList) T x w (.returned (valI y z)) w') := fun y z w' h => .inl ⟨y, z, h.1, rfl, h.2⟩
  have HM := mark_any (w.heap.size + 1) s.data.toList 105 T x w0 R0.err R0.cur hl'
  generalize hL : s.data.toList = l at *
  clear B00 B01 hc0 hres0
  go_enter Tryz.func57, Tryz.ntmps57
  go_wp2_with fail
  refine HM.mono ?_
  rintro e w1 hs
  rcases hs with ⟨⟨u1, l1⟩, hn1, rfl, hc1, hg1⟩ | ⟨hn1, rfl, hg1⟩
  · obtain ⟨r0, hm1, hm2⟩ := Option.map_eq_some_iff.1 hn1
    cases hm2
    have hll1 : l1.length ≤ l.length := by
      cases l with
      | nil => cases hm1
      | cons c r => unfold mrkR at hm1; simp only at hm1; split at hm1 <;> cases hm1; simp
    have R1 := R0.next hc1 hg1
    have HN := number_any (w.heap.size + 1) l1 T x w1 R1.err R1.cur (by omega)
    clear HM
    dsimp only
    go_wp2_with fail
    refine HN.mono ?_
    rintro e w2 hs
    rcases hs with ⟨⟨ya, l2⟩, hn2, rfl, hc2, hg2⟩ | ⟨hn2, rfl, hg2⟩
    · have hl2 := numR_len hn2
      have R2 := R1.next hc2 hg2
      have HN := number_any (w.heap.size + 1) l2 T x w2 R2.err R2.cur (by dsimp only at hl2; omega)
      dsimp only
      go_wp2_with fail
      refine HN.mono ?_
      rintro e w3 hs
      rcases hs with ⟨⟨yb, l3⟩, hn3, rfl, hc3, hg3⟩ | ⟨hn3, rfl, hg3⟩
      · have hl3 := numR_len hn3
        have R3 := R2.next hc3 hg3
        have HN := number_any (w.heap.size + 1) l3 T x w3 R3.err R3.cur (by dsimp only at hl2 hl3; omega)
        dsimp only
        go_wp2_with fail
        refine HN.mono ?_
        rintro e w4 hs
        rcases hs with ⟨⟨yc, l4⟩, hn4, rfl, hc4, hg4⟩ | ⟨hn4, rfl, hg4⟩
        · have hl4 := numR_len hn4
          have R4 := R3.next hc4 hg4
          have HN := piece_any (w.heap.size + 1) l4 T x w4 R4.err R4.cur (by dsimp only at hl2 hl3 hl4; omega)
          dsimp only
          go_wp2_with fail
          refine HN.mono ?_
          rintro e w5 hs
          rcases hs with ⟨⟨yd, l5⟩, hn5, rfl, hc5, hg5⟩ | ⟨hn5, rfl, hg5⟩
          · have hl5 := pieR_len hn5
            have R5 := R4.next hc5 hg5
            dsimp only at hl2 hl3 hl4 hl5 ⊢
            have hino : inoRd l = (numR l5).bind fun n => (entsR n.1.toNat n.2).bind fun e => some ⟨ya, yb, yc, bA yd, e.1⟩ := by
              unfold inoRd; rw [hm1]; simp only [Option.bind_some]; rw [hn2]; simp only [Option.bind_some]; rw [hn3]; simp only [Option.bind_some]; rw [hn4]; simp only [Option.bind_some]; rw [hn5]; simp only [Option.bind_some]
            generalize bA yd = ds at *
            have hw5 := R5.g.size
            have B5 := below_lit w5 (.cells #[.int .i64 ya, .int .i64 yb, .int .i64 yc, .string ds, .slice none 0 0] 59)
            have ST : RiSt w w5.heap.size ya yb yc ds (.slice none 0 0) [] T x l5 (w5.alloc (.cells #[.int .i64 ya, .int .i64 yb, .int .i64 yc, .string ds, .slice none 0 0] 59)) :=
              ⟨R5.cur.below B5, (B5.block _ (by omega)).trans ((R5.g.block _ (by omega) (by simp)).trans hres), (MapKept.heap_alloc w5 _).1, ⟨rfl, .inl ⟨rfl, rfl⟩⟩, R5.err.below B5, R5.tabs.below B5, R5.crc.below B5, (HG.out w5 R5.g).trans (B5.mono (HG.out w5 R5.g).size), by omega, hE, hT, hC⟩
            have HN := number_any (w.heap.size + 1) l5 T x _ ST.err ST.cur (by omega)
            clear hn1 hm1 hn2 hn3 hn4 hn5 hc1 hc2 hc3 hc4 hc5 hg1 hg2 hg3 hg4 hg5 R0 R1 R2 R3 R4
            go_wp2_with fail
            refine HN.mono ?_
            rintro e w6 hs
            rcases hs with ⟨⟨cn, l6⟩, hn6, rfl, hc6, hg6⟩ | ⟨hn6, rfl, hg6⟩
            · have hl6 := numR_len hn6
              have ST6 := ST.next hc6 hg6
              dsimp only at hl6 ⊢
              obtain ⟨n, rfl⟩ : ∃ n : Nat, cn = (n : Int) := ⟨cn.toNat, by omega⟩
              rw [hn6] at hino
              simp only [Option.bind_some, Int.toNat_natCast] at hino
              have HINO : Hid (inoRd l = (entsR n l6).bind fun e => some ⟨ya, yb, yc, ds, e.1⟩) := hino
              have HST6 : Hid (RiSt w w5.heap.size ya yb yc ds (.slice none 0 0) [] T x l6 w6) := ST6
              have hn63 : (n : Int) ≤ 562949953421311 := hl6.2.2
              have hl6' : l6.length ≤ 1048576 := by omega
              clear hino ST ST6 HN hn6 hc6 hg6 R5 hres
              go_wp2
              go_loopw [14] (fun i wr => ∃ (k : Nat) (acc : List En) (u : Value) (r : List UInt8), k ≤ n ∧ i = .int .i64 k ∧ Hid (entsR n l6 = (entsR (n - k) r).map fun q => (acc ++ q.1, q.2)) ∧ acc.length = k ∧ k + r.length ≤ 1048576 ∧ Hid (RiSt w w5.heap.size ya yb yc ds u acc T x r wr)) (fun i _ => n - (intOf i).toNat)
              case atStart => exact ⟨0, [], .slice none 0 0, l6, Nat.zero_le _, rfl, by show _ = _; simp, rfl, by omega, HST6⟩
              case round =>
                obtain ⟨k, acc, u, r, hk, rfl, HEN, hacc, hkr, HST⟩ := hrel
                by_cases hlt : k < n
                · have hlt' : (k : Int) < (n : Int) := by omega
                  have c4 : wr.cell? ⟨w5.heap.size, 4, none⟩ = some u := Joins.cell_of_block HST.out.box 4
                  have SD := HST.out.below ((Below.refl wr.heap.size wr).drew)
                  have HEA := ent_any (w.heap.size + 1) r T x wr.drew SD.tabs SD.crc SD.err SD.cur (by omega)
                  cases hen : entR r with
                  | none =>
                    have HE0 : Calls Tryz.prog 76 #[.pointer (some ⟨w.heap.size + 1, 0, none⟩)] wr.drew fun e w' => e = .panicked [{ v := .iface T x, recovered := false }] ∧ wr.drew.grownBy w' (some (w.heap.size + 1)) := HEA.mono fun e w' h => by
                      rcases h with ⟨p, hp, -⟩ | ⟨-, h⟩
                      · rw [hen] at hp; cases hp
                      · exact h
                    have hres7 : Hid (inoRd l = none) := by show _ = _; rw [HINO.out, ents_none HEN.out hlt hen]; rfl
                    have HB7 : Hid (∀ w', wr.drew.grownBy w' (some (w.heap.size + 1)) → Below w.heap.size w w') := fun w' h => SD.bel.grown h SD.bel.size (fun k hk => by cases hk; omega)
                    clear HEA SD
                    go_wp2
                    have hS0 : wr.drew.cell? ⟨w5.heap.size, 4, none⟩ = some u := c4
                    refine wp_region_held_drew (S := fun w' => w'.cell? ⟨w5.heap.size, 4, none⟩ = some u) (by kernel_rfl) hS0 (fun hHeld => ?_)
                    refine wpAnyH_take (i := 0) (v := .pointer (some ⟨w5.heap.size, 4, none⟩)) rfl (by kernel_rfl) (by kernel_rfl) (by kernel_rfl) (fun _ _ _ h => h) (Or.inl ⟨by rfl, ?_⟩) hHeld ?_
                    · intro w' hS'
                      go_simp
                    refine wpAnyH_take (i := 1) (v := u) rfl (by kernel_rfl) (by kernel_rfl) (by kernel_rfl) (fun _ _ _ h => h) (Or.inl ⟨by rfl, ?_⟩) hHeld ?_
                    · intro w' hS'
                      go_simp
                    refine wpAnyH_ready (rs := [2]) (by kernel_rfl) (by simp) ?_
                    refine AllReadyH.cons rfl (fun K hK => ?_) AllReadyH.nil
                    go_simp
                    refine HE0.mono ?_
                    rintro e w7 ⟨rfl, hg7⟩
                    exact ⟨rfl, HP2.out _ w7 ⟨hres7.out, rfl, HB7.out w7 hg7⟩⟩
                  | some p =>
                    obtain ⟨en, r'⟩ := p
                    have hle := entR_len hen
                    dsimp only at hle
                    have HE0 : Calls Tryz.prog 76 #[.pointer (some ⟨w.heap.size + 1, 0, none⟩)] wr.drew fun e w' => e = .returned (valE en) ∧ RiSt w w5.heap.size ya yb yc ds u acc T x r' w' := HEA.mono fun e w' h => by
                      rcases h with ⟨p, hp, h1, h2, h3⟩ | ⟨hp, -⟩
                      · rw [hen] at hp; cases hp; exact ⟨h1, SD.next h2 h3⟩
                      · rw [hen] at hp; cases hp
                    have HEN' : Hid (entsR n l6 = (entsR (n - (k + 1)) r').map fun q => ((acc ++ [en]) ++ q.1, q.2)) := ents_some HEN.out hlt hen
                    have haccl : acc.length + 1 ≤ 1099511627776 := by omega
                    obtain ⟨n0, n1, n2, n3⟩ := en
                    unfold valE at HE0
                    dsimp only at HE0
                    clear HEA SD
                    go_wp2
                    have c4d : wr.drew.cell? ⟨w5.heap.size, 4, none⟩ = some u := c4
                    go_region_law
                      (first
                      | (go_simp; go_at_call 76; refine HE0.mono ?_; rintro e w7 ⟨rfl, ST7⟩; have c7 : w7.cell? ⟨w5.heap.size, 4, none⟩ = some u := Joins.cell_of_block ST7.box 4; have ST8 := ST7.below (below_lit w7 (.cells #[.int .i64 n0, .int .i64 n1, .string n2, .int .i64 n3] 77)); have c8 : (w7.alloc (.cells #[.int .i64 n0, .int .i64 n1, .string n2, .int .i64 n3] 77)).cell? ⟨w5.heap.size, 4, none⟩ = some u := Joins.cell_of_block ST8.box 4; have hblk8 := (MapKept.heap_alloc w7 (.cells #[.int .i64 n0, .int .i64 n1, .string n2, .int .i64 n3] 77)).1; have hb8 : w5.heap.size + 1 ≤ (w7.alloc (.cells #[.int .i64 n0, .int .i64 n1, .string n2, .int .i64 n3] 77)).heap.size := Nat.le_trans (lt_of_block ST7.box) (by simp); have hq7 : ¬ w5.heap.size = w7.heap.size := (by have := lt_of_block ST7.box; omega); have hq7' : ¬ w7.heap.size = w5.heap.size := (by omega); dsimp only)
                      | ((refine step_append_ent (by rfl) (.tmp 17) (.tmp 19) (by rfl) (w5.heap.size + 1) u acc ⟨n0, n1, n2, n3⟩ ST8.row (by rfl) w7.heap.size 1 (by rfl) hblk8 haccl hb8 ?_; intro v' w9 hr9 hg9; obtain ⟨⟨c9, f9⟩, ST9⟩ := ST8.app hg9 hr9; obtain ⟨va, vc, hv9, -, -⟩ := hr9.at; rw [List.length_append, List.length_singleton, hacc] at hv9; subst hv9; have ST9 : Hid (RiSt w w5.heap.size ya yb yc ds (.slice va (k + 1) vc) (acc ++ [⟨n0, n1, n2, n3⟩]) T x r' (w9.setCell ⟨w5.heap.size, 4, none⟩ (.slice va (k + 1) vc))) := ST9)))
                    all_goals go_wp2
                    all_goals go_roundw
                    all_goals first
                      | exact ⟨k + 1, acc ++ [⟨n0, n1, n2, n3⟩], _, r', by omega, by go_num, HEN', by simp; omega, by omega, ST9⟩
                      | (simp [intOf]; omega)
                · obtain rfl : k = n := by omega
                  have hz := HEN.out
                  rw [Nat.sub_self, entsR] at hz
                  simp only [Option.map_some, List.append_nil] at hz
                  have hres8 : Hid (inoRd l = some ⟨ya, yb, yc, ds, acc⟩) := by show _ = _; rw [HINO.out, hz]; rfl
                  have st := HST.out
                  obtain ⟨ua, uc, hu, -, -⟩ := st.row.at
                  rw [hacc] at hu
                  subst hu
                  have b0 : wr.cell? ⟨w5.heap.size, 0, none⟩ = some (.int .i64 ya) := Joins.cell_of_block st.box 0
                  have b1 : wr.cell? ⟨w5.heap.size, 1, none⟩ = some (.int .i64 yb) := Joins.cell_of_block st.box 1
                  have b2 : wr.cell? ⟨w5.heap.size, 2, none⟩ = some (.int .i64 yc) := Joins.cell_of_block st.box 2
                  have b3 : wr.cell? ⟨w5.heap.size, 3, none⟩ = some (.string ds) := Joins.cell_of_block st.box 3
                  have b4 : wr.cell? ⟨w5.heap.size, 4, none⟩ = some (.slice ua k uc) := Joins.cell_of_block st.box 4
                  have q0 := Joins.cell_of_block st.res 0
                  have q1 := Joins.cell_of_block st.res 1
                  have q2 := Joins.cell_of_block st.res 2
                  have q3 := Joins.cell_of_block st.res 3
                  have q4 := Joins.cell_of_block st.res 4
                  have qf := fun i => Joins.unfrozen_of_block st.res i
                  dsimp at q0 q1 q2 q3 q4
                  have hlt5 := st.lt
                  obtain ⟨hgg, K5, hbb⟩ := put5W_facts (.int .i64 ya) (.int .i64 yb) (.int .i64 yc) (.string ds) (.slice ua k uc) st.bel st.res st.row (by omega)
                  have HR8 : Hid (SaysI (inoRd l) T x w (.returned (.agg #[.int .i64 ya, .int .i64 yb, .int .i64 yc, .string ds, .slice ua k uc])) (put5W wr w.heap.size (.int .i64 ya) (.int .i64 yb) (.int .i64 yc) (.string ds) (.slice ua k uc))) := HR.out ⟨ya, yb, yc, ds, acc⟩ (.slice ua k uc) _ ⟨hres8.out, K5, hbb⟩
                  have HGG : Hid ((put5W wr w.heap.size (.int .i64 ya) (.int .i64 yb) (.int .i64 yc) (.string ds) (.slice ua k uc)).heap[w.heap.size]? = some (.cells #[.int .i64 ya, .int .i64 yb, .int .i64 yc, .string ds, .slice ua k uc] 59 (0, 0))) := hgg
                  clear st HST hz hgg K5 hbb HR HP HP2 HINO
                  go_wp2
                  change bodyPost _ _ _ _ _ (put5W wr w.heap.size (.int .i64 ya) (.int .i64 yb) (.int .i64 yc) (.string ds) (.slice ua k uc))
                  generalize put5W wr w.heap.size (.int .i64 ya) (.int .i64 yb) (.int .i64 yc) (.string ds) (.slice ua k uc) = wz at *
                  generalize inoRd l = oz at *
                  exact bodyPost_ret (results_ino Tryz.results57 _ _ w.heap.size _ rfl rfl HGG.out) rfl HR8.out
            · have hres6 : Hid (inoRd l = none) := by show _ = _; rw [hino, hn6]; rfl
              have B6 := (ST.bel).grown hg6 ST.bel.size (fun k hk => by cases hk; omega)
              go_wp2
              exact ⟨rfl, HP2.out _ w6 ⟨hres6.out, rfl, B6⟩⟩
          · have hres5 : Hid (inoRd l = none) := by show _ = _; unfold inoRd; rw [hm1]; simp only [Option.bind_some]; rw [hn2]; simp only [Option.bind_some]; rw [hn3]; simp only [Option.bind_some]; rw [hn4]; simp only [Option.bind_some]; rw [hn5]; rfl
            go_wp2
            exact ⟨rfl, HP.out _ w5 ⟨hres5.out, rfl, gbr_trans R4.g hg5⟩⟩
        · have hres4 : Hid (inoRd l = none) := by show _ = _; unfold inoRd; rw [hm1]; simp only [Option.bind_some]; rw [hn2]; simp only [Option.bind_some]; rw [hn3]; simp only [Option.bind_some]; rw [hn4]; rfl
          go_wp2
          exact ⟨rfl, HP.out _ w4 ⟨hres4.out, rfl, gbr_trans R3.g hg4⟩⟩
      · have hres3 : Hid (inoRd l = none) := by show _ = _; unfold inoRd; rw [hm1]; simp only [Option.bind_some]; rw [hn2]; simp only [Option.bind_some]; rw [hn3]; rfl
        go_wp2
        exact ⟨rfl, HP.out _ w3 ⟨hres3.out, rfl, gbr_trans R2.g hg3⟩⟩
    · have hres2 : Hid (inoRd l = none) := by show _ = _; unfold inoRd; rw [hm1]; simp only [Option.bind_some]; rw [hn2]; rfl
      go_wp2
      exact ⟨rfl, HP.out _ w2 ⟨hres2.out, rfl, gbr_trans R1.g hg2⟩⟩
  · have hm1 : mrkR 105 l = none := Option.map_eq_none_iff.1 hn1
    have hres1 : Hid (inoRd l = none) := by show _ = _; unfold inoRd; rw [hm1]; rfl
    go_wp2
    exact ⟨rfl, HP.out _ w1 ⟨hres1.out, rfl, hg1⟩⟩
end

end Go.Proofs.YtpijjinoeghgoaaGreatDoor
