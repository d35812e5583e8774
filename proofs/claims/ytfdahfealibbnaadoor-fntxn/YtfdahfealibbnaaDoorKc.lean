/- Journals: laws.FnExactShowTxn: the walk. Journals: laws.FnExactReadTxn: the walk. -/
import Derived.Test.YtfdahfealibbnaaDoorRows
import Derived.Test.YtfdahfealibbnaaDoorLTx
import Derived.Test.YtfdahfealibbnaaDoorIJp
import Derived.Test.YtfdahfealibbnaaDoorKa
import Derived.Test.YtfdahfealibbnaaDoorKb
namespace Go.Proofs.YtfdahfealibbnaaDoor

section
open Go.RowKit Go.Sort

/-- the law's argument in its box -/
structure ArgT (w : World) (a b : Value) (W : World) : Prop where
  bel : Below w.heap.size w W
  hp : W.heap[w.heap.size]? = some (.cells #[a, b] 24)
theorem ArgT.below {w : World} {a b : Value} {W W' : World} (h : ArgT w a b W) (bb : Below W.heap.size W W') : ArgT w a b W' := ⟨h.bel.trans (bb.mono h.bel.size), (bb.block _ (lt_of_block h.hp)).trans h.hp⟩
theorem ArgT.cells {w : World} {a b : Value} {W : World} (h : ArgT w a b W) : W.cell? ⟨w.heap.size, 0, none⟩ = some a ∧ W.cell? ⟨w.heap.size, 1, none⟩ = some b := blk2 h.hp
theorem ArgT.start (w : World) (a b : Value) : ArgT w a b (w.alloc (.cells #[a, b] 24)) := ⟨below_lit _ _, (MapKept.heap_alloc _ _).1⟩
/-- a transaction in a variable of the law: its box at p, its row from B on -/
structure VarT (p : Nat) (sq : Int) (s : Value) (B : Nat) (l : List Wr) (W : World) : Prop where
  hp : W.heap[p]? = some (.cells #[.int .i64 sq, s] 29)
  r : WrRow W B s l
  t : ∀ q, s.ownBlock = some q → q < p
theorem VarT.below {p : Nat} {sq : Int} {s : Value} {B : Nat} {l : List Wr} {W W' : World} (h : VarT p sq s B l W) (bb : Below W.heap.size W W') : VarT p sq s B l W' := ⟨(bb.block _ (lt_of_block h.hp)).trans h.hp, h.r.below bb, h.t⟩
theorem VarT.cells {p : Nat} {sq : Int} {s : Value} {B : Nat} {l : List Wr} {W : World} (h : VarT p sq s B l W) : W.cell? ⟨p, 0, none⟩ = some (.int .i64 sq) ∧ W.cell? ⟨p, 1, none⟩ = some s := blk2 h.hp
theorem VarT.new {sq : Int} {s : Value} {B : Nat} {l : List Wr} {W : World} (h : WrRow W B s l) : VarT W.heap.size sq s B l (W.alloc (.cells #[.int .i64 sq, s] 29)) :=
  ⟨(MapKept.heap_alloc _ _).1, h.below (below_lit _ _), fun q hq => (World.ownsRow.lt h q hq).2⟩
theorem wr_slice {W : World} {B : Nat} {s : Value} {l : List Wr} (h : WrRow W B s l) : ∃ a n c, s = .slice a n c := by
  obtain ⟨a, c, h1, -, -⟩ := h.at
  exact ⟨a, _, c, h1⟩

set_option maxRecDepth 100000 in
set_option maxHeartbeats 2000000 in
theorem wShowTxn (sq : Int) (v : Value) (l : List Wr) (w : World) (hC : CrcTab w) (hv : WrsAt w v l) (hl : l.length ≤ 9223372036854775807) (hs : ∀ t, t < l.length → l[t]!.text.size ≤ 9223372036854775807) :
    Calls Tryd.prog 3 #[.agg #[.int .i64 sq, v]] w fun e w' => e = .returned (.bool true) ∧ Below w.heap.size w w' := by
  have HA : ∀ w', Below w.heap.size w w' → WrsAt w' v l := fun w' h => hv.below h
  have AR := ArgT.start w (.int .i64 sq) v
  have hs0 : (w.alloc (.cells #[.int .i64 sq, v] 24)).heap.size = w.heap.size + 1 := by simp
  have HZ := szTxn_any sq v l _ (HA _ AR.bel) hl hs
  rw [hs0] at HZ
  have HS := fun s w' (h : WrsAt w' s l) => sShowTxn (.agg #[.int .i64 sq, s]) ⟨sq, l⟩ w' ⟨s, rfl, h⟩
  have HI := fun s w' (b : Below w.heap.size w w') (h : WrsAt w' s l) => iShowTxn (.agg #[.int .i64 sq, s]) ⟨sq, l⟩ w' hl (hC.below b) ⟨s, rfl, h⟩
  generalize showN ⟨sq, l⟩ = T at HS HI
  obtain ⟨va, vc, hvv, -, -⟩ := hv
  generalize hn0 : l.length = n0 at hvv
  subst hvv
  go_enter Tryd.func3, Tryd.ntmps3
  go_wp2_with fail
  refine HZ.mono ?_
  rintro e w1 ⟨q, rfl, ⟨hq0, hq1⟩, HQ, b1⟩
  have ar1 := AR.below (by rw [hs0]; exact b1)
  by_cases hq : q < 0
  · go_wp2
    go_ret
    exact ⟨rfl, ar1.bel⟩
  · obtain ⟨hla, -⟩ := HQ.out (by omega)
    have HTO := fun w' (h : Below w.heap.size w w') => toTxn_any sq _ l w' hla (HA w' h)
    have HEQ := fun u v w' h1 h2 => eqTxn_same sq u v l w' (by omega) h1 h2
    clear HQ HZ AR
    obtain ⟨c0, c1⟩ := ar1.cells
    go_wp2_with fail
    refine (HTO w1 ar1.bel).mono ?_
    rintro e w2 ⟨u2, rfl, r2, b2⟩
    have ar2 := ar1.below b2
    go_wp2_with fail
    refine (HS _ w2 r2.at).mono ?_
    rintro e w3 ⟨rfl, b3⟩
    have ar3 := ar2.below b3
    obtain ⟨c0, c1⟩ := ar3.cells
    go_wp2_with fail
    refine (HTO w3 ar3.bel).mono ?_
    rintro e w4 ⟨u4, rfl, r4, b4⟩
    obtain ⟨ga, m1, gc, rfl⟩ := wr_slice r4
    have BL4 := below_lit w4 (.cells #[.int .i64 sq, .slice ga m1 gc] 29)
    have ar4 := (ar3.below b4).below BL4
    have vt4 : VarT w4.heap.size sq (.slice ga m1 gc) w3.heap.size l (w4.alloc (.cells #[.int .i64 sq, .slice ga m1 gc] 29)) := VarT.new r4
    have hs4 : (w4.alloc (.cells #[.int .i64 sq, .slice ga m1 gc] 29)).heap.size = w4.heap.size + 1 := by simp
    have HI4 := HI _ _ ar4.bel vt4.r.at
    rw [hs4] at HI4
    go_wp2_with fail
    refine HI4.mono ?_
    rintro e w5 ⟨rfl, b5⟩
    have ar5 := ar4.below (by rw [hs4]; exact b5)
    have vt5 := vt4.below (by rw [hs4]; exact b5)
    obtain ⟨c0, c1⟩ := ar5.cells
    obtain ⟨e0, e1⟩ := vt5.cells
    have hrr : (T.toList == T.toList) = true := by simp
    have HTO5 := HTO w5.drew (ar5.below (Below.refl _ _).drew).bel
    have AR5 : Hid (ArgT w (.int .i64 sq) (.slice va n0 vc) w5) := ar5
    have VT5 : Hid (VarT w4.heap.size sq (.slice ga m1 gc) w3.heap.size l w5) := vt5
    clear ar1 ar2 ar3 ar4 ar5 vt4 vt5 HI4 r2 r4 HI HS HTO
    go_wp2_with fail
    go_region_held3 (fun w' => (w'.cell? ⟨w4.heap.size, 0, none⟩ = some (.int .i64 sq) ∧ w'.cell? ⟨w4.heap.size, 1, none⟩ = some (.slice ga m1 gc)) ∧ (w'.cell? ⟨w.heap.size, 0, none⟩ = some (.int .i64 sq) ∧ w'.cell? ⟨w.heap.size, 1, none⟩ = some (.slice va n0 vc))) (go_keep)
      (first
      | (go_at_call 8; refine HTO5.mono ?_; rintro e w7 ⟨u7, rfl, r7, b7⟩; have b7' := (Below.refl _ _).drew.trans b7; have ar7 := AR5.out.below b7'; have vt7 := VT5.out.below b7'; obtain ⟨c0, c1⟩ := ar7.cells; obtain ⟨e0, e1⟩ := vt7.cells; have AR7 : Hid (ArgT w (.int .i64 sq) (.slice va n0 vc) w7) := ar7; have VT7 : Hid (VarT w4.heap.size sq (.slice ga m1 gc) w3.heap.size l w7) := vt7; clear ar7 vt7)
      | (go_at_call 10; refine (HEQ _ _ _ VT7.out.r.at r7.at).mono ?_; rintro e w8 ⟨rfl, b8⟩; have ar8 := AR7.out.below b8; have vt8 := VT7.out.below b8; obtain ⟨c0, c1⟩ := ar8.cells; obtain ⟨e0, e1⟩ := vt8.cells))
    go_wp2
    go_ret
    exact ⟨rfl, ar8.bel⟩
end

section
open Go.RowKit Go.Sort

def txO (o : Option Tx) : Tx := o.getD ⟨0, []⟩
theorem SaysR.one {o : Option Tx} {w w' : World} {e : Ending} (h : SaysR o w e w') : ∃ u, e = .returned (.tuple #[.agg #[.int .i64 (txO o).seq, u], .bool o.isSome]) ∧ WrRow w' w.heap.size u (txO o).outs ∧ Below w.heap.size w w' := by
  rcases h with ⟨t, u, rfl, h1, h2, h3⟩ | ⟨rfl, h1, h2⟩
  · exact ⟨u, h1, h2, h3⟩
  · exact ⟨.slice none 0 0, h1, nil_wrs _ _, h2⟩
theorem txO_len (s : ByteArray) : (txO (readT s)).outs.length ≤ 17 := by
  cases h : readT s with
  | none => simp [txO]
  | some t =>
    obtain ⟨h1, h2, h3⟩ := readT_is h
    exact (txnB_parts (showN_back h1 h2).1).2.1.2
theorem VarT.gb {p : Nat} {sq : Int} {s : Value} {B : Nat} {l : List Wr} {W W' : World} {r : Option Nat} (h : VarT p sq s B l W) (g : W.grownBy W' r) (hr : ∀ q, r = some q → q < B ∨ p < q) (hB : B ≤ p) : VarT p sq s B l W' :=
  ⟨(g.block _ (lt_of_block h.hp) (fun e => by have := hr p e.symm; omega)).trans h.hp, own_gb h.r g (fun q hq e => by have := hr q e; have := h.t q hq; have := (World.ownsRow.lt h.r q hq).1; omega), h.t⟩
theorem VarT.marked {p : Nat} {sq : Int} {s : Value} {B : Nat} {l l' : List Wr} {W W' : World} (h : VarT p sq s B l W) (g : W.grownBy W' s.ownBlock) (r : WrRow W' B s l') : VarT p sq s B l' W' :=
  ⟨(g.block _ (lt_of_block h.hp) (fun e => by have := h.t p e.symm; omega)).trans h.hp, r, h.t⟩

set_option maxRecDepth 100000 in
set_option maxHeartbeats 2000000 in
theorem wReadTxn (s : ByteArray) (T : TypeId) (x : Value) (w : World) (hC : CrcTab w) (hE : ErrV w T x) :
    Calls Tryd.prog 4 #[.string s] w fun e w' => e = .returned (.bool true) ∧ Below w.heap.size w w' := by
  by_cases hbig : 1048576 < s.size
  · have hb : (1048576 : Int) < (s.size : Int) := by omega
    go_enter Tryd.func4, Tryd.ntmps4
    go_wp2
    go_ret
    exact ⟨rfl, Below.refl _ _⟩
  · have hb : ¬ ((1048576 : Int) < (s.size : Int)) := by omega
    have HS := fun w' => (sReadTxn s w' (by omega)).mono fun e w'' h => SaysR.one h
    have HI := fun w' (b : Below w.heap.size w w') => (iReadTxn s T x w' (hC.below b) (hE.below b) (by omega)).mono fun e w'' h => SaysR.one h
    have hln := txO_len s
    generalize (readT s).isSome = f at *
    generalize txO (readT s) = t at *
    obtain ⟨sq, l⟩ := t
    dsimp only at *
    have HEQ := fun u v w' h1 h2 => eqTxn_same sq u v l w' (by omega) h1 h2
    have hff : (f != f) = false := by simp
    go_enter Tryd.func4, Tryd.ntmps4
    go_wp2_with fail
    refine (HS w).mono ?_
    rintro e w1 ⟨u1, rfl, r1, b1⟩
    obtain ⟨sa, sn, sc, rfl⟩ := wr_slice r1
    have BL1 := below_lit w1 (.cells #[.int .i64 sq, .slice sa sn sc] 29)
    have B1 := b1.trans (BL1.mono b1.size)
    have sv1 : VarT w1.heap.size sq (.slice sa sn sc) w.heap.size l (w1.alloc (.cells #[.int .i64 sq, .slice sa sn sc] 29)) := VarT.new r1
    have hs1 : (w1.alloc (.cells #[.int .i64 sq, .slice sa sn sc] 29)).heap.size = w1.heap.size + 1 := by simp
    have HI1 := HI _ B1
    rw [hs1] at HI1
    have z1 := b1.size
    clear r1 b1
    go_wp2_with fail
    refine HI1.mono ?_
    rintro e w2 ⟨u2, rfl, r2, b2⟩
    obtain ⟨ga, gn, gc, rfl⟩ := wr_slice r2
    have b2' := b2
    rw [← hs1] at b2'
    have BL2 := below_lit w2 (.cells #[.int .i64 sq, .slice ga gn gc] 29)
    have B2 := (B1.trans (b2'.mono B1.size)).trans (BL2.mono (Nat.le_trans B1.size b2'.size))
    have sv2 := (sv1.below b2').below BL2
    have gv2 : VarT w2.heap.size sq (.slice ga gn gc) (w1.heap.size + 1) l (w2.alloc (.cells #[.int .i64 sq, .slice ga gn gc] 29)) := VarT.new r2
    have hs2 : (w2.alloc (.cells #[.int .i64 sq, .slice ga gn gc] 29)).heap.size = w2.heap.size + 1 := by simp
    have z2 := b2.size
    rw [hs1] at z2
    have HE2 := HEQ _ _ _ gv2.r.at sv2.r.at
    rw [hs2] at HE2
    obtain ⟨x0, x1⟩ := sv2.cells
    obtain ⟨y0, y1⟩ := gv2.cells
    clear sv1 HI1 r2 b2 b2' BL1 BL2 hs1
    go_wp2_with fail
    refine HE2.mono ?_
    rintro e w3 ⟨rfl, b3⟩
    rw [← hs2] at b3
    have B3 := B2.trans (b3.mono B2.size)
    have sv3 := sv2.below b3
    have gv3 := gv2.below b3
    have z3 := b3.size
    rw [hs2] at z3
    have HM := markTxn_any sq (.slice ga gn gc) l 1 (w1.heap.size + 1) w3 gv3.r (by omega) (by decide) (by decide)
    have HH := fun w' h => heldTxn_marks sq (.slice ga gn gc) l.length 1 w' (by omega) (by decide) (by decide) h
    have HH : ∀ w', WrsAt w' (.slice ga gn gc) (marksW 1 l.length) → Calls Tryd.prog 14 #[.agg #[.int .i64 sq, .slice ga gn gc], .int .i64 1] w' fun e w'' => e = .returned (.int .i64 ((1 + 2 * l.length : Nat) : Int)) ∧ Below w'.heap.size w' w'' := HH
    obtain ⟨nm, HNM⟩ : ∃ nm : Nat, Hid (nm = 1 + 2 * l.length) := ⟨_, rfl⟩
    rw [← HNM.out] at HM HH
    generalize marksW 1 l.length = mW at HM HH
    have hnn : ¬ ((nm : Int) < 0) := by omega
    obtain ⟨y0, y1⟩ := gv3.cells
    clear sv2 gv2 HE2 b3 hs2 x0 x1
    go_wp2_with fail
    refine HM.mono ?_
    rintro e w4 ⟨rfl, r4, g4⟩
    have hr4 : ∀ q, (Value.slice ga gn gc).ownBlock = some q → w1.heap.size < q ∧ q < w2.heap.size := fun q hq => ⟨(World.ownsRow.lt gv3.r q hq).1, gv3.t q hq⟩
    have B4 : Below w.heap.size w w4 := B3.grown g4 B3.size (fun q hq => by have := hr4 q hq; omega)
    have sv4 := sv3.gb g4 (fun q hq => .inr (hr4 q hq).1) (by omega)
    have gm4 := gv3.marked g4 r4
    obtain ⟨y0, y1⟩ := gm4.cells
    clear sv3 gv3 HM g4 r4
    go_wp2_with fail
    refine (HH w4 gm4.r.at).mono ?_
    rintro e w5 ⟨rfl, b5⟩
    have B5 := B4.trans (b5.mono B4.size)
    have sv5 := sv4.below b5
    have gm5 := gm4.below b5
    clear sv4 gm4 b5 y0 y1
    go_wp2_with fail
    refine (HI w5 B5).mono ?_
    rintro e w6 ⟨u6, rfl, r6, b6⟩
    obtain ⟨ha, hn, hc, rfl⟩ := wr_slice r6
    have BL6 := below_lit w6 (.cells #[.int .i64 sq, .slice ha hn hc] 29)
    have B6 := (B5.trans (b6.mono B5.size)).trans (BL6.mono (Nat.le_trans B5.size b6.size))
    have sv6 := (sv5.below b6).below BL6
    have gm6 := (gm5.below b6).below BL6
    have hv6 : VarT w6.heap.size sq (.slice ha hn hc) w5.heap.size l (w6.alloc (.cells #[.int .i64 sq, .slice ha hn hc] 29)) := VarT.new r6
    have hs6 : (w6.alloc (.cells #[.int .i64 sq, .slice ha hn hc] 29)).heap.size = w6.heap.size + 1 := by simp
    have HE6 := HEQ _ _ _ hv6.r.at sv6.r.at
    rw [hs6] at HE6
    obtain ⟨x0, x1⟩ := sv6.cells
    obtain ⟨y0, y1⟩ := hv6.cells
    clear sv5 gm5 r6 b6 BL6
    go_wp2_with fail
    refine HE6.mono ?_
    rintro e w7 ⟨rfl, b7⟩
    rw [← hs6] at b7
    have B7 := B6.trans (b7.mono B6.size)
    have gm7 := gm6.below b7
    obtain ⟨y0, y1⟩ := gm7.cells
    clear sv6 gm6 hv6 HE6 x0 x1 b7 hs6
    go_wp2_with fail
    refine (HH w7 gm7.r.at).mono ?_
    rintro e w8 ⟨rfl, b8⟩
    go_wp2
    go_ret
    exact ⟨rfl, B7.trans (b8.mono B7.size)⟩
end

end Go.Proofs.YtfdahfealibbnaaDoor
