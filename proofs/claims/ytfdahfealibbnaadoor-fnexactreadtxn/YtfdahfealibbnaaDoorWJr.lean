/- Journals: laws.FnExactReadTxn: the walk. -/
import Derived.Test.YtfdahfealibbnaaDoorRows
import Derived.Test.YtfdahfealibbnaaDoorWJs
import Derived.Test.YtfdahfealibbnaaDoorSJr
import Derived.Test.YtfdahfealibbnaaDoorIJs
namespace Go.Proofs.YtfdahfealibbnaaDoor
open Go.RowKit Go.Sort

def txO (o : Option Tx) : Tx := o.getD ⟨0, []⟩
theorem SaysR.one {o : Option Tx} {w w' : World} {e : Ending} (h : SaysR o w e w') : ∃ u, e = .returned (.tuple #[.agg #[.int .i64 (txO o).seq, u], .bool o.isSome]) ∧ WrRow w' w.heap.size u (txO o).outs ∧ Below w.heap.size w w' := by
  rcases h with ⟨t, u, rfl, h1, h2, h3⟩ | ⟨rfl, h1, h2⟩
  · exact ⟨u, h1, h2, h3⟩
  · exact ⟨.slice none 0 0, h1, nil_wrs _ _, h2⟩
theorem txO_len (s : ByteArray) : (txO (readT s)).outs.length ≤ 17 := by
  cases h : readT s with
  | none => simp [txO]
  | some t =>
    obtain ⟨h1, h2, h3⟩ := readT_is h
    exact (txnB_parts (showN_back h1 h2).1).2.1.2
theorem VarT.gb {p : Nat} {sq : Int} {s : Value} {B : Nat} {l : List Wr} {W W' : World} {r : Option Nat} (h : VarT p sq s B l W) (g : W.grownBy W' r) (hr : ∀ q, r = some q → q < B ∨ p < q) (hB : B ≤ p) : VarT p sq s B l W' :=
  ⟨(g.block _ (lt_of_block h.hp) (fun e => by have := hr p e.symm; omega)).trans h.hp, own_gb h.r g (fun q hq e => by have := hr q e; have := h.t q hq; have := (World.ownsRow.lt h.r q hq).1; omega), h.t⟩
theorem VarT.marked {p : Nat} {sq : Int} {s : Value} {B : Nat} {l l' : List Wr} {W W' : World} (h : VarT p sq s B l W) (g : W.grownBy W' s.ownBlock) (r : WrRow W' B s l') : VarT p sq s B l' W' :=
  ⟨(g.block _ (lt_of_block h.hp) (fun e => by have := h.t p e.symm; omega)).trans h.hp, r, h.t⟩

set_option maxRecDepth 100000 in
set_option maxHeartbeats 2000000 in
theorem wReadTxn (s : ByteArray) (T : TypeId) (x : Value) (w : World) (hC : CrcTab w) (hE : ErrV w T x) :
    Calls Tryd.prog 4 #[.string s] w fun e w' => e = .returned (.bool true) ∧ Below w.heap.size w w' := by
  by_cases hbig : 1048576 < s.size
  · have hb : (1048576 : Int) < (s.size : Int) := by omega
    go_enter Tryd.func4, Tryd.ntmps4
    go_wp2
    go_ret
    exact ⟨rfl, Below.refl _ _⟩
  · have hb : ¬ ((1048576 : Int) < (s.size : Int)) := by omega
    have HS := fun w' => (sReadTxn s w' (by omega)).mono fun e w'' h => SaysR.one h
    have HI := fun w' (b : Below w.heap.size w w') => (iReadTxn s T x w' (hC.below b) (hE.below b) (by omega)).mono fun e w'' h => SaysR.one h
    have hln := txO_len s
    generalize (readT s).isSome = f at *
    generalize txO (readT s) = t at *
    obtain ⟨sq, l⟩ := t
    dsimp only at *
    have HEQ := fun u v w' h1 h2 => eqTxn_same sq u v l w' (by omega) h1 h2
    have hff : (f != f) = false := by simp
    go_enter Tryd.func4, Tryd.ntmps4
    go_wp2_with fail
    refine (HS w).mono ?_
    rintro e w1 ⟨u1, rfl, r1, b1⟩
    obtain ⟨sa, sn, sc, rfl⟩ := wr_slice r1
    have BL1 := below_lit w1 (.cells #[.int .i64 sq, .slice sa sn sc] 29)
    have B1 := b1.trans (BL1.mono b1.size)
    have sv1 : VarT w1.heap.size sq (.slice sa sn sc) w.heap.size l (w1.alloc (.cells #[.int .i64 sq, .slice sa sn sc] 29)) := VarT.new r1
    have hs1 : (w1.alloc (.cells #[.int .i64 sq, .slice sa sn sc] 29)).heap.size = w1.heap.size + 1 := by simp
    have HI1 := HI _ B1
    rw [hs1] at HI1
    have z1 := b1.size
    clear r1 b1
    go_wp2_with fail
    refine HI1.mono ?_
    rintro e w2 ⟨u2, rfl, r2, b2⟩
    obtain ⟨ga, gn, gc, rfl⟩ := wr_slice r2
    have b2' := b2
    rw [← hs1] at b2'
    have BL2 := below_lit w2 (.cells #[.int .i64 sq, .slice ga gn gc] 29)
    have B2 := (B1.trans (b2'.mono B1.size)).trans (BL2.mono (Nat.le_trans B1.size b2'.size))
    have sv2 := (sv1.below b2').below BL2
    have gv2 : VarT w2.heap.size sq (.slice ga gn gc) (w1.heap.size + 1) l (w2.alloc (.cells #[.int .i64 sq, .slice ga gn gc] 29)) := VarT.new r2
    have hs2 : (w2.alloc (.cells #[.int .i64 sq, .slice ga gn gc] 29)).heap.size = w2.heap.size + 1 := by simp
    have z2 := b2.size
    rw [hs1] at z2
    have HE2 := HEQ _ _ _ gv2.r.at sv2.r.at
    rw [hs2] at HE2
    obtain ⟨x0, x1⟩ := sv2.cells
    obtain ⟨y0, y1⟩ := gv2.cells
    clear sv1 HI1 r2 b2 b2' BL1 BL2 hs1
    go_wp2_with fail
    refine HE2.mono ?_
    rintro e w3 ⟨rfl, b3⟩
    rw [← hs2] at b3
    have B3 := B2.trans (b3.mono B2.size)
    have sv3 := sv2.below b3
    have gv3 := gv2.below b3
    have z3 := b3.size
    rw [hs2] at z3
    have HM := markTxn_any sq (.slice ga gn gc) l 1 (w1.heap.size + 1) w3 gv3.r (by omega) (by decide) (by decide)
    have HH := fun w' h => heldTxn_marks sq (.slice ga gn gc) l.length 1 w' (by omega) (by decide) (by decide) h
    have HH : ∀ w', WrsAt w' (.slice ga gn gc) (marksW 1 l.length) → Calls Tryd.prog 14 #[.agg #[.int .i64 sq, .slice ga gn gc], .int .i64 1] w' fun e w'' => e = .returned (.int .i64 ((1 + 2 * l.length : Nat) : Int)) ∧ Below w'.heap.size w' w'' := HH
    obtain ⟨nm, HNM⟩ : ∃ nm : Nat, Hid (nm = 1 + 2 * l.length) := ⟨_, rfl⟩
    rw [← HNM.out] at HM HH
    generalize marksW 1 l.length = mW at HM HH
    have hnn : ¬ ((nm : Int) < 0) := by omega
    obtain ⟨y0, y1⟩ := gv3.cells
    clear sv2 gv2 HE2 b3 hs2 x0 x1
    go_wp2_with fail
    refine HM.mono ?_
    rintro e w4 ⟨rfl, r4, g4⟩
    have hr4 : ∀ q, (Value.slice ga gn gc).ownBlock = some q → w1.heap.size < q ∧ q < w2.heap.size := fun q hq => ⟨(World.ownsRow.lt gv3.r q hq).1, gv3.t q hq⟩
    have B4 : Below w.heap.size w w4 := B3.grown g4 B3.size (fun q hq => by have := hr4 q hq; omega)
    have sv4 := sv3.gb g4 (fun q hq => .inr (hr4 q hq).1) (by omega)
    have gm4 := gv3.marked g4 r4
    obtain ⟨y0, y1⟩ := gm4.cells
    clear sv3 gv3 HM g4 r4
    go_wp2_with fail
    refine (HH w4 gm4.r.at).mono ?_
    rintro e w5 ⟨rfl, b5⟩
    have B5 := B4.trans (b5.mono B4.size)
    have sv5 := sv4.below b5
    have gm5 := gm4.below b5
    clear sv4 gm4 b5 y0 y1
    go_wp2_with fail
    refine (HI w5 B5).mono ?_
    rintro e w6 ⟨u6, rfl, r6, b6⟩
    obtain ⟨ha, hn, hc, rfl⟩ := wr_slice r6
    have BL6 := below_lit w6 (.cells #[.int .i64 sq, .slice ha hn hc] 29)
    have B6 := (B5.trans (b6.mono B5.size)).trans (BL6.mono (Nat.le_trans B5.size b6.size))
    have sv6 := (sv5.below b6).below BL6
    have gm6 := (gm5.below b6).below BL6
    have hv6 : VarT w6.heap.size sq (.slice ha hn hc) w5.heap.size l (w6.alloc (.cells #[.int .i64 sq, .slice ha hn hc] 29)) := VarT.new r6
    have hs6 : (w6.alloc (.cells #[.int .i64 sq, .slice ha hn hc] 29)).heap.size = w6.heap.size + 1 := by simp
    have HE6 := HEQ _ _ _ hv6.r.at sv6.r.at
    rw [hs6] at HE6
    obtain ⟨x0, x1⟩ := sv6.cells
    obtain ⟨y0, y1⟩ := hv6.cells
    clear sv5 gm5 r6 b6 BL6
    go_wp2_with fail
    refine HE6.mono ?_
    rintro e w7 ⟨rfl, b7⟩
    rw [← hs6] at b7
    have B7 := B6.trans (b7.mono B6.size)
    have gm7 := gm6.below b7
    obtain ⟨y0, y1⟩ := gm7.cells
    clear sv6 gm6 hv6 HE6 x0 x1 b7 hs6
    go_wp2_with fail
    refine (HH w7 gm7.r.at).mono ?_
    rintro e w8 ⟨rfl, b8⟩
    go_wp2
    go_ret
    exact ⟨rfl, B7.trans (b8.mono B7.size)⟩

end Go.Proofs.YtfdahfealibbnaaDoor
