/- Journals: laws.FnExactShowTxn: the walk. -/
import Derived.Test.YtfdahfealibbnaaDoorRows
import Derived.Test.YtfdahfealibbnaaDoorLTx
import Derived.Test.YtfdahfealibbnaaDoorIJp
namespace Go.Proofs.YtfdahfealibbnaaDoor
open Go.RowKit Go.Sort

/-- the law's argument in its box -/
structure ArgT (w : World) (a b : Value) (W : World) : Prop where
  bel : Below w.heap.size w W
  hp : W.heap[w.heap.size]? = some (.cells #[a, b] 24)
theorem ArgT.below {w : World} {a b : Value} {W W' : World} (h : ArgT w a b W) (bb : Below W.heap.size W W') : ArgT w a b W' := ⟨h.bel.trans (bb.mono h.bel.size), (bb.block _ (lt_of_block h.hp)).trans h.hp⟩
theorem ArgT.cells {w : World} {a b : Value} {W : World} (h : ArgT w a b W) : W.cell? ⟨w.heap.size, 0, none⟩ = some a ∧ W.cell? ⟨w.heap.size, 1, none⟩ = some b := blk2 h.hp
theorem ArgT.start (w : World) (a b : Value) : ArgT w a b (w.alloc (.cells #[a, b] 24)) := ⟨below_lit _ _, (MapKept.heap_alloc _ _).1⟩
/-- a transaction in a variable of the law: its box at p, its row from B on -/
structure VarT (p : Nat) (sq : Int) (s : Value) (B : Nat) (l : List Wr) (W : World) : Prop where
  hp : W.heap[p]? = some (.cells #[.int .i64 sq, s] 29)
  r : WrRow W B s l
  t : ∀ q, s.ownBlock = some q → q < p
theorem VarT.below {p : Nat} {sq : Int} {s : Value} {B : Nat} {l : List Wr} {W W' : World} (h : VarT p sq s B l W) (bb : Below W.heap.size W W') : VarT p sq s B l W' := ⟨(bb.block _ (lt_of_block h.hp)).trans h.hp, h.r.below bb, h.t⟩
theorem VarT.cells {p : Nat} {sq : Int} {s : Value} {B : Nat} {l : List Wr} {W : World} (h : VarT p sq s B l W) : W.cell? ⟨p, 0, none⟩ = some (.int .i64 sq) ∧ W.cell? ⟨p, 1, none⟩ = some s := blk2 h.hp
theorem VarT.new {sq : Int} {s : Value} {B : Nat} {l : List Wr} {W : World} (h : WrRow W B s l) : VarT W.heap.size sq s B l (W.alloc (.cells #[.int .i64 sq, s] 29)) :=
  ⟨(MapKept.heap_alloc _ _).1, h.below (below_lit _ _), fun q hq => (World.ownsRow.lt h q hq).2⟩
theorem wr_slice {W : World} {B : Nat} {s : Value} {l : List Wr} (h : WrRow W B s l) : ∃ a n c, s = .slice a n c := by
  obtain ⟨a, c, h1, -, -⟩ := h.at
  exact ⟨a, _, c, h1⟩

set_option maxRecDepth 100000 in
set_option maxHeartbeats 2000000 in
theorem wShowTxn (sq : Int) (v : Value) (l : List Wr) (w : World) (hC : CrcTab w) (hv : WrsAt w v l) (hl : l.length ≤ 9223372036854775807) (hs : ∀ t, t < l.length → l[t]!.text.size ≤ 9223372036854775807) :
    Calls Tryd.prog 3 #[.agg #[.int .i64 sq, v]] w fun e w' => e = .returned (.bool true) ∧ Below w.heap.size w w' := by
  have HA : ∀ w', Below w.heap.size w w' → WrsAt w' v l := fun w' h => hv.below h
  have AR := ArgT.start w (.int .i64 sq) v
  have hs0 : (w.alloc (.cells #[.int .i64 sq, v] 24)).heap.size = w.heap.size + 1 := by simp
  have HZ := szTxn_any sq v l _ (HA _ AR.bel) hl hs
  rw [hs0] at HZ
  have HS := fun s w' (h : WrsAt w' s l) => sShowTxn (.agg #[.int .i64 sq, s]) ⟨sq, l⟩ w' ⟨s, rfl, h⟩
  have HI := fun s w' (b : Below w.heap.size w w') (h : WrsAt w' s l) => iShowTxn (.agg #[.int .i64 sq, s]) ⟨sq, l⟩ w' hl (hC.below b) ⟨s, rfl, h⟩
  generalize showN ⟨sq, l⟩ = T at HS HI
  obtain ⟨va, vc, hvv, -, -⟩ := hv
  generalize hn0 : l.length = n0 at hvv
  subst hvv
  go_enter Tryd.func3, Tryd.ntmps3
  go_wp2_with fail
  refine HZ.mono ?_
  rintro e w1 ⟨q, rfl, ⟨hq0, hq1⟩, HQ, b1⟩
  have ar1 := AR.below (by rw [hs0]; exact b1)
  by_cases hq : q < 0
  · go_wp2
    go_ret
    exact ⟨rfl, ar1.bel⟩
  · obtain ⟨hla, -⟩ := HQ.out (by omega)
    have HTO := fun w' (h : Below w.heap.size w w') => toTxn_any sq _ l w' hla (HA w' h)
    have HEQ := fun u v w' h1 h2 => eqTxn_same sq u v l w' (by omega) h1 h2
    clear HQ HZ AR
    obtain ⟨c0, c1⟩ := ar1.cells
    go_wp2_with fail
    refine (HTO w1 ar1.bel).mono ?_
    rintro e w2 ⟨u2, rfl, r2, b2⟩
    have ar2 := ar1.below b2
    go_wp2_with fail
    refine (HS _ w2 r2.at).mono ?_
    rintro e w3 ⟨rfl, b3⟩
    have ar3 := ar2.below b3
    obtain ⟨c0, c1⟩ := ar3.cells
    go_wp2_with fail
    refine (HTO w3 ar3.bel).mono ?_
    rintro e w4 ⟨u4, rfl, r4, b4⟩
    obtain ⟨ga, m1, gc, rfl⟩ := wr_slice r4
    have BL4 := below_lit w4 (.cells #[.int .i64 sq, .slice ga m1 gc] 29)
    have ar4 := (ar3.below b4).below BL4
    have vt4 : VarT w4.heap.size sq (.slice ga m1 gc) w3.heap.size l (w4.alloc (.cells #[.int .i64 sq, .slice ga m1 gc] 29)) := VarT.new r4
    have hs4 : (w4.alloc (.cells #[.int .i64 sq, .slice ga m1 gc] 29)).heap.size = w4.heap.size + 1 := by simp
    have HI4 := HI _ _ ar4.bel vt4.r.at
    rw [hs4] at HI4
    go_wp2_with fail
    refine HI4.mono ?_
    rintro e w5 ⟨rfl, b5⟩
    have ar5 := ar4.below (by rw [hs4]; exact b5)
    have vt5 := vt4.below (by rw [hs4]; exact b5)
    obtain ⟨c0, c1⟩ := ar5.cells
    obtain ⟨e0, e1⟩ := vt5.cells
    have hrr : (T.toList == T.toList) = true := by simp
    have HTO5 := HTO w5.drew (ar5.below (Below.refl _ _).drew).bel
    have AR5 : Hid (ArgT w (.int .i64 sq) (.slice va n0 vc) w5) := ar5
    have VT5 : Hid (VarT w4.heap.size sq (.slice ga m1 gc) w3.heap.size l w5) := vt5
    clear ar1 ar2 ar3 ar4 ar5 vt4 vt5 HI4 r2 r4 HI HS HTO
    go_wp2_with fail
    go_region_held3 (fun w' => (w'.cell? ⟨w4.heap.size, 0, none⟩ = some (.int .i64 sq) ∧ w'.cell? ⟨w4.heap.size, 1, none⟩ = some (.slice ga m1 gc)) ∧ (w'.cell? ⟨w.heap.size, 0, none⟩ = some (.int .i64 sq) ∧ w'.cell? ⟨w.heap.size, 1, none⟩ = some (.slice va n0 vc))) (go_keep)
      (first
      | (go_at_call 8; refine HTO5.mono ?_; rintro e w7 ⟨u7, rfl, r7, b7⟩; have b7' := (Below.refl _ _).drew.trans b7; have ar7 := AR5.out.below b7'; have vt7 := VT5.out.below b7'; obtain ⟨c0, c1⟩ := ar7.cells; obtain ⟨e0, e1⟩ := vt7.cells; have AR7 : Hid (ArgT w (.int .i64 sq) (.slice va n0 vc) w7) := ar7; have VT7 : Hid (VarT w4.heap.size sq (.slice ga m1 gc) w3.heap.size l w7) := vt7; clear ar7 vt7)
      | (go_at_call 10; refine (HEQ _ _ _ VT7.out.r.at r7.at).mono ?_; rintro e w8 ⟨rfl, b8⟩; have ar8 := AR7.out.below b8; have vt8 := VT7.out.below b8; obtain ⟨c0, c1⟩ := ar8.cells; obtain ⟨e0, e1⟩ := vt8.cells))
    go_wp2
    go_ret
    exact ⟨rfl, ar8.bel⟩

end Go.Proofs.YtfdahfealibbnaaDoor
