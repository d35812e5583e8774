/- Devices: what the exact laws hold between their calls; laws.FnExactDevOk, FnExactFlush, FnExactCrash: the walks. -/
import Derived.Test.YtpmdhoiodbjojaaRows
import Derived.Test.YtpmdhoiodbjojaaIDu
namespace Go.Proofs.Ytpmdhoiodbjojaa
open Go.RowKit

/-- a device in a variable of the law: its box at p, its rows from B on, all below the box -/
structure VarD (p : Nat) (a b : Value) (B : Nat) (d : Dv) (W : World) : Prop where
  hp : W.heap[p]? = some (.cells #[a, b] 27)
  r : DevRow W B a b d
  ta : ∀ q, a.ownBlock = some q → q < p
  tb : ∀ q, b.ownBlock = some q → q < p
theorem VarD.below {p : Nat} {a b : Value} {B : Nat} {d : Dv} {W W' : World} (h : VarD p a b B d W) (bb : Below W.heap.size W W') : VarD p a b B d W' := ⟨(bb.block _ (lt_of_block h.hp)).trans h.hp, h.r.below bb, h.ta, h.tb⟩
theorem VarD.mid {p : Nat} {a b : Value} {B : Nat} {d : Dv} {W W' : World} {X T : Nat} (h : VarD p a b B d W) (m : MidB X T W W') (hx : p < X ∨ T ≤ B) (hT : B ≤ p) : VarD p a b B d W' := by
  have hb := h.r.blk
  refine ⟨(m.block _ (lt_of_block h.hp) (by omega)).trans h.hp, h.r.mid m (fun q hq => ?_) (fun q hq => ?_), h.ta, h.tb⟩
  · have := hb.1 q hq; have := h.ta q hq; omega
  · have := hb.2 q hq; have := h.tb q hq; omega
theorem VarD.cells {p : Nat} {a b : Value} {B : Nat} {d : Dv} {W : World} (h : VarD p a b B d W) : W.cell? ⟨p, 0, none⟩ = some a ∧ W.cell? ⟨p, 1, none⟩ = some b := ⟨cell_blk h.hp 0, cell_blk h.hp 1⟩
theorem VarD.new {a b : Value} {B : Nat} {d : Dv} {W : World} (h : DevRow W B a b d) : VarD W.heap.size a b B d (W.alloc (.cells #[a, b] 27)) :=
  ⟨heap_a1 _ _, h.below (below_lit _ _), fun q hq => (h.blk.1 q hq).2, fun q hq => (h.blk.2 q hq).2⟩
theorem dev_forms {W : World} {B : Nat} {a b : Value} {d : Dv} (h : DevRow W B a b d) : ∃ ga ma gc gb mb gd, a = .slice ga ma gc ∧ b = .slice gb mb gd := by
  obtain ⟨ga, gc, h1, -, -⟩ := h.t.at
  obtain ⟨gb, gd, h2, -, -⟩ := h.p.at
  exact ⟨ga, _, gc, gb, _, gd, h1, h2⟩
/-- marked by the law -/
theorem VarD.marked {p : Nat} {a b : Value} {B : Nat} {d d' : Dv} {W W' : World} (h : VarD p a b B d W) (m : MidB B p W W') (r : DevRow W' B a b d') : VarD p a b B d' W' := ⟨(m.block _ (lt_of_block h.hp) (by omega)).trans h.hp, r, h.ta, h.tb⟩
/-- the law's argument in its box -/
structure ArgD (w : World) (a b : Value) (W : World) : Prop where
  bel : Below w.heap.size w W
  hp : W.heap[w.heap.size]? = some (.cells #[a, b] 39)
theorem ArgD.below {w : World} {a b : Value} {W W' : World} (h : ArgD w a b W) (bb : Below W.heap.size W W') : ArgD w a b W' := ⟨h.bel.trans (bb.mono h.bel.size), (bb.block _ (lt_of_block h.hp)).trans h.hp⟩
theorem ArgD.mid {w : World} {a b : Value} {W W' : World} {X T : Nat} (h : ArgD w a b W) (m : MidB X T W W') (hx : w.heap.size < X) : ArgD w a b W' :=
  ⟨⟨m.os.trans h.bel.os, m.tape.trans h.bel.tape, m.output.trans h.bel.output, Nat.le_trans h.bel.size m.size, fun k hk => (m.block k (Nat.lt_of_lt_of_le hk h.bel.size) (by omega)).trans (h.bel.block k hk)⟩, (m.block _ (lt_of_block h.hp) (by omega)).trans h.hp⟩
theorem ArgD.cells {w : World} {a b : Value} {W : World} (h : ArgD w a b W) : W.cell? ⟨w.heap.size, 0, none⟩ = some a ∧ W.cell? ⟨w.heap.size, 1, none⟩ = some b := ⟨cell_blk h.hp 0, cell_blk h.hp 1⟩
theorem ArgD.start (w : World) (a b : Value) : ArgD w a b (w.alloc (.cells #[a, b] 39)) := ⟨below_lit _ _, heap_a1 _ _⟩
/-- how great a device may be: as an argument can hold -/
structure DvFit (d : Dv) : Prop where
  l : d.blocks.length ≤ 9223372036854775807
  s : ∀ t, t < d.blocks.length → d.blocks[t]!.size ≤ 9223372036854775807
  l2 : d.pend.length ≤ 9223372036854775807
  s2 : ∀ t, t < d.pend.length → d.pend[t]!.text.size ≤ 9223372036854775807
theorem eqDev_same (u v : Value) (d : Dv) (w : World) (h : d.blocks.length ≤ 1048577 ∧ d.pend.length ≤ 1048577) (hu : DevAt w u d) (hv : DevAt w v d) :
    Calls Try.prog 18 #[u, v] w fun r w' => r = .returned (.bool true) ∧ Below w.heap.size w w' := by
  have := eqDev_any u v d d w (by omega) (by omega) hu hv
  rwa [decide_eq_true rfl] at this
theorem kept_small (keep : Nat → Bool) (d : Dv) : (keptN keep d).blocks.length ≤ 18 ∧ (keptN keep d).pend.length = 0 := by
  unfold keptN
  by_cases h : devB d = true
  · rw [if_pos h]
    refine ⟨?_, rfl⟩
    rw [doneN_len]
    exact Nat.le_of_eq ((devB_iff d).1 h).1.1
  · rw [if_neg h]; exact ⟨by simp, rfl⟩

set_option maxRecDepth 100000 in
set_option maxHeartbeats 2000000 in
theorem wDevOk (a b : Value) (d : Dv) (w : World) (ha : TxtsAt w a d.blocks) (hb : WrsAt w b d.pend) (hd : DvFit d) :
    Calls Try.prog 4 #[.agg #[a, b]] w fun e w' => e = .returned (.bool true) ∧ Below w.heap.size w w' := by
  have AR := ArgD.start w a b
  have hs0 : (w.alloc (.cells #[a, b] 39)).heap.size = w.heap.size + 1 := by simp
  have HZ := szDev_any a b d _ (ha.below AR.bel) (hb.below AR.bel) hd.l hd.s hd.l2 hd.s2
  rw [hs0] at HZ
  have HAT : ∀ w', ArgD w a b w' → DevAt w' (.agg #[a, b]) d := fun w' h => ⟨a, b, rfl, ha.below h.bel, hb.below h.bel⟩
  obtain ⟨aa, ca, hfa, -, -⟩ := id ha
  obtain ⟨bb, cb, hfb, -, -⟩ := id hb
  generalize d.blocks.length = n1 at hfa
  generalize d.pend.length = n2 at hfb
  subst hfa
  subst hfb
  go_enter Try.func4, Try.ntmps4
  go_wp2_with fail
  refine HZ.mono ?_
  rintro e w1 ⟨q, rfl, ⟨hq0, hq1⟩, HQ, b1⟩
  have ar1 := AR.below (by rw [hs0]; exact b1)
  by_cases hq : q < 0
  · go_wp2
    go_ret
    exact ⟨rfl, ar1.bel⟩
  · obtain ⟨⟨hl, -⟩, hl2, -⟩ := HQ.out (by omega)
    have HTO := fun w' (h : ArgD w _ _ w') => toDev_any _ d w' hl hl2 (HAT w' h)
    have HEQ := fun u v w' => eqDev_same u v d w' (by omega)
    have HS := fun v w' h => sDevOk v d w' hd.l hd.l2 h
    have HI := fun v w' h => iDevOk v d w' hd.l hd.l2 h
    generalize devB d = r at HS HI
    clear HQ HZ AR
    obtain ⟨c0, c1⟩ := ar1.cells
    go_wp2_with fail
    refine (HTO w1 ar1).mono ?_
    rintro e w2 ⟨u2, v2, rfl, r2, b2⟩
    have ar2 := ar1.below b2
    go_wp2_with fail
    refine (HS _ w2 r2.at).mono ?_
    rintro e w3 ⟨rfl, b3⟩
    have ar3 := ar2.below b3
    obtain ⟨c0, c1⟩ := ar3.cells
    go_wp2_with fail
    refine (HTO w3 ar3).mono ?_
    rintro e w4 ⟨u4, v4, rfl, r4, b4⟩
    obtain ⟨ga, m1, gc, gb, m2, gd, rfl, rfl⟩ := dev_forms r4
    have ar4 := (ar3.below b4).below (below_lit w4 (.cells #[.slice ga m1 gc, .slice gb m2 gd] 27))
    have vd4 := VarD.new r4
    have hs4 : (w4.alloc (.cells #[.slice ga m1 gc, .slice gb m2 gd] 27)).heap.size = w4.heap.size + 1 := by simp
    have HI4 := HI _ _ vd4.r.at
    rw [hs4] at HI4
    go_wp2_with fail
    refine HI4.mono ?_
    rintro e w5 ⟨rfl, b5⟩
    have ar5 := ar4.below (by rw [hs4]; exact b5)
    have vd5 := vd4.below (by rw [hs4]; exact b5)
    obtain ⟨c0, c1⟩ := ar5.cells
    obtain ⟨e0, e1⟩ := vd5.cells
    have hrr : (r != r) = false := by simp
    have HTO5 := HTO w5.drew (ar5.below (Below.refl _ _).drew)
    have AR5 : Hid _ := ar5
    have VD5 : Hid _ := vd5
    clear ar1 ar2 ar3 ar4 ar5 vd4 vd5 HI4 r2 r4
    go_wp2_with fail
    go_region_held3 (fun w' => (w'.cell? ⟨w4.heap.size, 0, none⟩ = some (.slice ga m1 gc) ∧ w'.cell? ⟨w4.heap.size, 1, none⟩ = some (.slice gb m2 gd)) ∧ (w'.cell? ⟨w.heap.size, 0, none⟩ = some (.slice aa n1 ca) ∧ w'.cell? ⟨w.heap.size, 1, none⟩ = some (.slice bb n2 cb))) (go_keep)
      (first
      | (go_at_call 16; refine HTO5.mono ?_; rintro e w7 ⟨u7, v7, rfl, r7, b7⟩; have b7' := (Below.refl _ _).drew.trans b7; have ar7 := AR5.out.below b7'; have vd7 := VD5.out.below b7'; obtain ⟨c0, c1⟩ := ar7.cells; obtain ⟨e0, e1⟩ := vd7.cells; have AR7 : Hid _ := ar7; have VD7 : Hid _ := vd7; clear ar7 vd7)
      | (go_at_call 18; refine (HEQ _ _ _ VD7.out.r.at r7.at).mono ?_; rintro e w8 ⟨rfl, b8⟩; have ar8 := AR7.out.below b8; have vd8 := VD7.out.below b8; obtain ⟨c0, c1⟩ := ar8.cells; obtain ⟨e0, e1⟩ := vd8.cells))
    go_wp2
    go_ret
    exact ⟨rfl, ar8.bel⟩

end Go.Proofs.Ytpmdhoiodbjojaa
