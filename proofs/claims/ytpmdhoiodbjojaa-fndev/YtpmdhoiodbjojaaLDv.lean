/- Devices: how they lie; what laws.szDev, toDev, eqDev, markDev, heldDev do. -/
import Derived.Test.YtpmdhoiodbjojaaRows
import Derived.Test.YtpmdhoiodbjojaaLWb
import Derived.Test.YtpmdhoiodbjojaaSzS
import Derived.Test.YtpmdhoiodbjojaaBs
namespace Go.Proofs.Ytpmdhoiodbjojaa
open Go.RowKit Go.Sort

theorem cell_blk {w : World} {g : Nat} {cs : Array Value} {t : TypeId} {fr : Nat × Nat} (h : w.heap[g]? = some (.cells cs t fr)) (i : Nat) : w.cell? ⟨g, i, none⟩ = cs[i]? := by simp [World.cell?, h]
/-- the device d lies at v -/
def DevAt (w : World) (v : Value) (d : Dv) : Prop := ∃ a b, v = .agg #[a, b] ∧ TxtsAt w a d.blocks ∧ WrsAt w b d.pend
/-- the device d lies at the slices a and b, the call's own from base on, no memory of it shared -/
structure DevRow (w : World) (base : Nat) (a b : Value) (d : Dv) : Prop where
  t : TxtRow w base a d.blocks
  p : WrRow w base b d.pend
  ap : ∀ q, a.ownBlock = some q → b.ownBlock ≠ some q
theorem DevRow.at {w : World} {base : Nat} {a b : Value} {d : Dv} (h : DevRow w base a b d) : DevAt w (.agg #[a, b]) d := ⟨a, b, rfl, h.t.at, h.p.at⟩
theorem DevRow.below {w w' : World} {base : Nat} {a b : Value} {d : Dv} (h : DevRow w base a b d) (hb : Below w.heap.size w w') : DevRow w' base a b d := ⟨own_below h.t hb, own_below h.p hb, h.ap⟩
theorem DevAt.below {w w' : World} {v : Value} {d : Dv} (h : DevAt w v d) (hb : Below w.heap.size w w') : DevAt w' v d := by
  obtain ⟨a, b, e, h1, h2⟩ := h
  exact ⟨a, b, e, h1.below hb, h2.below hb⟩
theorem DevRow.mono {w : World} {base base' : Nat} {a b : Value} {d : Dv} (h : DevRow w base a b d) (hb : base' ≤ base) : DevRow w base' a b d := ⟨h.t.mono hb, h.p.mono hb, h.ap⟩
theorem own_same {w w' : World} {base size n : Nat} {e : TypeId} {v : Value} {xs : List Value} (h : w.ownsRow base e size v n xs) (hb : ∀ q, v.ownBlock = some q → w'.heap[q]? = w.heap[q]?) : w'.ownsRow base e size v n xs :=
  ⟨h.1, by
    rcases h.2 with h0 | ⟨g, cap, cur, e, hg, hh, r⟩
    · exact .inl h0
    · exact .inr ⟨g, cap, cur, e, hg, (hb g (by rw [e]; rfl)).trans hh, r⟩⟩
theorem own_gb {w w' : World} {base size n : Nat} {e : TypeId} {v : Value} {xs : List Value} {r : Option Nat} (h : w.ownsRow base e size v n xs) (g : w.grownBy w' r) (hne : ∀ q, v.ownBlock = some q → r ≠ some q) : w'.ownsRow base e size v n xs :=
  own_same h fun q hq => g.block q (World.ownsRow.lt h q hq).2 fun e => hne q hq (by rw [e])
theorem DevRow.mid {B T base : Nat} {w w' : World} {a b : Value} {d : Dv} (h : DevRow w base a b d) (m : MidB B T w w') (ha : ∀ q, a.ownBlock = some q → q < B ∨ T ≤ q) (hb : ∀ q, b.ownBlock = some q → q < B ∨ T ≤ q) : DevRow w' base a b d :=
  ⟨own_same h.t fun q hq => m.block q (World.ownsRow.lt h.t q hq).2 (ha q hq), own_same h.p fun q hq => m.block q (World.ownsRow.lt h.p q hq).2 (hb q hq), h.ap⟩
theorem DevRow.blk {w : World} {base : Nat} {a b : Value} {d : Dv} (h : DevRow w base a b d) : (∀ q, a.ownBlock = some q → base ≤ q ∧ q < w.heap.size) ∧ ∀ q, b.ownBlock = some q → base ≤ q ∧ q < w.heap.size := ⟨fun q hq => World.ownsRow.lt h.t q hq, fun q hq => World.ownsRow.lt h.p q hq⟩

set_option maxRecDepth 100000 in
set_option maxHeartbeats 1000000 in
theorem szDev_any (a b : Value) (d : Dv) (w : World) (ha : TxtsAt w a d.blocks) (hb : WrsAt w b d.pend) (hl : d.blocks.length ≤ 9223372036854775807) (hs : ∀ t, t < d.blocks.length → d.blocks[t]!.size ≤ 9223372036854775807)
    (hl2 : d.pend.length ≤ 9223372036854775807) (hs2 : ∀ t, t < d.pend.length → d.pend[t]!.text.size ≤ 9223372036854775807) :
    Calls Try.prog 15 #[.agg #[a, b], .int .i64 1048576] w fun e w' => ∃ q : Int, e = .returned (.int .i64 q) ∧ (-1 ≤ q ∧ q ≤ 1048576) ∧ Hid (0 ≤ q → (d.blocks.length ≤ 1048576 ∧ ∀ t, t < d.blocks.length → d.blocks[t]!.size ≤ 1048576) ∧ d.pend.length ≤ 1048576 ∧ ∀ t, t < d.pend.length → d.pend[t]!.text.size ≤ 1048576) ∧ Below w.heap.size w w' := by
  have B0 := below_lit w (.cells #[a, b] 39)
  have S0 : (w.alloc (.cells #[a, b] 39)).heap.size = w.heap.size + 1 := by simp
  have hP := (MapKept.heap_alloc w (.cells #[a, b] 39)).1
  have H1 := szStringS_at a d.blocks _ (ha.below B0) hl hs
  have H2 := fun y w' h0 h1 (hb' : Below (w.heap.size + 1) (w.alloc (.cells #[a, b] 39)) w') => szWrS_any b d.pend y w' h0 h1 ((hb.below B0).below (by rw [S0]; exact hb')) hl2 hs2
  rw [S0] at H1
  go_enter Try.func15, Try.ntmps15
  go_wp2_with fail
  refine H1.mono ?_
  rintro e w1 ⟨q, rfl, ⟨hq0, hq1⟩, HQ, b1⟩
  have B1 := B0.trans (b1.mono (by omega))
  have p1 := cell_blk ((b1.block w.heap.size (by omega)).trans hP) 1
  dsimp at p1
  by_cases hq : q < 0
  · go_wp2
    go_ret
    exact ⟨-1, rfl, ⟨by omega, by omega⟩, fun h => (by omega), B1⟩
  · go_wp2_with fail
    refine (H2 q w1 (by omega) hq1 b1).mono ?_
    rintro e w2 ⟨r, rfl, ⟨hr0, hr1⟩, HR, b2⟩
    have B2 := B1.trans (b2.mono B1.size)
    by_cases hr : r < 0
    · go_wp2
      go_ret
      exact ⟨-1, rfl, ⟨by omega, by omega⟩, fun h => (by omega), B2⟩
    · go_wp2
      go_ret
      exact ⟨r, rfl, ⟨by omega, by omega⟩, fun h => ⟨HQ.out (by omega), HR.out (by omega)⟩, B2⟩

set_option maxRecDepth 100000 in
set_option maxHeartbeats 1000000 in
theorem eqDev_any (u v : Value) (d e : Dv) (w : World) (hl : d.blocks.length ≤ 9223372036854775807) (hl2 : d.pend.length ≤ 9223372036854775807) (hu : DevAt w u d) (hv : DevAt w v e) :
    Calls Try.prog 18 #[u, v] w fun r w' => r = .returned (.bool (decide (d = e))) ∧ Below w.heap.size w w' := by
  obtain ⟨a, b, rfl, ha, hb⟩ := hu
  obtain ⟨a', b', rfl, ha', hb'⟩ := hv
  have B0 := below_lit w (.cells #[a, b] 27)
  have S0 : (w.alloc (.cells #[a, b] 27)).heap.size = w.heap.size + 1 := by simp
  have hP := (MapKept.heap_alloc w (.cells #[a, b] 27)).1
  have C0 := below_lit (w.alloc (.cells #[a, b] 27)) (.cells #[a', b'] 27)
  have S1 : ((w.alloc (.cells #[a, b] 27)).alloc (.cells #[a', b'] 27)).heap.size = w.heap.size + 1 + 1 := by simp
  have hR := (MapKept.heap_alloc (w.alloc (.cells #[a, b] 27)) (.cells #[a', b'] 27)).1
  have hP' := (C0.block w.heap.size (by omega)).trans hP
  rw [S0] at hR
  have D0 := B0.trans (C0.mono (by omega))
  have HE : Hid (decide (d = e) = (decide (d.blocks = e.blocks) && decide (d.pend = e.pend))) := by
    show _ = _
    obtain ⟨d1, d2⟩ := d
    obtain ⟨e1, e2⟩ := e
    simp
  have H1 := eqStringS_any a a' d.blocks e.blocks _ hl (ha.below D0) (ha'.below D0)
  have H2 := fun w' (h : Below (w.heap.size + 1 + 1) ((w.alloc (.cells #[a, b] 27)).alloc (.cells #[a', b'] 27)) w') => eqWrS_any b b' d.pend e.pend w' hl2 ((hb.below D0).below (by rw [S1]; exact h)) ((hb'.below D0).below (by rw [S1]; exact h))
  rw [S1] at H1
  generalize decide (d = e) = r at HE ⊢
  generalize decide (d.blocks = e.blocks) = r1 at HE H1
  generalize decide (d.pend = e.pend) = r2 at HE H2
  go_enter Try.func18, Try.ntmps18
  go_wp2_with fail
  refine H1.mono ?_
  rintro x w1 ⟨rfl, b1⟩
  have B1 := D0.trans (b1.mono (by omega))
  have p1 := cell_blk ((b1.block w.heap.size (by omega)).trans hP') 1
  have q1 := cell_blk ((b1.block (w.heap.size + 1) (by omega)).trans hR) 1
  dsimp at p1 q1
  cases r1 with
  | false =>
    go_wp2
    go_ret
    exact ⟨ret_bool (by rw [HE.out]; rfl), B1⟩
  | true =>
    go_wp2_with fail
    refine (H2 w1 b1).mono ?_
    rintro x w2 ⟨rfl, b2⟩
    have B2 := B1.trans (b2.mono B1.size)
    cases r2 with
    | false =>
      go_wp2
      go_ret
      exact ⟨ret_bool (by rw [HE.out]; rfl), B2⟩
    | true =>
      go_wp2
      go_ret
      exact ⟨ret_bool (by rw [HE.out]; rfl), B2⟩

set_option maxRecDepth 100000 in
set_option maxHeartbeats 1000000 in
theorem heldDev_marks (a b : Value) (n m k : Nat) (w : World) (hn : n ≤ 1048577) (hm : m ≤ 1048577) (hk0 : 0 < k) (hk1 : k ≤ 1000000) (ha : TxtsAt w a (marksT k n)) (hb : WrsAt w b (marksW (k + n) m)) :
    Calls Try.prog 22 #[.agg #[a, b], .int .i64 k] w fun e w' => e = .returned (.int .i64 ((k + n + 2 * m : Nat) : Int)) ∧ Below w.heap.size w w' := by
  have B0 := below_lit w (.cells #[a, b] 27)
  have S0 : (w.alloc (.cells #[a, b] 27)).heap.size = w.heap.size + 1 := by simp
  have hP := (MapKept.heap_alloc w (.cells #[a, b] 27)).1
  have H1 := heldStringS_marks a n k _ hn hk0 (by omega) (ha.below B0)
  have H2 := fun w' (hb' : Below (w.heap.size + 1) (w.alloc (.cells #[a, b] 27)) w') => heldWrS_marks b m (k + n) w' hm (by omega) (by omega) ((hb.below B0).below (by rw [S0]; exact hb'))
  rw [S0] at H1
  obtain ⟨k1, HK1⟩ : ∃ k1, Hid (k1 = k + n) := ⟨_, rfl⟩
  rw [← HK1.out] at H1 H2 ⊢
  obtain ⟨k2, HK2⟩ : ∃ k2, Hid (k2 = k1 + 2 * m) := ⟨_, rfl⟩
  rw [← HK2.out] at H2 ⊢
  go_enter Try.func22, Try.ntmps22
  go_wp2_with fail
  refine H1.mono ?_
  rintro e w1 ⟨rfl, b1⟩
  have B1 := B0.trans (b1.mono (by omega))
  have p1 := cell_blk ((b1.block w.heap.size (by omega)).trans hP) 1
  dsimp at p1
  have hk : ¬ ((k1 : Int) < 0) := by omega
  have hkk : ¬ ((k2 : Int) < 0) := by omega
  go_wp2_with fail
  refine (H2 w1 b1).mono ?_
  rintro e w2 ⟨rfl, b2⟩
  go_wp2
  go_ret
  exact ⟨rfl, B1.trans (b2.mono B1.size)⟩

set_option maxRecDepth 100000 in
set_option maxHeartbeats 1000000 in
theorem markDev_any (a b : Value) (d : Dv) (k base top : Nat) (w : World) (h : DevRow w base a b d) (ha : ∀ q, a.ownBlock = some q → q < top) (hb : ∀ q, b.ownBlock = some q → q < top) (hl : d.blocks.length ≤ 1048577) (hl2 : d.pend.length ≤ 1048577) (hk0 : 0 < k) (hk1 : k ≤ 1000000) :
    Calls Try.prog 21 #[.agg #[a, b], .int .i64 k] w fun e w' => e = .returned (.int .i64 ((k + d.blocks.length + 2 * d.pend.length : Nat) : Int)) ∧ DevRow w' base a b ⟨marksT k d.blocks.length, marksW (k + d.blocks.length) d.pend.length⟩ ∧ MidB base top w w' := by
  have B0 := below_lit w (.cells #[a, b] 27)
  have S0 : (w.alloc (.cells #[a, b] 27)).heap.size = w.heap.size + 1 := by simp
  have hP := (MapKept.heap_alloc w (.cells #[a, b] 27)).1
  have h1 := h.below B0
  have hblk := h.blk
  have H1 := markStringS_any a d.blocks k base _ h1.t hl hk0 (by omega)
  have H2 := fun w' (hr : WrRow w' base b d.pend) => markWrS_any b d.pend (k + d.blocks.length) base w' hr hl2 (by omega) (by omega)
  have hap := h.ap
  generalize d.blocks.length = n at H1 H2 ⊢
  generalize d.pend.length = m at H2 ⊢
  obtain ⟨k1, HK1⟩ : ∃ k1, Hid (k1 = k + n) := ⟨_, rfl⟩
  rw [← HK1.out] at H1 H2 ⊢
  obtain ⟨k2, HK2⟩ : ∃ k2, Hid (k2 = k1 + 2 * m) := ⟨_, rfl⟩
  rw [← HK2.out] at H2 ⊢
  go_enter Try.func21, Try.ntmps21
  go_wp2_with fail
  refine H1.mono ?_
  rintro e w1 ⟨rfl, r1, g1⟩
  have hP1 : w1.heap[w.heap.size]? = some (.cells #[a, b] 27) := (g1.block w.heap.size (by omega) fun e => by have := (hblk.1 _ e.symm).2; omega).trans hP
  have p1 := cell_blk hP1 1
  dsimp at p1
  have M1 : MidB base top w w1 := (MidB.of_below B0).trans (MidB.of_grown g1 fun q hq => ⟨(hblk.1 q hq).1, ha q hq⟩)
  have pr1 := own_gb h1.p g1 fun q hq e => hap q e hq
  go_wp2_with fail
  refine (H2 w1 pr1).mono ?_
  rintro e w2 ⟨rfl, r2, g2⟩
  have M2 := M1.trans (MidB.of_grown g2 fun q hq => ⟨(hblk.2 q hq).1, hb q hq⟩)
  have tr2 := own_gb r1 g2 fun q hq => hap q hq
  go_wp2
  go_ret
  exact ⟨rfl, ⟨tr2, r2, hap⟩, M2⟩

end Go.Proofs.Ytpmdhoiodbjojaa
