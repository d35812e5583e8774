/- Rows of texts: what laws.szStringS does. Rows of texts under the names that mkwex.py's walks use. SortNames's law, given what both sides answer. Made by mkwex.py. -/
import Derived.Test.YtlkemmdcjnaepaaDoorRows
import Derived.Test.YtlkemmdcjnaepaaDoorG28
import Derived.Test.YtlkemmdcjnaepaaDoorG38
import Derived.Test.YtlkemmdcjnaepaaDoorG24
namespace Go.Proofs.YtlkemmdcjnaepaaDoor

section
open Go.RowKit Go.Sort

set_option maxRecDepth 100000 in
set_option maxHeartbeats 1000000 in
theorem szStringS_le (v : Value) (L : List ByteArray) (y0 : Int) (w : World) (hy0 : 0 ≤ y0) (hy1 : y0 ≤ 1048576) (hv : TxtsAt w v L) (hl : L.length ≤ 9223372036854775807) (hs : ∀ t, t < L.length → L[t]!.size ≤ 9223372036854775807) :
    Calls Tryd.prog 27 #[v, .int .i64 y0] w fun e w' => ∃ q : Int, e = .returned (.int .i64 q) ∧ (-1 ≤ q ∧ q ≤ 1048576) ∧ Hid (0 ≤ q → L.length ≤ 1048576 ∧ ∀ t, t < L.length → L[t]!.size ≤ 1048576) ∧ Below w.heap.size w w' := by
  obtain ⟨a, ca, rfl, -, hva⟩ := hv
  obtain ⟨n, HL⟩ : ∃ n, Hid (n = L.length) := ⟨_, rfl⟩
  rw [← HL.out] at hva hl hs ⊢
  have hw : IntKind.i64.wrap (y0 - (n : Int)) = y0 - (n : Int) := by rw [IntKind.wrap_i64]; omega
  by_cases hbig : y0 < (n : Int)
  · have hc : y0 - (n : Int) < 0 := by omega
    go_enter Tryd.func27, Tryd.ntmps27
    go_wp2
    go_ret
    exact ⟨-1, rfl, ⟨by omega, by omega⟩, fun h => (by omega), Below.refl _ _⟩
  · have hc : ¬ (y0 - (n : Int) < 0) := by omega
    go_enter Tryd.func27, Tryd.ntmps27
    go_wp2
    go_loopw [1, 5] (fun q i wr => ∃ k : Nat, k ≤ n ∧ i = .int .i64 k ∧ ∃ x : Int, q = .int .i64 x ∧ 0 ≤ x ∧ (n : Int) + x ≤ 1048576 ∧ Hid (∀ t, t < k → L[t]!.size ≤ 1048576) ∧ Below w.heap.size w wr) (fun _ i _ => n - (intOf i).toNat)
    case atStart => exact ⟨0, Nat.zero_le _, rfl, _, rfl, by omega, by omega, fun t ht => by omega, Below.refl _ _⟩
    case round =>
      obtain ⟨k, hk, rfl, x, rfl, hx0, hx1, HS, hbel⟩ := hrel
      by_cases hlt : k < n
      · obtain ⟨b1, o1, rfl, hb1, hc1⟩ := hva k hlt
        have hc1 := (hbel.cell (p := ⟨b1, o1 + k, none⟩) hb1).trans hc1
        have hsk := hs k hlt
        have HK : Hid (L[k]!.size ≤ 1048576 → ∀ t, t < k + 1 → L[t]!.size ≤ 1048576) := fun h t ht => by
          by_cases e : t = k
          · rw [e]; exact h
          · exact HS.out t (by omega)
        generalize L[k]! = y at *
        have hkn : (k : Int) < (n : Int) := by omega
        have hk0 : (0 : Int) ≤ (k : Int) := by omega
        have hwy : IntKind.i64.wrap (x - (y.size : Int)) = x - (y.size : Int) := by rw [IntKind.wrap_i64]; omega
        by_cases hxy : x < (y.size : Int)
        · have hd : x - (y.size : Int) < 0 := by omega
          clear HK hva
          go_wp2
          go_ret
          exact ⟨-1, rfl, ⟨by omega, by omega⟩, fun h => (by omega), hbel⟩
        · have hd : ¬ (x - (y.size : Int) < 0) := by omega
          have HK' : Hid (∀ t, t < k + 1 → L[t]!.size ≤ 1048576) := HK.out (by omega)
          clear HK hva
          go_wp2
          go_roundw
          case rel => exact ⟨k + 1, by omega, by go_num, x - (y.size : Int), rfl, by omega, by omega, HK', hbel⟩
          case measure => simp [intOf]; omega
      · obtain rfl : n = k := by omega
        go_wp2
        go_ret
        exact ⟨x, rfl, ⟨by omega, by omega⟩, fun _ => ⟨by omega, HS.out⟩, hbel⟩

theorem szStringS_at (v : Value) (L : List ByteArray) (w : World) (hv : TxtsAt w v L) (hl : L.length ≤ 9223372036854775807) (hs : ∀ t, t < L.length → L[t]!.size ≤ 9223372036854775807) :
    Calls Tryd.prog 27 #[v, .int .i64 1048576] w fun e w' => ∃ q : Int, e = .returned (.int .i64 q) ∧ (-1 ≤ q ∧ q ≤ 1048576) ∧ Hid (0 ≤ q → L.length ≤ 1048576 ∧ ∀ t, t < L.length → L[t]!.size ≤ 1048576) ∧ Below w.heap.size w w' := szStringS_le v L 1048576 w (by decide) (by decide) hv hl hs
end

section
open Go.RowKit

abbrev TxsAt := TxtsAt
abbrev TxRow := TxtRow
abbrev marksTx (k : Nat) (n : Nat) : List ByteArray := marksT k n
theorem toTxS_any (v : Value) (l : List ByteArray) (w : World) (hl : l.length ≤ 1048576) (hv : TxsAt w v l) :
    Calls Tryd.prog 28 #[v] w fun e w' => ∃ u, e = .returned u ∧ TxRow w' w.heap.size u l ∧ Below w.heap.size w w' := toStringS_any v l w hl hv
theorem eqTxS_any (v u : Value) (l m : List ByteArray) (w : World) (hl : l.length ≤ 9223372036854775807) (hv : TxsAt w v l) (hu : TxsAt w u m) :
    Calls Tryd.prog 29 #[v, u] w fun e w' => e = .returned (.bool (decide (l = m))) ∧ Below w.heap.size w w' := eqStringS_any v u l m w hl hv hu
theorem markTxS_any (v : Value) (l : List ByteArray) (k : Nat) (base : Nat) (w : World) (hv : TxRow w base v l) (hl : l.length ≤ 1048577) (hk0 : 0 < k) (hk1 : k ≤ 100000000) :
    Calls Tryd.prog 30 #[v, .int .i64 k] w fun e w' => e = .returned (.int .i64 ((k + 1 * l.length : Nat) : Int)) ∧ TxRow w' base v (marksTx k l.length) ∧ w.grownBy w' v.ownBlock :=
  (markStringS_any v l k base w hv hl hk0 hk1).mono fun e w' h => ⟨by rw [h.1, Nat.one_mul], h.2⟩
theorem heldTxS_marks (v : Value) (n k : Nat) (w : World) (hn : n ≤ 1048577) (hk0 : 0 < k) (hk1 : k ≤ 100000000) (hv : TxsAt w v (marksTx k n)) :
    Calls Tryd.prog 31 #[v, .int .i64 k] w fun e w' => e = .returned (.int .i64 ((k + 1 * n : Nat) : Int)) ∧ Below w.heap.size w w' :=
  (heldStringS_marks v n k w hn hk0 hk1 hv).mono fun e w' h => ⟨by rw [h.1, Nat.one_mul], h.2⟩
theorem own_tx {w : World} {base : Nat} {v : Value} {l : List ByteArray} (h : TxRow w base v l) : TxtRow w base v l := h
end

section
open Go.RowKit Go.Sort

set_option maxRecDepth 100000 in
set_option maxHeartbeats 4000000 in
theorem wSortNames (v0 : Value) (l0 : List ByteArray) (M0 : List ByteArray) (w : World) (hv0 : TxsAt w v0 l0) (hc0 : l0.length ≤ 9223372036854775807) (hz0 : ∀ t, t < l0.length → l0[t]!.size ≤ 9223372036854775807) (hM0 : l0.length ≤ 1048576 → M0.length ≤ 1048576)
    (hS : l0.length ≤ 1048576 → (∀ t, t < l0.length → l0[t]!.size ≤ 1048576) → ∀ w' u0, Below w.heap.size w w' → TxsAt w' u0 l0 → Calls Tryd.prog 13 #[u0] w' fun e w'' => ∃ x0, e = .returned (x0) ∧ TxRow w'' w'.heap.size x0 M0 ∧ Below w'.heap.size w' w'')
    (hI : l0.length ≤ 1048576 → (∀ t, t < l0.length → l0[t]!.size ≤ 1048576) → ∀ w' u0, Below w.heap.size w w' → TxsAt w' u0 l0 → Calls Tryd.prog 11 #[u0] w' fun e w'' => ∃ x0, e = .returned (x0) ∧ TxRow w'' w'.heap.size x0 M0 ∧ Below w'.heap.size w' w'') :
    Calls Tryd.prog 6 #[v0] w fun e w' => e = .returned (.bool true) ∧ Below w.heap.size w w' := by
  go_enter Tryd.func6, Tryd.ntmps6
  go_wp2_with fail
  refine (szStringS_le v0 l0 1048576 w (by omega) (by omega) hv0 hc0 hz0).mono ?_
  rintro e w1 ⟨r0, rfl, ⟨hr0a, hr0b⟩, HR0, b1⟩
  have B1 : Below w.heap.size w w1 := b1
  have z1 := b1.size
  by_cases q0 : r0 < 0
  · go_wp2
    go_ret
    exact ⟨rfl, B1⟩
  obtain ⟨k0, K0⟩ := HR0.out (by omega)
  have hM0 := hM0 k0
  have q0' : ¬ r0 < 0 := q0
  have hS := hS k0 K0
  have hI := hI k0 K0
  go_wp2_with fail
  refine (toTxS_any v0 l0 w1 k0 (hv0.below B1)).mono ?_
  rintro e w2 ⟨p0, rfl, t2, b2⟩
  have B2 : Below w.heap.size w w2 := B1.trans (b2.mono B1.size)
  have z2 := b2.size
  have p0_2 := OwB.new t2
  go_wp2_with fail
  refine (hS w2 p0 B2 (show TxRow _ _ _ _ from p0_2.row).at).mono ?_
  rintro e w3 ⟨s0, rfl, t3s0, b3⟩
  have B3 : Below w.heap.size w w3 := B2.trans (b3.mono B2.size)
  have z3 := b3.size
  have p0_3 := p0_2.below b3
  have s0_3 := OwB.new t3s0
  go_wp2_with fail
  refine (toTxS_any v0 l0 w3 k0 (hv0.below B3)).mono ?_
  rintro e w4 ⟨x0, rfl, t4, b4⟩
  have B4 : Below w.heap.size w w4 := B3.trans (b4.mono B3.size)
  have z4 := b4.size
  have s0_4 := s0_3.below b4
  have x0_4 := OwB.new t4
  go_wp2_with fail
  refine (hI w4 x0 B4 (show TxRow _ _ _ _ from x0_4.row).at).mono ?_
  rintro e w5 ⟨g0, rfl, t5g0, b5⟩
  have B5 : Below w.heap.size w w5 := B4.trans (b5.mono B4.size)
  have z5 := b5.size
  have s0_5 := s0_4.below b5
  have x0_5 := x0_4.below b5
  have g0_5 := OwB.new t5g0
  go_wp2_with fail
  refine (eqTxS_any g0 s0 M0 M0 w5 (by omega) (show TxRow _ _ _ _ from g0_5.row).at (show TxRow _ _ _ _ from s0_5.row).at).mono ?_
  rintro e w6 ⟨rfl, b6⟩
  rw [decide_eq_true rfl]
  have B6 : Below w.heap.size w w6 := B5.trans (b6.mono B5.size)
  have z6 := b6.size
  have s0_6 := s0_5.below b6
  have x0_6 := x0_5.below b6
  have g0_6 := g0_5.below b6
  go_wp2_with fail
  refine (toTxS_any v0 l0 w6 k0 (hv0.below B6)).mono ?_
  rintro e w7 ⟨y0, rfl, t7, b7⟩
  have B7 : Below w.heap.size w w7 := B6.trans (b7.mono B6.size)
  have z7 := b7.size
  have s0_7 := s0_6.below b7
  have x0_7 := x0_6.below b7
  have g0_7 := g0_6.below b7
  have y0_7 := OwB.new t7
  go_wp2_with fail
  refine (eqTxS_any x0 y0 l0 l0 w7 (by omega) (show TxRow _ _ _ _ from x0_7.row).at (show TxRow _ _ _ _ from y0_7.row).at).mono ?_
  rintro e w8 ⟨rfl, b8⟩
  rw [decide_eq_true rfl]
  have B8 : Below w.heap.size w w8 := B7.trans (b8.mono B7.size)
  have z8 := b8.size
  have s0_8 := s0_7.below b8
  have x0_8 := x0_7.below b8
  have g0_8 := g0_7.below b8
  have y0_8 := y0_7.below b8
  go_wp2_with fail
  refine (markTxS_any x0 l0 1 w3.heap.size w8 x0_8.row (by omega) (by omega) (by omega)).mono ?_
  rintro e w9 ⟨rfl, t9, g9⟩
  have b9 := OwB.bel (B := w.heap.size) x0_8 g9 (by have := B8.size; omega) B8.size
  have B9 : Below w.heap.size w w9 := B8.trans b9
  have z9 := g9.size
  have s0_9 := s0_8.kept x0_8 g9 (by omega)
  have g0_9 := g0_8.kept x0_8 g9 (by omega)
  have x0_9 := x0_8.marked t9
  go_wp2_with fail
  refine (eqTxS_any g0 s0 M0 M0 w9 (by omega) (show TxRow _ _ _ _ from g0_9.row).at (show TxRow _ _ _ _ from s0_9.row).at).mono ?_
  rintro e w10 ⟨rfl, b10⟩
  rw [decide_eq_true rfl]
  have B10 : Below w.heap.size w w10 := B9.trans (b10.mono B9.size)
  have z10 := b10.size
  have s0_10 := s0_9.below b10
  have g0_10 := g0_9.below b10
  go_wp2_with fail
  refine (markTxS_any g0 M0 1 w4.heap.size w10 g0_10.row (by omega) (by omega) (by omega)).mono ?_
  rintro e w11 ⟨rfl, t11, g11⟩
  have b11 := OwB.bel (B := w.heap.size) g0_10 g11 (by have := B10.size; omega) B10.size
  have B11 : Below w.heap.size w w11 := B10.trans b11
  have z11 := g11.size
  have s0_11 := s0_10.kept g0_10 g11 (by omega)
  have g0_11 := g0_10.marked t11
  go_wp2_with fail
  refine (heldTxS_marks g0 M0.length 1 w11 (by omega) (by omega) (by omega) (show TxRow _ _ _ _ from g0_11.row).at).mono ?_
  rintro e w12 ⟨rfl, b12⟩
  have B12 : Below w.heap.size w w12 := B11.trans (b12.mono B11.size)
  have z12 := b12.size
  have s0_12 := s0_11.below b12
  have g0_12 := g0_11.below b12
  go_wp2_with fail
  refine (toTxS_any v0 l0 w12 k0 (hv0.below B12)).mono ?_
  rintro e w13 ⟨d0, rfl, t13, b13⟩
  have B13 : Below w.heap.size w w13 := B12.trans (b13.mono B12.size)
  have z13 := b13.size
  have s0_13 := s0_12.below b13
  have g0_13 := g0_12.below b13
  have d0_13 := OwB.new t13
  go_wp2_with fail
  refine (hI w13 d0 B13 (show TxRow _ _ _ _ from d0_13.row).at).mono ?_
  rintro e w14 ⟨h0, rfl, t14h0, b14⟩
  have B14 : Below w.heap.size w w14 := B13.trans (b14.mono B13.size)
  have z14 := b14.size
  have s0_14 := s0_13.below b14
  have g0_14 := g0_13.below b14
  have d0_14 := d0_13.below b14
  have h0_14 := OwB.new t14h0
  go_wp2_with fail
  refine (eqTxS_any h0 s0 M0 M0 w14 (by omega) (show TxRow _ _ _ _ from h0_14.row).at (show TxRow _ _ _ _ from s0_14.row).at).mono ?_
  rintro e w15 ⟨rfl, b15⟩
  rw [decide_eq_true rfl]
  have B15 : Below w.heap.size w w15 := B14.trans (b15.mono B14.size)
  have z15 := b15.size
  have s0_15 := s0_14.below b15
  have g0_15 := g0_14.below b15
  have d0_15 := d0_14.below b15
  have h0_15 := h0_14.below b15
  go_wp2_with fail
  refine (heldTxS_marks g0 M0.length 1 w15 (by omega) (by omega) (by omega) (show TxRow _ _ _ _ from g0_15.row).at).mono ?_
  rintro e w16 ⟨rfl, b16⟩
  have B16 : Below w.heap.size w w16 := B15.trans (b16.mono B15.size)
  have z16 := b16.size
  have s0_16 := s0_15.below b16
  have g0_16 := g0_15.below b16
  have d0_16 := d0_15.below b16
  have h0_16 := h0_15.below b16
  go_wp2
  go_ret
  exact ⟨rfl, B16⟩
end

end Go.Proofs.YtlkemmdcjnaepaaDoor
