/- Journals: laws.FnExactDiff: the walk. -/
import Derived.Test.YtfdahfealibbnaaRows
import Derived.Test.YtfdahfealibbnaaSJd
import Derived.Test.YtfdahfealibbnaaIJd
import Derived.Test.YtfdahfealibbnaaSzS
import Derived.Test.YtfdahfealibbnaaLWb
namespace Go.Proofs.Ytfdahfealibbnaa
open Go.RowKit Go.Sort

/-- rows that lie from lo on and below hi -/
structure TxtIn (lo hi : Nat) (v : Value) (l : List ByteArray) (W : World) : Prop where
  r : TxtRow W lo v l
  t : ∀ q, v.ownBlock = some q → q < hi
structure WrIn (lo hi : Nat) (v : Value) (l : List Wr) (W : World) : Prop where
  r : WrRow W lo v l
  t : ∀ q, v.ownBlock = some q → q < hi
theorem own_keep {w w' : World} {base size n : Nat} {e : TypeId} {v : Value} {xs : List Value} {r : Option Nat} (h : w.ownsRow base e size v n xs) (g : w.grownBy w' r) (hne : ∀ q, v.ownBlock = some q → r ≠ some q) : w'.ownsRow base e size v n xs :=
  ⟨h.1, by
    rcases h.2 with h0 | ⟨b, cap, cur, e, hb, hh, r⟩
    · exact .inl h0
    · exact .inr ⟨b, cap, cur, e, hb, (g.block b (lt_of_block hh) (fun e2 => hne b (by rw [e]; rfl) e2.symm)).trans hh, r⟩⟩
theorem TxtIn.new {w W : World} {v : Value} {l : List ByteArray} (h : TxtRow W w.heap.size v l) : TxtIn w.heap.size W.heap.size v l W := ⟨h, fun q hq => (World.ownsRow.lt h q hq).2⟩
theorem WrIn.new {w W : World} {v : Value} {l : List Wr} (h : WrRow W w.heap.size v l) : WrIn w.heap.size W.heap.size v l W := ⟨h, fun q hq => (World.ownsRow.lt h q hq).2⟩
theorem TxtIn.below {lo hi : Nat} {v : Value} {l : List ByteArray} {W W' : World} (h : TxtIn lo hi v l W) (b : Below W.heap.size W W') : TxtIn lo hi v l W' := ⟨h.r.below b, h.t⟩
theorem WrIn.below {lo hi : Nat} {v : Value} {l : List Wr} {W W' : World} (h : WrIn lo hi v l W) (b : Below W.heap.size W W') : WrIn lo hi v l W' := ⟨h.r.below b, h.t⟩
theorem TxtIn.lo {lo hi : Nat} {v : Value} {l : List ByteArray} {W : World} (h : TxtIn lo hi v l W) (q : Nat) (hq : v.ownBlock = some q) : lo ≤ q := (World.ownsRow.lt h.r q hq).1
theorem WrIn.lo {lo hi : Nat} {v : Value} {l : List Wr} {W : World} (h : WrIn lo hi v l W) (q : Nat) (hq : v.ownBlock = some q) : lo ≤ q := (World.ownsRow.lt h.r q hq).1
theorem TxtIn.gb {lo hi lo' hi' : Nat} {v : Value} {l : List ByteArray} {W W' : World} {r : Option Nat} (h : TxtIn lo hi v l W) (g : W.grownBy W' r) (hr : ∀ q, r = some q → lo' ≤ q ∧ q < hi') (ha : hi ≤ lo' ∨ hi' ≤ lo) : TxtIn lo hi v l W' :=
  ⟨own_keep h.r g (fun q hq e => by have := hr q e; have := h.t q hq; have := h.lo q hq; omega), h.t⟩
theorem WrIn.gb {lo hi lo' hi' : Nat} {v : Value} {l : List Wr} {W W' : World} {r : Option Nat} (h : WrIn lo hi v l W) (g : W.grownBy W' r) (hr : ∀ q, r = some q → lo' ≤ q ∧ q < hi') (ha : hi ≤ lo' ∨ hi' ≤ lo) : WrIn lo hi v l W' :=
  ⟨own_keep h.r g (fun q hq e => by have := hr q e; have := h.t q hq; have := h.lo q hq; omega), h.t⟩
theorem below_gb {n : Nat} {w W W' : World} {r : Option Nat} (b : Below n w W) (hn : n ≤ W.heap.size) (g : W.grownBy W' r) (hr : ∀ q, r = some q → n ≤ q) : Below n w W' := b.grown g hn hr

theorem eqTxts_same (u v : Value) (l : List ByteArray) (w : World) (hl : l.length ≤ 1048577) (hu : TxtsAt w u l) (hv : TxtsAt w v l) :
    Calls Try.prog 9 #[u, v] w fun r w' => r = .returned (.bool true) ∧ Below w.heap.size w w' := by
  have := eqStringS_any u v l l w (by omega) hu hv
  rwa [decide_eq_true rfl] at this

theorem eqWrs_same (u v : Value) (l : List Wr) (w : World) (hl : l.length ≤ 1048577) (hu : WrsAt w u l) (hv : WrsAt w v l) :
    Calls Try.prog 8 #[u, v] w fun r w' => r = .returned (.bool true) ∧ Below w.heap.size w w' := by
  have := eqWrS_any u v l l w (by omega) hu hv
  rwa [decide_eq_true rfl] at this

set_option maxRecDepth 100000 in
set_option maxHeartbeats 2000000 in
theorem wDiff (u v : Value) (a b : List ByteArray) (w : World) (hu : TxtsAt w u a) (hv : TxtsAt w v b) (ha : a.length ≤ 9223372036854775807) (hsa : ∀ t, t < a.length → a[t]!.size ≤ 9223372036854775807) (hb : b.length ≤ 9223372036854775807) (hsb : ∀ t, t < b.length → b[t]!.size ≤ 9223372036854775807) :
    Calls Try.prog 3 #[u, v] w fun e w' => e = .returned (.bool true) ∧ Below w.heap.size w w' := by
  have HA : ∀ w', Below w.heap.size w w' → TxtsAt w' u a := fun w' h => hu.below h
  have HB : ∀ w', Below w.heap.size w w' → TxtsAt w' v b := fun w' h => hv.below h
  have HZ1 := szStringS_at u a w hu ha hsa
  have HZ2 := fun (y : Int) (h0 : 0 ≤ y) (h1 : y ≤ 1048576) w' (h : Below w.heap.size w w') => szStringS_le v b y w' h0 h1 (HB w' h) hb hsb
  have HDL := diffN_len a b
  have HS := fun x y w' h1 h2 => sDiff x y a b w' h1 h2
  have HI : Hid ((∀ t, t < b.length → b[t]!.size ≤ 1048576) → ∀ x y w', TxtsAt w' x a → TxtsAt w' y b → Calls Try.prog 7 #[x, y] w' fun e w'' => ∃ r, e = .returned r ∧ WrRow w'' w'.heap.size r (diffN a b) ∧ Below w'.heap.size w' w'') := fun hs x y w' h1 h2 => iDiff x y a b w' hs h1 h2
  generalize diffN a b = D at *
  have HED := fun x y w' h1 h2 => eqWrs_same x y D w' (by omega) h1 h2
  go_enter Try.func3, Try.ntmps3
  go_wp2_with fail
  refine HZ1.mono ?_
  rintro e w1 ⟨q1, rfl, ⟨hq0, hq1⟩, HQ1, b1⟩
  by_cases hq : q1 < 0
  · go_wp2
    go_ret
    exact ⟨rfl, b1⟩
  · obtain ⟨hla, -⟩ := HQ1.out (by omega)
    go_wp2_with fail
    refine (HZ2 q1 (by omega) hq1 w1 b1).mono ?_
    rintro e w2 ⟨q2, rfl, ⟨hr0, hr1⟩, HQ2, b2⟩
    have B2 := b1.trans (b2.mono b1.size)
    by_cases hqq : q2 < 0
    · go_wp2
      go_ret
      exact ⟨rfl, B2⟩
    · obtain ⟨hlb, hlbs⟩ := HQ2.out (by omega)
      have HTA := fun w' (h : Below w.heap.size w w') => toStringS_any u a w' hla (HA w' h)
      have HTB := fun w' (h : Below w.heap.size w w') => toStringS_any v b w' hlb (HB w' h)
      have HIM := HI.out hlbs
      have HEA := fun x y w' h1 h2 => eqTxts_same x y a w' (by omega) h1 h2
      have HEB := fun x y w' h1 h2 => eqTxts_same x y b w' (by omega) h1 h2
      clear HQ1 HQ2 HZ1 HZ2 HI b1 b2 HA HB
      go_wp2_with fail
      refine (HTA w2 B2).mono ?_
      rintro e w3 ⟨u3, rfl, r3, b3⟩
      have B3 := B2.trans (b3.mono B2.size)
      go_wp2_with fail
      refine (HTB w3 B3).mono ?_
      rintro e w4 ⟨u4, rfl, r4, b4⟩
      have B4 := B3.trans (b4.mono B3.size)
      go_wp2_with fail
      refine (HS _ _ w4 (r3.below b4).at r4.at).mono ?_
      rintro e w5 ⟨vs, rfl, r5, b5⟩
      have B5 := B4.trans (b5.mono B4.size)
      have s5 := WrIn.new r5
      clear r3 r4 r5 b3 b4 b5
      go_wp2_with fail
      refine (HTA w5 B5).mono ?_
      rintro e w6 ⟨x0, rfl, r6, b6⟩
      have B6 := B5.trans (b6.mono B5.size)
      have s6 := s5.below b6
      have x6 := TxtIn.new r6
      go_wp2_with fail
      refine (HTB w6 B6).mono ?_
      rintro e w7 ⟨x1, rfl, r7, b7⟩
      have B7 := B6.trans (b7.mono B6.size)
      have s7 := s6.below b7
      have x7 := x6.below b7
      have y7 := TxtIn.new r7
      go_wp2_with fail
      refine (HIM _ _ w7 x7.r.at y7.r.at).mono ?_
      rintro e w8 ⟨vg, rfl, r8, b8⟩
      have B8 := B7.trans (b8.mono B7.size)
      have s8 := s7.below b8
      have x8 := x7.below b8
      have y8 := y7.below b8
      have g8 := WrIn.new r8
      have z5 := B5.size
      have z6 := b6.size
      have z7 := b7.size
      have z8 := b8.size
      clear s5 s6 s7 x6 x7 y7 r6 r7 r8 b6 b7 b8
      go_wp2_with fail
      refine (HED _ _ w8 g8.r.at s8.r.at).mono ?_
      rintro e w9 ⟨rfl, b9⟩
      have B9 := B8.trans (b9.mono B8.size)
      have s9 := s8.below b9
      have x9 := x8.below b9
      have y9 := y8.below b9
      have g9 := g8.below b9
      clear s8 x8 y8 g8
      go_wp2_with fail
      refine (HTA w9 B9).mono ?_
      rintro e w10 ⟨u10, rfl, r10, b10⟩
      have B10 := B9.trans (b10.mono B9.size)
      go_wp2_with fail
      refine (HEA _ _ w10 (x9.below b10).r.at r10.at).mono ?_
      rintro e w11 ⟨rfl, b11⟩
      have B11 := B10.trans (b11.mono B10.size)
      have s11 := (s9.below b10).below b11
      have x11 := (x9.below b10).below b11
      have y11 := (y9.below b10).below b11
      have g11 := (g9.below b10).below b11
      have z9 := b9.size
      have z10 := b10.size
      have z11 := b11.size
      clear s9 x9 y9 g9 r10 b9 b10 b11
      go_wp2_with fail
      refine (HTB w11 B11).mono ?_
      rintro e w12 ⟨u12, rfl, r12, b12⟩
      have B12 := B11.trans (b12.mono B11.size)
      go_wp2_with fail
      refine (HEB _ _ w12 (y11.below b12).r.at r12.at).mono ?_
      rintro e w13 ⟨rfl, b13⟩
      have B13 := B12.trans (b13.mono B12.size)
      have s13 := (s11.below b12).below b13
      have x13 := (x11.below b12).below b13
      have y13 := (y11.below b12).below b13
      have g13 := (g11.below b12).below b13
      have z12 := b12.size
      have z13 := b13.size
      clear s11 x11 y11 g11 r12 b12 b13
      have HM1 := markStringS_any x0 a 1 w5.heap.size w13 x13.r (by omega) (by decide) (by decide)
      go_wp2_with fail
      refine HM1.mono ?_
      rintro e w14 ⟨rfl, -, g14⟩
      have hx0 : ∀ q, x0.ownBlock = some q → w5.heap.size ≤ q ∧ q < w6.heap.size := fun q hq => ⟨x13.lo q hq, x13.t q hq⟩
      have B14 := below_gb B13 B13.size g14 (fun q hq => by have := hx0 q hq; omega)
      have s14 := s13.gb g14 hx0 (by omega)
      have y14 := y13.gb g14 hx0 (by omega)
      have g14' := g13.gb g14 hx0 (by omega)
      have HM2 := markStringS_any x1 b (1 + a.length) w6.heap.size w14 y14.r (by omega) (by omega) (by omega)
      clear s13 x13 y13 g13 HM1 g14
      go_wp2_with fail
      refine HM2.mono ?_
      rintro e w15 ⟨rfl, -, g15⟩
      have hx1 : ∀ q, x1.ownBlock = some q → w6.heap.size ≤ q ∧ q < w7.heap.size := fun q hq => ⟨y14.lo q hq, y14.t q hq⟩
      have B15 := below_gb B14 B14.size g15 (fun q hq => by have := hx1 q hq; omega)
      have s15 := s14.gb g15 hx1 (by omega)
      have g15' := g14'.gb g15 hx1 (by omega)
      obtain ⟨kk, HKK⟩ : ∃ kk : Nat, Hid (kk = 1 + a.length + b.length) := ⟨_, rfl⟩
      rw [← HKK.out]
      have hkk : ¬ ((kk : Int) < 0) := by omega
      have HE15 := HED _ _ w15 g15'.r.at s15.r.at
      clear s14 y14 g14' HM2 g15
      go_wp2_with (go_at_call 8; refine HE15.mono ?_; rintro e w16 ⟨rfl, b16⟩)
      have B16 := B15.trans (b16.mono B15.size)
      have s16 := s15.below b16
      have g16 := g15'.below b16
      have HM3 := markWrS_any vg D 1 w7.heap.size w16 g16.r (by omega) (by decide) (by decide)
      have HHG := fun w' h => heldWrS_marks vg D.length 1 w' (by omega) (by decide) (by decide) h
      have HM3 : Calls Try.prog 11 #[vg, .int .i64 1] w16 fun e w' => e = .returned (.int .i64 ((1 + 2 * D.length : Nat) : Int)) ∧ WrRow w' w7.heap.size vg (marksW 1 D.length) ∧ w16.grownBy w' vg.ownBlock := HM3
      have HHG : ∀ w', WrsAt w' vg (marksW 1 D.length) → Calls Try.prog 12 #[vg, .int .i64 1] w' fun e w'' => e = .returned (.int .i64 ((1 + 2 * D.length : Nat) : Int)) ∧ Below w'.heap.size w' w'' := HHG
      obtain ⟨nm, HNM⟩ : ∃ nm : Nat, Hid (nm = 1 + 2 * D.length) := ⟨_, rfl⟩
      rw [← HNM.out] at HM3 HHG
      generalize marksW 1 D.length = mW at HM3 HHG
      have hnn : ¬ ((nm : Int) < 0) := by omega
      clear s15 g15' HE15 b16
      go_wp2_with fail
      refine HM3.mono ?_
      rintro e w17 ⟨rfl, r17, g17⟩
      have hvg : ∀ q, vg.ownBlock = some q → w7.heap.size ≤ q ∧ q < w8.heap.size := fun q hq => ⟨g16.lo q hq, g16.t q hq⟩
      have B17 := below_gb B16 B16.size g17 (fun q hq => by have := hvg q hq; omega)
      have s17 := s16.gb g17 hvg (by omega)
      have m17 : WrIn w7.heap.size w8.heap.size vg mW w17 := ⟨r17, g16.t⟩
      clear s16 g16 HM3 g17 r17
      go_wp2_with fail
      refine (HHG w17 m17.r.at).mono ?_
      rintro e w18 ⟨rfl, b18⟩
      have B18 := B17.trans (b18.mono B17.size)
      have s18 := s17.below b18
      have m18 := m17.below b18
      clear s17 m17 b18
      go_wp2_with fail
      refine (HTA w18 B18).mono ?_
      rintro e w19 ⟨u19, rfl, r19, b19⟩
      have B19 := B18.trans (b19.mono B18.size)
      go_wp2_with fail
      refine (HTB w19 B19).mono ?_
      rintro e w20 ⟨u20, rfl, r20, b20⟩
      have B20 := B19.trans (b20.mono B19.size)
      go_wp2_with fail
      refine (HIM _ _ w20 (r19.below b20).at r20.at).mono ?_
      rintro e w21 ⟨vh, rfl, r21, b21⟩
      have B21 := B20.trans (b21.mono B20.size)
      have s21 := ((s18.below b19).below b20).below b21
      have m21 := ((m18.below b19).below b20).below b21
      clear s18 m18 r19 r20 b19 b20 b21
      go_wp2_with fail
      refine (HED _ _ w21 r21.at s21.r.at).mono ?_
      rintro e w22 ⟨rfl, b22⟩
      have B22 := B21.trans (b22.mono B21.size)
      have m22 := m21.below b22
      go_wp2_with fail
      refine (HHG w22 m22.r.at).mono ?_
      rintro e w23 ⟨rfl, b23⟩
      go_wp2
      go_ret
      exact ⟨rfl, B22.trans (b23.mono B22.size)⟩

end Go.Proofs.Ytfdahfealibbnaa
