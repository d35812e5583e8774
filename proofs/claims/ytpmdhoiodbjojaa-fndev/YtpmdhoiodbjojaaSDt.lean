/- Devices: spec.Flush, spec.Crash. -/
import Derived.Test.YtpmdhoiodbjojaaRows
import Derived.Test.YtpmdhoiodbjojaaSDs
namespace Go.Proofs.Ytpmdhoiodbjojaa
open Go.RowKit

/-- the box of a device that came in, and that of the answer -/
structure FlSt (w : World) (a b : Value) (wr : World) : Prop where
  hP : wr.heap[w.heap.size]? = some (.cells #[a, b] 27)
  hR : wr.heap[w.heap.size + 1]? = some (.cells #[.slice none 0 0, .slice none 0 0] 27)
  bel : Below w.heap.size w wr
theorem FlSt.below {w : World} {a b : Value} {wr wr' : World} (h : FlSt w a b wr) (bb : Below wr.heap.size wr wr') : FlSt w a b wr' := ⟨(bb.block _ (lt_of_block h.hP)).trans h.hP, (bb.block _ (lt_of_block h.hR)).trans h.hR, h.bel.trans (bb.mono h.bel.size)⟩
theorem FlSt.grown {w : World} {a b : Value} {wr wr' : World} {r : Option Nat} (h : FlSt w a b wr) (g : wr.grownBy wr' r) (hr : ∀ q, r = some q → w.heap.size + 1 < q) : FlSt w a b wr' :=
  ⟨(g.block _ (lt_of_block h.hP) (fun e => by have := hr _ e.symm; omega)).trans h.hP, (g.block _ (lt_of_block h.hR) (fun e => by have := hr _ e.symm; omega)).trans h.hR,
   ⟨g.os.trans h.bel.os, g.tape.trans h.bel.tape, g.output.trans h.bel.output, Nat.le_trans h.bel.size g.size, fun k hk => (g.block k (Nat.lt_of_lt_of_le hk h.bel.size) (fun e => by have := hr _ e.symm; omega)).trans (h.bel.block k hk)⟩⟩
theorem FlSt.sz {w : World} {a b : Value} {wr : World} (h : FlSt w a b wr) : w.heap.size + 1 < wr.heap.size := lt_of_block h.hR
theorem FlSt.out {w : World} {a b : Value} {wr : World} (h : FlSt w a b wr) : wr.cell? ⟨w.heap.size, 0, none⟩ = some a ∧ wr.cell? ⟨w.heap.size, 1, none⟩ = some b ∧ wr.cell? ⟨w.heap.size + 1, 0, none⟩ = some (.slice none 0 0) ∧ wr.cell? ⟨w.heap.size + 1, 1, none⟩ = some (.slice none 0 0) ∧ (∀ i, wr.frozen? ⟨w.heap.size + 1, i, none⟩ = false) ∧ Hid (wr.heap[w.heap.size + 1]? = some (.cells #[.slice none 0 0, .slice none 0 0] 27) ∧ Below w.heap.size w wr) :=
  ⟨cell_blk h.hP 0, cell_blk h.hP 1, cell_blk h.hR 0, cell_blk h.hR 1, fun i => unfrozen_blk h.hR i, ⟨h.hR, h.bel⟩⟩
theorem FlSt.start (w : World) (a b : Value) : FlSt w a b ((w.alloc (.cells #[a, b] 27)).alloc (.cells #[.slice none 0 0, .slice none 0 0] 27)) :=
  ⟨heap_a2 _ _ _, heap_a2' _ _ _, (below_lit w _).alloc (by simp) _⟩
theorem fl_below {w wr : World} {u u' : Value} (h : Below w.heap.size w wr) : Below w.heap.size w ((wr.setCell ⟨w.heap.size + 1, 0, none⟩ u).setCell ⟨w.heap.size + 1, 1, none⟩ u') :=
  (h.setCell (by show w.heap.size ≤ w.heap.size + 1; omega) _).setCell (by show w.heap.size ≤ w.heap.size + 1; omega) _
theorem nil_row (w : World) (base : Nat) : DevRow w base (.slice none 0 0) (.slice none 0 0) ⟨[], []⟩ := ⟨⟨rfl, .inl ⟨rfl, rfl⟩⟩, ⟨rfl, .inl ⟨rfl, rfl⟩⟩, fun q hq => by cases hq⟩

theorem fl_start (v : Value) (d : Dv) (w : World) (hl : d.blocks.length ≤ 9223372036854775807) (hl2 : d.pend.length ≤ 9223372036854775807) (a b : Value) (hvv : v = .agg #[a, b]) (hv : DevAt w v d) :
    (Calls Try.prog 12 #[.agg #[a, b]] ((w.alloc (.cells #[a, b] 27)).alloc (.cells #[.slice none 0 0, .slice none 0 0] 27)) fun e w' => e = .returned (.bool (devB d)) ∧ Below (w.heap.size + 1 + 1) ((w.alloc (.cells #[a, b] 27)).alloc (.cells #[.slice none 0 0, .slice none 0 0] 27)) w') ∧
    Hid (∀ w1, Below (w.heap.size + 1 + 1) ((w.alloc (.cells #[a, b] 27)).alloc (.cells #[.slice none 0 0, .slice none 0 0] 27)) w1 → FlSt w a b w1) ∧
    Hid (devB d = true → ∀ w1, FlSt w a b w1 → Calls Try.prog 50 #[.agg #[a, b]] w1 fun e w' => ∃ a b, e = .returned (.agg #[a, b]) ∧ DevRow w' w1.heap.size a b d ∧ Below w1.heap.size w1 w') := by
  subst hvv
  have S := FlSt.start w a b
  have hs : ((w.alloc (.cells #[a, b] 27)).alloc (.cells #[.slice none 0 0, .slice none 0 0] 27)).heap.size = w.heap.size + 1 + 1 := by simp
  refine ⟨?_, fun w1 b1 => S.below (by rw [hs]; exact b1), fun hd w1 s1 => ?_⟩
  · have := sDevOk (.agg #[a, b]) d _ hl hl2 (hv.below S.bel)
    rwa [hs] at this
  · have := (devB_iff d).1 hd
    exact l8Copy_any (.agg #[a, b]) d w1 this.1.1 this.1.2 (hv.below s1.bel)

set_option maxRecDepth 100000 in
set_option maxHeartbeats 2000000 in
theorem sFlush (v : Value) (d : Dv) (w : World) (hl : d.blocks.length ≤ 9223372036854775807) (hl2 : d.pend.length ≤ 9223372036854775807) (hv : DevAt w v d) :
    Calls Try.prog 29 #[v] w fun e w' => ∃ a b, e = .returned (.agg #[a, b]) ∧ DevRow w' w.heap.size a b (keptN (fun i => true || bitB 0 i) d) ∧ Below w.heap.size w w' := by
  obtain ⟨a0, b0, hvv, -, -⟩ := id hv
  obtain ⟨H1, HST, H2⟩ := fl_start v d w hl hl2 a0 b0 hvv hv
  subst hvv
  go_enter Try.func29, Try.ntmps29
  go_wp2_with fail
  refine H1.mono ?_
  rintro e w1 ⟨rfl, b1⟩
  have st1 := HST.out w1 b1
  obtain ⟨p0, p1, r0, r1, rf, B1⟩ := st1.out
  cases hd : devB d with
  | false =>
    have KK : Hid (keptN (fun i => true || bitB 0 i) d = ⟨[], []⟩) := by show _ = _; unfold keptN; rw [if_neg (by rw [hd]; decide)]
    go_wp2
    refine bodyPost_ret (results_dev Try.results29 _ _ (w.heap.size + 1) _ rfl rfl (put2d _ _ B1.out.1)) rfl ⟨_, _, rfl, ?_, fl_below B1.out.2⟩
    rw [KK.out]
    exact nil_row _ _
  | true =>
    have h18 := ((devB_iff d).1 hd).1.1
    go_wp2_with fail
    refine (H2.out hd w1 st1).mono ?_
    rintro e w2 ⟨a, b, rfl, r2, b2⟩
    have L2 := l8Done_any a b d 0 true w1.heap.size w2 r2 hd
    have st2 := st1.below b2
    have hz1 := st1.sz
    have KK : Hid (keptN (fun i => true || bitB 0 i) d = ⟨doneN (fun i => true || bitB 0 i) 0 d.pend d.blocks, []⟩) := by show _ = _; unfold keptN; rw [if_pos hd]
    go_wp2_with fail
    refine L2.mono ?_
    rintro e w3 ⟨b', rfl, r3, g3⟩
    have st3 := st2.grown g3 (fun q hq => by have := (World.ownsRow.lt r2.t q hq).1; omega)
    obtain ⟨x0, x1, y0, y1, yf, B3⟩ := st3.out
    obtain ⟨g, cap, hfa, -, -⟩ := txt_form r3.t (by rw [doneN_len]; omega)
    obtain ⟨bb', cb', hfb', -⟩ := wr_form r3.p
    dsimp only at hfa hfb'
    rw [doneN_len, h18] at hfa
    have R3 : Hid _ := r3
    clear r3 r2 L2 st1 st2 st3 h18
    subst hfa
    subst hfb'
    go_wp2
    refine bodyPost_ret (results_dev Try.results29 _ _ (w.heap.size + 1) _ rfl rfl (put2d _ _ B3.out.1)) rfl ⟨_, _, rfl, ?_, fl_below B3.out.2⟩
    rw [KK.out]
    exact ((R3.out.low (by omega) _ _).low (by omega) _ _).mono (by omega)

set_option maxRecDepth 100000 in
set_option maxHeartbeats 2000000 in
theorem sCrash (v : Value) (d : Dv) (mask : Int) (w : World) (hl : d.blocks.length ≤ 9223372036854775807) (hl2 : d.pend.length ≤ 9223372036854775807) (hv : DevAt w v d) :
    Calls Try.prog 30 #[v, .int .i64 mask] w fun e w' => ∃ a b, e = .returned (.agg #[a, b]) ∧ DevRow w' w.heap.size a b (keptN (fun i => false || bitB mask i) d) ∧ Below w.heap.size w w' := by
  obtain ⟨a0, b0, hvv, -, -⟩ := id hv
  obtain ⟨H1, HST, H2⟩ := fl_start v d w hl hl2 a0 b0 hvv hv
  subst hvv
  go_enter Try.func30, Try.ntmps30
  go_wp2_with fail
  refine H1.mono ?_
  rintro e w1 ⟨rfl, b1⟩
  have st1 := HST.out w1 b1
  obtain ⟨p0, p1, r0, r1, rf, B1⟩ := st1.out
  cases hd : devB d with
  | false =>
    have KK : Hid (keptN (fun i => false || bitB mask i) d = ⟨[], []⟩) := by show _ = _; unfold keptN; rw [if_neg (by rw [hd]; decide)]
    go_wp2
    refine bodyPost_ret (results_dev Try.results30 _ _ (w.heap.size + 1) _ rfl rfl (put2d _ _ B1.out.1)) rfl ⟨_, _, rfl, ?_, fl_below B1.out.2⟩
    rw [KK.out]
    exact nil_row _ _
  | true =>
    have h18 := ((devB_iff d).1 hd).1.1
    go_wp2_with fail
    refine (H2.out hd w1 st1).mono ?_
    rintro e w2 ⟨a, b, rfl, r2, b2⟩
    have L2 := l8Done_any a b d mask false w1.heap.size w2 r2 hd
    have st2 := st1.below b2
    have hz1 := st1.sz
    have KK : Hid (keptN (fun i => false || bitB mask i) d = ⟨doneN (fun i => false || bitB mask i) 0 d.pend d.blocks, []⟩) := by show _ = _; unfold keptN; rw [if_pos hd]
    go_wp2_with fail
    refine L2.mono ?_
    rintro e w3 ⟨b', rfl, r3, g3⟩
    have st3 := st2.grown g3 (fun q hq => by have := (World.ownsRow.lt r2.t q hq).1; omega)
    obtain ⟨x0, x1, y0, y1, yf, B3⟩ := st3.out
    obtain ⟨g, cap, hfa, -, -⟩ := txt_form r3.t (by rw [doneN_len]; omega)
    obtain ⟨bb', cb', hfb', -⟩ := wr_form r3.p
    dsimp only at hfa hfb'
    rw [doneN_len, h18] at hfa
    have R3 : Hid _ := r3
    clear r3 r2 L2 st1 st2 st3 h18
    subst hfa
    subst hfb'
    go_wp2
    refine bodyPost_ret (results_dev Try.results30 _ _ (w.heap.size + 1) _ rfl rfl (put2d _ _ B3.out.1)) rfl ⟨_, _, rfl, ?_, fl_below B3.out.2⟩
    rw [KK.out]
    exact ((R3.out.low (by omega) _ _).low (by omega) _ _).mono (by omega)

end Go.Proofs.Ytpmdhoiodbjojaa
