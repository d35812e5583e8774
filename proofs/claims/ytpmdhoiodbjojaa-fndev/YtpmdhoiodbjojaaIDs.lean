/- Devices, impl: settled. -/
import Derived.Test.YtpmdhoiodbjojaaRows
import Derived.Test.YtpmdhoiodbjojaaIDr
namespace Go.Proofs.Ytpmdhoiodbjojaa
open Go.RowKit

/-- what stands while the first of the writes are settled -/
structure SeSt (w : World) (a0 b0 : Value) (o base g cap : Nat) (b : Value) (pn : List Wr) (T : List ByteArray) (wr : World) : Prop where
  hO : wr.heap[o]? = some (.cells #[.slice (some ⟨g, 0, none⟩) 18 cap, b] 27)
  st : FlSt w a0 b0 wr
  t : wr.ownsRow base 9 1 (.slice (some ⟨g, 0, none⟩) 18 cap) 18 (strsV T)
  p : WrRow wr base b pn
theorem SeSt.below {w : World} {a0 b0 : Value} {o base g cap : Nat} {b : Value} {pn : List Wr} {T : List ByteArray} {wr wr' : World} (h : SeSt w a0 b0 o base g cap b pn T wr) (bb : Below wr.heap.size wr wr') : SeSt w a0 b0 o base g cap b pn T wr' :=
  ⟨(bb.block _ (lt_of_block h.hO)).trans h.hO, h.st.below bb, own_below h.t bb, own_below h.p bb⟩
theorem SeSt.put {w : World} {a0 b0 : Value} {o base g cap : Nat} {b : Value} {pn : List Wr} {T : List ByteArray} {wr : World} (h : SeSt w a0 b0 o base g cap b pn T wr) (hg : w.heap.size + 1 < g) (hgo : g ≠ o) (ap : b.ownBlock ≠ some g) (y : Nat) (x : ByteArray) : SeSt w a0 b0 o base g cap b pn (T.set y x) (wr.setCell ⟨g, y, none⟩ (.string x)) :=
  ⟨(Below.heap_setCell wr ⟨g, y, none⟩ _ o (Ne.symm hgo)).trans h.hO, h.st.grown (gbr_set wr g y _) (fun q hq => by cases hq; exact hg), by have := (h.t.stored y (.string x)).1; rwa [strsV_set] at this, own_st h.p g y _ fun q hq e => ap (by rw [hq, e])⟩
theorem SeSt.cells {w : World} {a0 b0 : Value} {o base g cap : Nat} {b : Value} {pn : List Wr} {T : List ByteArray} {wr : World} (h : SeSt w a0 b0 o base g cap b pn T wr) : (wr.cell? ⟨o, 0, none⟩ = some (.slice (some ⟨g, 0, none⟩) 18 cap) ∧ wr.cell? ⟨o, 1, none⟩ = some b) ∧ ∀ y, y < 18 → (∃ u, wr.cell? ⟨g, y, none⟩ = some u) ∧ wr.frozen? ⟨g, y, none⟩ = false :=
  ⟨⟨cell_blk h.hO 0, cell_blk h.hO 1⟩, fun y hy => ⟨⟨_, (h.t.cellAt y (by omega)).trans (List.getElem?_eq_getElem (by have := h.t.1; omega))⟩, h.t.frozenAt y⟩⟩

set_option maxRecDepth 100000 in
set_option maxHeartbeats 4000000 in
theorem settled_any (v : Value) (d : Dv) (c : Int) (w : World) (hl : d.blocks.length ≤ 9223372036854775807) (hl2 : d.pend.length ≤ 9223372036854775807) (hv : DevAt w v d) :
    Calls Try.prog 37 #[v, .func (.func 38) #[.int .i64 c] #[]] w fun e w' => ∃ a b, e = .returned (.agg #[a, b]) ∧ DevRow w' w.heap.size a b (keptN (bitB c) d) ∧ Below w.heap.size w w' := by
  obtain ⟨a0, b0, hvv, ha0, hb0⟩ := id hv
  have S := FlSt.start w a0 b0
  have hs0 : ((w.alloc (.cells #[a0, b0] 27)).alloc (.cells #[.slice none 0 0, .slice none 0 0] 27)).heap.size = w.heap.size + 1 + 1 := by simp
  subst hvv
  have H1 := iDevOk (.agg #[a0, b0]) d _ hl hl2 (hv.below S.bel)
  rw [hs0] at H1
  have HST : Hid (∀ w1, Below (w.heap.size + 1 + 1) ((w.alloc (.cells #[a0, b0] 27)).alloc (.cells #[.slice none 0 0, .slice none 0 0] 27)) w1 → FlSt w a0 b0 w1) := fun w1 b1 => S.below (by rw [hs0]; exact b1)
  have H2 : Hid (devB d = true → ∀ w1, FlSt w a0 b0 w1 → _) := fun hd w1 s1 => copied_any (.agg #[a0, b0]) d w1 hd (hv.below s1.bel)
  clear S hv
  obtain ⟨ku, HKU⟩ : ∃ ku, Hid (ku = keptN (bitB c) d) := ⟨_, rfl⟩
  rw [← HKU.out]
  go_enter Try.func37, Try.ntmps37
  go_wp2_with fail
  refine H1.mono ?_
  rintro e w1 ⟨rfl, b1⟩
  have st1 := HST.out w1 b1
  obtain ⟨p0, p1, r0, r1, rf, B1⟩ := st1.out
  cases hd : devB d with
  | false =>
    have KK : ku = ⟨[], []⟩ := by rw [HKU.out]; unfold keptN; rw [if_neg (by rw [hd]; decide)]
    clear HKU
    subst KK
    go_wp2
    exact bodyPost_ret (results_dev Try.results37 _ _ (w.heap.size + 1) _ rfl rfl (put2d _ _ B1.out.1)) rfl ⟨_, _, rfl, nil_row _ _, fl_below B1.out.2⟩
  | true =>
    obtain ⟨⟨h18, h40⟩, -, hrt⟩ := (devB_iff d).1 hd
    have KK : Hid (ku = ⟨doneN (bitB c) 0 d.pend d.blocks, []⟩) := by show _ = _; rw [HKU.out]; unfold keptN; rw [if_pos hd]
    have hz1 := st1.sz
    clear HKU
    go_wp2_with fail
    refine (H2.out hd w1 st1).mono ?_
    rintro e w2 ⟨a, b, rfl, r2, b2⟩
    have st2 := st1.below b2
    obtain ⟨g, cap, hfa, hbg, hgw⟩ := txt_form r2.t (by omega)
    obtain ⟨bb, cb, hfb, hbc⟩ := wr_form r2.p
    have ap : b.ownBlock ≠ some g := r2.ap g (by rw [hfa]; rfl)
    have BL := below_lit w2 (.cells #[a, b] 27)
    have se : SeSt w a0 b0 w2.heap.size w1.heap.size g cap b d.pend d.blocks (w2.alloc (.cells #[a, b] 27)) := ⟨by rw [heap_a1, hfa, h18], st2.below BL, by have := own_below r2.t BL; rw [hfa, h18] at this; rwa [hfa, h18], own_below r2.p BL⟩
    obtain ⟨m, HM⟩ : ∃ m, Hid (m = d.pend.length) := ⟨_, rfl⟩
    have HSTEP : Hid (∀ k, k < m → doneN (bitB c) 0 (d.pend.take (k + 1)) d.blocks = if bitB c k then (doneN (bitB c) 0 (d.pend.take k) d.blocks).set d.pend[k]!.block.toNat d.pend[k]!.text else doneN (bitB c) 0 (d.pend.take k) d.blocks) := fun k hk => doneN_step _ _ _ _ (by rw [← HM.out]; exact hk)
    have HEND : Hid (doneN (bitB c) 0 (d.pend.take m) d.blocks = doneN (bitB c) 0 d.pend d.blocks) := by show _ = _; rw [HM.out, List.take_length]
    have HLEN : Hid ((doneN (bitB c) 0 d.pend d.blocks).length = 18) := by show _ = _; rw [doneN_len, h18]
    have HST0 : Hid (doneN (bitB c) 0 (d.pend.take 0) d.blocks = d.blocks) := by show _ = _; simp [doneN]
    rw [h18] at hfa
    rw [← HM.out] at hfb hbc hrt h40
    generalize hF : (fun k => doneN (bitB c) 0 (d.pend.take k) d.blocks) = F
    have HF : Hid (∀ k, doneN (bitB c) 0 (d.pend.take k) d.blocks = F k) := fun k => by rw [← hF]
    rw [HF.out] at HEND HST0
    have HSTEP : Hid (∀ k, k < m → F (k + 1) = if bitB c k then (F k).set d.pend[k]!.block.toNat d.pend[k]!.text else F k) := fun k hk => by rw [← HF.out, ← HF.out]; exact HSTEP.out k hk
    clear HF hF
    generalize doneN (bitB c) 0 d.pend d.blocks = D at *
    rw [← HST0.out] at se
    clear HST0 h18 r2 st2 BL
    subst hfa
    subst hfb
    have hzw2 : w1.heap.size ≤ w2.heap.size := b2.size
    clear b2 p0 p1 r0 r1 rf B1 st1 b1 H1
    go_wp2
    generalize w2.alloc (.cells #[.slice (some ⟨g, 0, none⟩) 18 cap, .slice bb m cb] 27) = W2 at se ⊢
    go_loopw [17] (fun i wr => ∃ k : Nat, k ≤ m ∧ i = .int .i64 k ∧ SeSt w a0 b0 w2.heap.size w1.heap.size g cap (.slice bb m cb) d.pend (F k) wr) (fun i _ => m - (intOf i).toNat)
    case atStart => exact ⟨0, Nat.zero_le _, rfl, se⟩
    case round =>
      obtain ⟨k, hk, rfl, st⟩ := hrel
      by_cases hlt : k < m
      · obtain ⟨pb, rfl, hob, hcells⟩ := hbc k hlt
        have hc := hcells wr st.p
        obtain ⟨y0, y18, -⟩ := hrt k hlt
        have hst := HSTEP.out k hlt
        have HH := fun w' => has_any c k w' (by omega)
        generalize d.pend[k]! = y at hc y0 y18 hst
        obtain ⟨yb, yt⟩ := y
        dsimp only at *
        obtain ⟨yn, rfl⟩ : ∃ yn : Nat, yb = (yn : Int) := ⟨yb.toNat, by omega⟩
        have k0 := hc.c0
        have k1 := hc.c1
        dsimp only at k0 k1
        rw [Int.toNat_natCast] at hst
        have BA := below_lit wr (.cells #[.int .i64 (yn : Int), .string yt] 35)
        have st' := st.below BA
        obtain ⟨⟨x0, x1⟩, xr⟩ := st'.cells
        obtain ⟨⟨u, xu⟩, xf⟩ := xr yn (by omega)
        have hkm : (k : Int) < (m : Int) := by omega
        have hk0 : (0 : Int) ≤ (k : Int) := by omega
        have hy0 : (0 : Int) ≤ (yn : Int) := by omega
        have HS : Hid _ := st'
        have HF1 : Hid (F (k + 1) = if bitB c k then (F k).set yn yt else F k) := hst
        clear hst xr hcells hc st hrt st' BA
        generalize bitB c k = q at *
        cases q with
        | true =>
          go_wp2_with (go_at_call 38; refine (HH _).mono ?_; rintro e w' ⟨rfl, rfl⟩)
          go_roundw
          case rel => exact ⟨k + 1, by omega, by go_num, by rw [HF1.out]; exact HS.out.put (by omega) (by omega) ap yn yt⟩
          case measure => simp [intOf]; omega
        | false =>
          go_wp2_with (go_at_call 38; refine (HH _).mono ?_; rintro e w' ⟨rfl, rfl⟩)
          go_roundw
          case rel => exact ⟨k + 1, by omega, by go_num, by rw [HF1.out]; exact HS.out⟩
          case measure => simp [intOf]; omega
      · obtain rfl : k = m := by omega
        rw [HEND.out] at st
        have x0 := cell_blk st.hO 0
        have x1 := cell_blk st.hO 1
        have xf := fun i => unfrozen_blk st.hO i
        obtain ⟨p0, p1, r0, r1, rf, -⟩ := st.st.out
        dsimp at x0 x1
        have hzw : w.heap.size + 1 < w2.heap.size := by omega
        have hn1 : ¬ w.heap.size + 1 = w2.heap.size := by omega
        have hn2 : ¬ w2.heap.size = w.heap.size + 1 := by omega
        have hRR := put2d (.slice (some ⟨g, 0, none⟩) 18 cap) (.slice none 0 0) ((Below.heap_setCell wr ⟨w2.heap.size, 1, none⟩ (.slice none 0 0) (w.heap.size + 1) (by simpa using hn1)).trans st.st.hR)
        have hT : TxtRow ((wr.setCell ⟨w2.heap.size, 1, none⟩ (.slice none 0 0)).setCell ⟨w.heap.size + 1, 0, none⟩ (.slice (some ⟨g, 0, none⟩) 18 cap) |>.setCell ⟨w.heap.size + 1, 1, none⟩ (.slice none 0 0)) w.heap.size (.slice (some ⟨g, 0, none⟩) 18 cap) D := by
          unfold TxtRow
          rw [HLEN.out]
          exact own_mono (own_st (own_st (own_st st.t _ _ _ fun q hq => by have := Option.some.inj (show some g = some q from hq); omega) _ _ _ fun q hq => by have := Option.some.inj (show some g = some q from hq); omega) _ _ _ fun q hq => by have := Option.some.inj (show some g = some q from hq); omega) (by omega)
        have hBB : Below w.heap.size w ((wr.setCell ⟨w2.heap.size, 1, none⟩ (.slice none 0 0)).setCell ⟨w.heap.size + 1, 0, none⟩ (.slice (some ⟨g, 0, none⟩) 18 cap) |>.setCell ⟨w.heap.size + 1, 1, none⟩ (.slice none 0 0)) := ((st.st.bel.setCell (by show w.heap.size ≤ w2.heap.size; omega) _).setCell (by show w.heap.size ≤ w.heap.size + 1; omega) _).setCell (by show w.heap.size ≤ w.heap.size + 1; omega) _
        have HFIN : Hid _ := And.intro hRR (And.intro hT hBB)
        have KK' := KK.out
        clear KK st hRR hT hBB
        subst KK'
        go_wp2
        obtain ⟨hRR, hT, hBB⟩ := HFIN.out
        exact bodyPost_ret (results_dev Try.results37 _ _ (w.heap.size + 1) _ rfl rfl hRR) rfl ⟨_, _, rfl, ⟨hT, ⟨rfl, .inl ⟨rfl, rfl⟩⟩, fun q _ hq => by cases hq⟩, hBB⟩

end Go.Proofs.Ytpmdhoiodbjojaa
