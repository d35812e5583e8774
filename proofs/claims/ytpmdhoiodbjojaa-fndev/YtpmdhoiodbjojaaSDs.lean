/- Devices: spec.l8Done. -/
import Derived.Test.YtpmdhoiodbjojaaRows
import Derived.Test.YtpmdhoiodbjojaaIHs
namespace Go.Proofs.Ytpmdhoiodbjojaa
open Go.RowKit

theorem wr_form {w : World} {base : Nat} {b : Value} {l : List Wr} (h : WrRow w base b l) : ∃ bb cb, b = .slice bb l.length cb ∧ ∀ t, t < l.length → ∃ pb, bb = some ⟨pb, 0, none⟩ ∧ b.ownBlock = some pb ∧ ∀ wr, WrRow wr base b l → CellsW wr pb (t * 2) l[t]! := by
  rcases h.2 with ⟨rfl, h0⟩ | ⟨g, cap, cur, rfl, hg, hh, r⟩
  · exact ⟨none, 0, by rw [h0], fun t ht => by omega⟩
  · refine ⟨some ⟨g, 0, none⟩, cap, rfl, fun t ht => ⟨g, rfl, rfl, fun wr hr => ?_⟩⟩
    obtain ⟨a, c, e, -, hc⟩ := hr.at
    obtain ⟨b1, o1, e1, -, h1⟩ := hc t ht
    subst e1
    cases e
    rwa [Nat.zero_add] at h1
theorem txt_form {w : World} {base : Nat} {a : Value} {l : List ByteArray} (h : TxtRow w base a l) (hl : 0 < l.length) : ∃ g cap, a = .slice (some ⟨g, 0, none⟩) l.length cap ∧ base ≤ g ∧ g < w.heap.size := by
  rcases h.2 with ⟨-, h0⟩ | ⟨g, cap, cur, rfl, hg, hh, r⟩
  · omega
  · exact ⟨g, cap, rfl, hg, lt_of_block hh⟩

theorem own_st {w : World} {base size n : Nat} {e : TypeId} {v : Value} {xs : List Value} (h : w.ownsRow base e size v n xs) (g o : Nat) (u : Value) (hne : ∀ q, v.ownBlock = some q → q ≠ g) : (w.setCell ⟨g, o, none⟩ u).ownsRow base e size v n xs :=
  own_same h fun q hq => Below.heap_setCell w ⟨g, o, none⟩ u q (hne q hq)
/-- what stands while the first k of the writes are done -/
structure LdSt (w : World) (base g cap : Nat) (b : Value) (pn : List Wr) (T : List ByteArray) (wr : World) : Prop where
  hP : wr.heap[w.heap.size]? = some (.cells #[.slice (some ⟨g, 0, none⟩) 18 cap, b] 27)
  hR : wr.heap[w.heap.size + 1]? = some (.cells #[.slice none 0 0, .slice none 0 0] 27)
  t : wr.ownsRow base 9 1 (.slice (some ⟨g, 0, none⟩) 18 cap) 18 (strsV T)
  p : WrRow wr base b pn
  gb : w.grownBy wr (some g)
theorem LdSt.below {w : World} {base g cap : Nat} {b : Value} {pn : List Wr} {T : List ByteArray} {wr wr' : World} (h : LdSt w base g cap b pn T wr) (bb : Below wr.heap.size wr wr') : LdSt w base g cap b pn T wr' :=
  ⟨(bb.block _ (lt_of_block h.hP)).trans h.hP, (bb.block _ (lt_of_block h.hR)).trans h.hR, own_below h.t bb, own_below h.p bb, gbr_trans h.gb ⟨bb.os, bb.tape, bb.output, bb.size, fun k hk _ => bb.block k hk⟩⟩
theorem LdSt.put {w : World} {base g cap : Nat} {b : Value} {pn : List Wr} {T : List ByteArray} {wr : World} (h : LdSt w base g cap b pn T wr) (hg : g < w.heap.size) (ap : b.ownBlock ≠ some g) (y : Nat) (x : ByteArray) : LdSt w base g cap b pn (T.set y x) (wr.setCell ⟨g, y, none⟩ (.string x)) :=
  ⟨(Below.heap_setCell wr ⟨g, y, none⟩ _ w.heap.size (by show w.heap.size ≠ g; omega)).trans h.hP, (Below.heap_setCell wr ⟨g, y, none⟩ _ (w.heap.size + 1) (by show w.heap.size + 1 ≠ g; omega)).trans h.hR, by have := (h.t.stored y (.string x)).1; rwa [strsV_set] at this, own_same h.p fun q hq => Below.heap_setCell wr ⟨g, y, none⟩ _ q (by show q ≠ g; intro e; exact ap (by rw [hq, e])), gbr_trans h.gb (gbr_set _ _ _ _)⟩
theorem LdSt.cells {w : World} {base g cap : Nat} {b : Value} {pn : List Wr} {T : List ByteArray} {wr : World} (h : LdSt w base g cap b pn T wr) : (wr.cell? ⟨w.heap.size, 0, none⟩ = some (.slice (some ⟨g, 0, none⟩) 18 cap) ∧ wr.cell? ⟨w.heap.size, 1, none⟩ = some b) ∧ ∀ y, y < 18 → (∃ u, wr.cell? ⟨g, y, none⟩ = some u) ∧ wr.frozen? ⟨g, y, none⟩ = false :=
  ⟨⟨cell_blk h.hP 0, cell_blk h.hP 1⟩, fun y hy => ⟨⟨_, (h.t.cellAt y (by omega)).trans (List.getElem?_eq_getElem (by have := h.t.1; omega))⟩, h.t.frozenAt y⟩⟩

set_option maxRecDepth 100000 in
set_option maxHeartbeats 4000000 in
theorem l8Done_any (a b : Value) (d : Dv) (mask : Int) (all : Bool) (base : Nat) (w : World) (h : DevRow w base a b d) (hd : devB d = true) :
    Calls Try.prog 56 #[.agg #[a, b], .int .i64 mask, .bool all] w fun e w' => ∃ b', e = .returned (.agg #[a, b']) ∧ DevRow w' base a b' ⟨doneN (fun i => all || bitB mask i) 0 d.pend d.blocks, []⟩ ∧ w.grownBy w' a.ownBlock := by
  obtain ⟨⟨h18, h40⟩, -, hrt⟩ := (devB_iff d).1 hd
  obtain ⟨g, cap, rfl, hbg, hgw⟩ := txt_form h.t (by omega)
  obtain ⟨bb, cb, hbf, hbc⟩ := wr_form h.p
  have ap : b.ownBlock ≠ some g := h.ap g rfl
  have B1 := (below_lit w (.cells #[.slice (some ⟨g, 0, none⟩) d.blocks.length cap, b] 27)).alloc (by simp) (.cells #[.slice none 0 0, .slice none 0 0] 27)
  have ST : LdSt w base g cap b d.pend d.blocks ((w.alloc (.cells #[.slice (some ⟨g, 0, none⟩) d.blocks.length cap, b] 27)).alloc (.cells #[.slice none 0 0, .slice none 0 0] 27)) := by
    refine ⟨?_, heap_a2' _ _ _, ?_, own_below h.p B1, ⟨B1.os, B1.tape, B1.output, B1.size, fun k hk _ => B1.block k hk⟩⟩
    · rw [heap_a2, h18]
    · have := own_below h.t B1; rw [h18] at this ⊢; exact this
  obtain ⟨m, HM⟩ : ∃ m, Hid (m = d.pend.length) := ⟨_, rfl⟩
  have HSTEP : Hid (∀ k, k < m → doneN (fun i => all || bitB mask i) 0 (d.pend.take (k + 1)) d.blocks = if (all || bitB mask k) then (doneN (fun i => all || bitB mask i) 0 (d.pend.take k) d.blocks).set d.pend[k]!.block.toNat d.pend[k]!.text else doneN (fun i => all || bitB mask i) 0 (d.pend.take k) d.blocks) := fun k hk => doneN_step _ _ _ _ (by rw [← HM.out]; exact hk)
  have HEND : Hid (doneN (fun i => all || bitB mask i) 0 (d.pend.take m) d.blocks = doneN (fun i => all || bitB mask i) 0 d.pend d.blocks) := by show _ = _; rw [HM.out, List.take_length]
  have HLEN : Hid ((doneN (fun i => all || bitB mask i) 0 d.pend d.blocks).length = 18) := by show _ = _; rw [doneN_len, h18]
  have HST0 : Hid (doneN (fun i => all || bitB mask i) 0 (d.pend.take 0) d.blocks = d.blocks) := by show _ = _; simp [doneN]
  rw [h18] at ST ⊢
  rw [← HM.out] at hbf hbc hrt h40
  generalize hF : (fun k => doneN (fun i => all || bitB mask i) 0 (d.pend.take k) d.blocks) = F at *
  have HF : Hid (∀ k, doneN (fun i => all || bitB mask i) 0 (d.pend.take k) d.blocks = F k) := fun k => by rw [← hF]
  rw [HF.out] at HEND HST0
  have HSTEP : Hid (∀ k, k < m → F (k + 1) = if (all || bitB mask k) then (F k).set d.pend[k]!.block.toNat d.pend[k]!.text else F k) := fun k hk => by rw [← HF.out, ← HF.out]; exact HSTEP.out k hk
  clear HF hF
  generalize doneN (fun i => all || bitB mask i) 0 d.pend d.blocks = D at *
  rw [← HST0.out] at ST
  clear h hd HST0 h18 B1
  generalize d.pend = pn at *
  subst hbf
  go_enter Try.func56, Try.ntmps56
  go_wp2
  generalize ((w.alloc (.cells #[.slice (some ⟨g, 0, none⟩) 18 cap, .slice bb m cb] 27)).alloc (.cells #[.slice none 0 0, .slice none 0 0] 27)) = W0 at ST ⊢
  go_loopw [7] (fun i wr => ∃ k : Nat, k ≤ m ∧ i = .int .i64 k ∧ LdSt w base g cap (.slice bb m cb) pn (F k) wr) (fun i _ => m - (intOf i).toNat)
  case atStart => exact ⟨0, Nat.zero_le _, rfl, ST⟩
  case round =>
    obtain ⟨k, hk, rfl, st⟩ := hrel
    obtain ⟨⟨x0, x1⟩, xr⟩ := st.cells
    by_cases hlt : k < m
    · obtain ⟨pb, rfl, hob, hcells⟩ := hbc k hlt
      have hc := hcells wr st.p
      obtain ⟨y0, y18, -⟩ := hrt k hlt
      have hst := HSTEP.out k hlt
      have hpg : ¬ pb = g := fun e => ap (by rw [hob, e])
      have hpg' : ¬ g = pb := fun e => hpg e.symm
      generalize pn[k]! = y at hc y0 y18 hst
      obtain ⟨yb, yt⟩ := y
      dsimp only at *
      obtain ⟨yn, rfl⟩ : ∃ yn : Nat, yb = (yn : Int) := ⟨yb.toNat, by omega⟩
      have c0 := hc.c0
      have c1 := hc.c1
      dsimp only at c0 c1
      rw [Int.toNat_natCast] at hst
      obtain ⟨⟨u, xu⟩, xf⟩ := xr yn (by omega)
      have hkm : (k : Int) < (m : Int) := by omega
      have hk0 : (0 : Int) ≤ (k : Int) := by omega
      have hk40 : (k : Int) < 40 := by omega
      have hk64 : (k : Int) ≤ 64 := by omega
      have hy0 : (0 : Int) ≤ (yn : Int) := by omega
      have HST : Hid _ := st
      clear xr hcells hc st hrt
      have hne1 : ¬ w.heap.size = g := by omega
      have hne2 : ¬ g = w.heap.size := by omega
      have HF1 : Hid (F (k + 1) = if (all || bitB mask k) then (F k).set yn yt else F k) := hst
      clear hst
      cases all with
      | true =>
        have HF1 : Hid (F (k + 1) = (F k).set yn yt) := by show _ = _; rw [HF1.out]; simp
        go_wp2
        go_region_held3 (fun w' => ((w'.cell? ⟨w.heap.size, 0, none⟩ = some (.slice (some ⟨g, 0, none⟩) 18 cap) ∧ w'.cell? ⟨w.heap.size, 1, none⟩ = some (.slice (some ⟨pb, 0, none⟩) m cb)) ∧ w'.cell? ⟨pb, k * 2, none⟩ = some (.int .i64 (yn : Int)) ∧ w'.cell? ⟨pb, k * 2 + 1, none⟩ = some (.string yt))) (go_keep) (fail)
        go_wp2
        go_roundw
        case rel => exact ⟨k + 1, by omega, by go_num, by rw [HF1.out]; exact (HST.out.below (Below.refl _ _).drew).put hgw ap yn yt⟩
        case measure => simp [intOf]; omega
      | false =>
        by_cases hm : 0 ≤ mask
        · have HB : Hid (bitB mask k = (bits .and .i64 (mask / 2 ^ k) 1 == 1)) := by show _ = _; unfold bitB; rw [decide_eq_true hm, Bool.true_and]
          by_cases hq : (bits .and .i64 (mask / 2 ^ k) 1 == 1) = true
          · have HF1 : Hid (F (k + 1) = (F k).set yn yt) := by show _ = _; rw [HF1.out, HB.out, hq]; rfl
            go_wp2
            go_region_held3 (fun w' => ((w'.cell? ⟨w.heap.size, 0, none⟩ = some (.slice (some ⟨g, 0, none⟩) 18 cap) ∧ w'.cell? ⟨w.heap.size, 1, none⟩ = some (.slice (some ⟨pb, 0, none⟩) m cb)) ∧ w'.cell? ⟨pb, k * 2, none⟩ = some (.int .i64 (yn : Int)) ∧ w'.cell? ⟨pb, k * 2 + 1, none⟩ = some (.string yt))) (go_keep) (fail)
            go_wp2
            go_roundw
            case rel => exact ⟨k + 1, by omega, by go_num, by rw [HF1.out]; exact (HST.out.below (Below.refl _ _).drew).put hgw ap yn yt⟩
            case measure => simp [intOf]; omega
          · have hq : (bits .and .i64 (mask / 2 ^ k) 1 == 1) = false := by simpa using hq
            have HF1 : Hid (F (k + 1) = F k) := by show _ = _; rw [HF1.out, HB.out, hq]; rfl
            go_wp2
            go_roundw
            case rel => exact ⟨k + 1, by omega, by go_num, by rw [HF1.out]; exact HST.out⟩
            case measure => simp [intOf]; omega
        · have HF1 : Hid (F (k + 1) = F k) := by show _ = _; rw [HF1.out]; unfold bitB; rw [decide_eq_false hm, Bool.false_and]; rfl
          go_wp2
          go_roundw
          case rel => exact ⟨k + 1, by omega, by go_num, by rw [HF1.out]; exact HST.out⟩
          case measure => simp [intOf]; omega
    · obtain rfl : k = m := by omega
      have st0 := st
      rw [HEND.out] at st0
      have BL := below_lit wr (.cells #[] 35)
      have st' := st0.below BL
      have q0 := cell_blk st'.hP 0
      have q1 := cell_blk st'.hP 1
      have qf := fun i => unfrozen_blk st'.hP i
      have e0 := cell_blk st'.hR 0
      have e1 := cell_blk st'.hR 1
      have ef := fun i => unfrozen_blk st'.hR i
      dsimp at q0 q1 e0 e1
      have hwr : w.heap.size + 1 < wr.heap.size := lt_of_block st0.hR
      have hRR := put2d (.slice (some ⟨g, 0, none⟩) 18 cap) (.slice (some ⟨wr.heap.size, 0, none⟩) 0 0) ((Below.heap_setCell (wr.alloc (.cells #[] 35)) ⟨w.heap.size, 1, none⟩ (.slice (some ⟨wr.heap.size, 0, none⟩) 0 0) (w.heap.size + 1) (by simp)).trans st'.hR)
      have hbw : base ≤ w.heap.size := by omega
      have hT : TxtRow (((wr.alloc (.cells #[] 35)).setCell ⟨w.heap.size, 1, none⟩ (.slice (some ⟨wr.heap.size, 0, none⟩) 0 0)).setCell ⟨w.heap.size + 1, 0, none⟩ (.slice (some ⟨g, 0, none⟩) 18 cap) |>.setCell ⟨w.heap.size + 1, 1, none⟩ (.slice (some ⟨wr.heap.size, 0, none⟩) 0 0)) base (.slice (some ⟨g, 0, none⟩) 18 cap) D := by
        unfold TxtRow
        rw [HLEN.out]
        exact own_st (own_st (own_st st'.t _ _ _ fun q hq => by have := Option.some.inj (show some g = some q from hq); omega) _ _ _ fun q hq => by have := Option.some.inj (show some g = some q from hq); omega) _ _ _ fun q hq => by have := Option.some.inj (show some g = some q from hq); omega
      have hW : WrRow (((wr.alloc (.cells #[] 35)).setCell ⟨w.heap.size, 1, none⟩ (.slice (some ⟨wr.heap.size, 0, none⟩) 0 0)).setCell ⟨w.heap.size + 1, 0, none⟩ (.slice (some ⟨g, 0, none⟩) 18 cap) |>.setCell ⟨w.heap.size + 1, 1, none⟩ (.slice (some ⟨wr.heap.size, 0, none⟩) 0 0)) base (.slice (some ⟨wr.heap.size, 0, none⟩) 0 0) [] := by
        exact own_st (own_st (own_st (own_mono (lit_wrs wr) (by omega)) _ _ _ fun q hq => by have := Option.some.inj (show some wr.heap.size = some q from hq); omega) _ _ _ fun q hq => by have := Option.some.inj (show some wr.heap.size = some q from hq); omega) _ _ _ fun q hq => by have := Option.some.inj (show some wr.heap.size = some q from hq); omega
      have hG : w.grownBy (((wr.alloc (.cells #[] 35)).setCell ⟨w.heap.size, 1, none⟩ (.slice (some ⟨wr.heap.size, 0, none⟩) 0 0)).setCell ⟨w.heap.size + 1, 0, none⟩ (.slice (some ⟨g, 0, none⟩) 18 cap) |>.setCell ⟨w.heap.size + 1, 1, none⟩ (.slice (some ⟨wr.heap.size, 0, none⟩) 0 0)) (some g) := by
        have k1 := gbr_set (wr.alloc (.cells #[] 35)) w.heap.size 1 (.slice (some ⟨wr.heap.size, 0, none⟩) 0 0)
        have k2 := gbr_set ((wr.alloc (.cells #[] 35)).setCell ⟨w.heap.size, 1, none⟩ (.slice (some ⟨wr.heap.size, 0, none⟩) 0 0)) (w.heap.size + 1) 0 (.slice (some ⟨g, 0, none⟩) 18 cap)
        have k3 := gbr_set (((wr.alloc (.cells #[] 35)).setCell ⟨w.heap.size, 1, none⟩ (.slice (some ⟨wr.heap.size, 0, none⟩) 0 0)).setCell ⟨w.heap.size + 1, 0, none⟩ (.slice (some ⟨g, 0, none⟩) 18 cap)) (w.heap.size + 1) 1 (.slice (some ⟨wr.heap.size, 0, none⟩) 0 0)
        have k0 := st'.gb
        refine ⟨((k3.os.trans k2.os).trans k1.os).trans k0.os, ((k3.tape.trans k2.tape).trans k1.tape).trans k0.tape, ((k3.output.trans k2.output).trans k1.output).trans k0.output, Nat.le_trans k0.size (Nat.le_trans k1.size (Nat.le_trans k2.size k3.size)), fun q hq hne => ?_⟩
        have s0 := k0.size
        have s1 := k1.size
        have s2 := k2.size
        rw [k3.block q (by omega) (by simp; omega), k2.block q (by omega) (by simp; omega), k1.block q (by omega) (by simp; omega), k0.block q hq hne]
      have HFIN : Hid _ := And.intro hRR (And.intro hT (And.intro hW hG))
      clear st st0 st' xr hRR hT hW hG BL
      go_wp2
      obtain ⟨hRR, hT, hW, hG⟩ := HFIN.out
      exact bodyPost_ret (results_dev Try.results56 _ _ (w.heap.size + 1) _ rfl rfl hRR) rfl ⟨_, rfl, devRow_of hT hW, hG⟩

end Go.Proofs.Ytpmdhoiodbjojaa
