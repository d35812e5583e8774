/- Devices: spec.Put. -/
import Derived.Test.YtpmdhoiodbjojaaRows
import Derived.Test.YtpmdhoiodbjojaaSDt
namespace Go.Proofs.Ytpmdhoiodbjojaa
open Go.RowKit

/-- 'append(out, x...)', out a row of the call's own, x any row of writes -/
theorem append_wrsG (w : World) {ops : Array Oper} {rest : List Oper} {o : Oper} {a : Act} {Q : Exit → Act → World → Prop} (hgd : o.guard = none) (s x : Operand)
    (ho : o.op = .call { callee := .builtin .append, args := #[s, x], argTypes := #[25, 25] }) (base : Nat)
    (v u : Value) (l m : List Wr) (hl : l.length + m.length ≤ 1099511627776) (hown : WrRow w base v l) (hu : WrsAt w u m) (hs : a.eval s = v) (hx : a.eval x = u)
    (hbase : base ≤ w.heap.size)
    (h : ∀ v' w', WrRow w' base v' (l ++ m) → w.grownBy w' v.ownBlock → wpList Try.prog ops Q rest (a.put o.dst v') w') :
    wpList Try.prog ops Q (o :: rest) a w := by
  obtain ⟨i0, hi, hz0, hz1, hz2⟩ := info_parts Try.infoW
  obtain ⟨ad, cap, rfl, hn, hc⟩ := hu
  cases ad with
  | none =>
    have hc0 := hn rfl
    have hm : m = [] := by
      cases m with
      | nil => rfl
      | cons e m => obtain ⟨b, off, h1, _⟩ := hc 0 (by simp); cases h1
    subst hm hc0
    refine wpList_append_own_none hgd s x 25 ho base 35 i0 2 Try.underlying25 hi v l.length (flatW l) hs hown hx ?_
    refine h v w (by rw [List.append_nil]; exact hown) ⟨rfl, rfl, rfl, Nat.le_refl _, fun _ _ _ => rfl⟩
  | some ad =>
    have hcl : ∀ j y, (flatW m)[j]? = some y → w.cell? (ad.add j) = some y := by
      intro j y hy
      have hj : j < m.length * 2 := by
        have := (List.getElem?_eq_some_iff.1 hy).1
        rwa [flatW_len] at this
      obtain ⟨b1, off1, e, _, hcj⟩ := hc (j / 2) (by omega)
      cases e
      have hjj : j = j / 2 * 2 + j % 2 := by omega
      have h4 := flatW_at m (j / 2) (by omega) (j % 2) (by omega)
      rw [← hjj, hy] at h4
      rw [Addr.add_lit, hjj, ← Nat.add_assoc]
      have : j % 2 < 2 := by omega
      generalize j % 2 = s at *
      rcases s with _ | _ | s
      · exact hcj.c0.trans h4.symm
      · exact hcj.c1.trans h4.symm
      · omega
    refine wpList_append_own _ hgd s x 25 ho base 35 i0 _ 2 24 Try.underlying25 hi hz0 hz1 hz2 rfl (by decide) v l.length (flatW l) hs hown ad m.length cap (flatW m) hx (flatW_len m) hcl (flatW_cell m) (by unfold maxLen; omega) (by omega) hbase ?_
    intro v' w' hown' hgrow _
    refine h v' w' ?_ hgrow
    unfold WrRow
    rw [flatW_append, List.length_append]
    exact hown'

set_option maxRecDepth 100000 in
set_option maxHeartbeats 4000000 in
theorem sPut (v u : Value) (d : Dv) (l : List Wr) (w : World) (hl : d.blocks.length ≤ 9223372036854775807) (hl2 : d.pend.length ≤ 9223372036854775807) (hl3 : l.length ≤ 9223372036854775807) (hv : DevAt w v d) (hu : WrsAt w u l) :
    Calls Try.prog 24 #[v, u] w fun e w' => ∃ a b, e = .returned (.tuple #[.agg #[a, b], .bool (putN d l).2]) ∧ DevRow w' w.heap.size a b (putN d l).1 ∧ Below w.heap.size w w' := by
  obtain ⟨a0, b0, hvv, -, -⟩ := id hv
  obtain ⟨H1, HST, H2⟩ := fl_start v d w hl hl2 a0 b0 hvv hv
  subst hvv
  obtain ⟨ua, uc, hUU, -, huc⟩ := id hu
  have HBB := fun w' (b : Below w.heap.size w w') => hu.below b
  obtain ⟨n, HN⟩ : ∃ n, Hid (n = l.length) := ⟨_, rfl⟩
  rw [← HN.out] at hUU huc hl3
  subst hUU
  clear hv hu
  obtain ⟨pu, HPU⟩ : ∃ pu, Hid (pu = putN d l) := ⟨_, rfl⟩
  rw [← HPU.out]
  go_enter Try.func24, Try.ntmps24
  go_wp2_with fail
  refine H1.mono ?_
  rintro e w1 ⟨rfl, b1⟩
  have st1 := HST.out w1 b1
  obtain ⟨p0, p1, r0, r1, rf, B1⟩ := st1.out
  cases hd : devB d with
  | false =>
    have KK : pu = (⟨[], []⟩, false) := by rw [HPU.out]; unfold putN; rw [if_neg (by rw [hd]; decide)]
    clear HPU
    subst KK
    go_wp2
    exact bodyPost_ret (results_devb Try.results24 _ _ (w.heap.size + 1) _ _ rfl rfl rfl (put2d _ _ B1.out.1)) rfl ⟨_, _, rfl, nil_row _ _, fl_below B1.out.2⟩
  | true =>
    have HK0 : Hid (putFits d l = false → pu = (d, false)) := fun h => by rw [HPU.out]; unfold putN; rw [if_pos hd, h]; rfl
    have HK1 : Hid (putFits d l = true → pu = (⟨d.blocks, d.pend ++ l⟩, true)) := fun h => by rw [HPU.out]; unfold putN; rw [if_pos hd, h]; rfl
    clear HPU
    have HFI : Hid (putFits d l = (decide (n + d.pend.length ≤ 40) && wrsB l)) := by show _ = _; unfold putFits; rw [HN.out]
    obtain ⟨⟨h18, h40⟩, -, -⟩ := (devB_iff d).1 hd
    have hz1 := st1.sz
    generalize putFits d l = pf at *
    go_wp2_with fail
    refine (H2.out hd w1 st1).mono ?_
    rintro e w2 ⟨a, b, rfl, r2, b2⟩
    have st2 := st1.below b2
    obtain ⟨g, cap, hfa, -, hgw⟩ := txt_form r2.t (by omega)
    obtain ⟨bb, cb, hfb, -⟩ := wr_form r2.p
    rw [h18] at hfa
    have hPP := put2d a b st2.hP
    have hRR := (Below.heap_setCell (w2.setCell ⟨w.heap.size, 0, none⟩ a) ⟨w.heap.size, 1, none⟩ b (w.heap.size + 1) (by simp)).trans ((Below.heap_setCell w2 ⟨w.heap.size, 0, none⟩ a (w.heap.size + 1) (by simp)).trans st2.hR)
    have B3 : Below w.heap.size w ((w2.setCell ⟨w.heap.size, 0, none⟩ a).setCell ⟨w.heap.size, 1, none⟩ b) := (st2.bel.setCell (Nat.le_refl _) _).setCell (Nat.le_refl _) _
    have st3 : FlSt w a b _ := ⟨hPP, hRR, B3⟩
    have r3 := (r2.low (g := w.heap.size) (by omega) 0 a).low (g := w.heap.size) (by omega) 1 b
    have q0 := cell_blk st2.hP 0
    have q1 := cell_blk st2.hP 1
    have qf := fun i => unfrozen_blk st2.hP i
    dsimp at q0 q1
    obtain ⟨m, HM⟩ : ∃ m, Hid (m = d.pend.length) := ⟨_, rfl⟩
    rw [← HM.out] at hfb h40 HFI
    subst hfa
    subst hfb
    clear hPP hRR B3 st2 r2 b2 st1 b1 p0 p1 r0 r1 rf B1 H2 HST H1
    have hw40 : IntKind.i64.wrap (40 - (m : Int)) = 40 - (m : Int) := by rw [IntKind.wrap_i64]; omega
    generalize hW3 : (w2.setCell ⟨w.heap.size, 0, none⟩ (.slice (some ⟨g, 0, none⟩) 18 cap)).setCell ⟨w.heap.size, 1, none⟩ (.slice bb m cb) = w3 at st3 r3
    by_cases hfit : n + m ≤ 40
    · have hf : ¬ (40 - (m : Int) < (n : Int)) := by omega
      obtain ⟨x0, x1, y0, y1, yf, B4⟩ := st3.out
      have H18 : Hid (d.blocks.length = 18) := h18
      clear h18
      subst hW3
      go_wp2
      generalize (w2.setCell ⟨w.heap.size, 0, none⟩ (.slice (some ⟨g, 0, none⟩) 18 cap)).setCell ⟨w.heap.size, 1, none⟩ (.slice bb m cb) = w3 at st3 r3 x0 x1 y0 y1 yf B4 ⊢
      have HS3 : Hid _ := st3
      have HR3 : Hid _ := r3
      have hz3 := st3.sz
      have HB3 := st3.bel
      have hn3 : w1.heap.size ≤ w3.heap.size := by have := (World.ownsRow.lt r3.t g rfl); omega
      clear st3 r3 B4 q0 q1 qf
      go_loopw [6] (fun i wr => ∃ k : Nat, k ≤ n ∧ i = .int .i64 k ∧ Hid (∀ t, t < k → wrB l[t]! = true) ∧ Below w3.heap.size w3 wr) (fun i _ => n - (intOf i).toNat)
      case atStart => exact ⟨0, Nat.zero_le _, rfl, fun t ht => by omega, Below.refl _ _⟩
      case round =>
        obtain ⟨k, hk, rfl, HEQ, hbel⟩ := hrel
        have stX := HS3.out.below hbel
        have rX := HR3.out.below hbel
        by_cases hlt : k < n
        · obtain ⟨b1, o1, rfl, hb1, hc1⟩ := huc k hlt
          have hc1 := hc1.below hb1 (HB3.trans (hbel.mono HB3.size))
          have HX : Hid (wrB l[k]! = true → ∀ t, t < k + 1 → wrB l[t]! = true) := fun h t ht => by
            by_cases e : t = k
            · rw [e]; exact h
            · exact HEQ.out t (by omega)
          have HNO : Hid (¬ wrB l[k]! = true → pf = false) := fun h => by
            rw [HFI.out]
            have : wrsB l = false := by
              rw [Bool.eq_false_iff]
              intro e
              unfold wrsB at e
              rw [List.all_eq_true] at e
              have hkl : k < l.length := by have := HN.out; omega
              exact h (by rw [getElem!_pos l k hkl]; exact e _ (List.getElem_mem hkl))
            rw [this, Bool.and_false]
          generalize l[k]! = y at hc1 HX HNO
          have HT := fun w' => l8WriteOk_any y w'
          have c0 := hc1.c0
          have c1 := hc1.c1
          have hkn : (k : Int) < (n : Int) := by omega
          have hk0 : (0 : Int) ≤ (k : Int) := by omega
          clear hc1
          generalize wrB y = q at HT HX HNO
          cases q with
          | true =>
            have HX' : Hid _ := HX.out rfl
            clear HX HNO stX rX
            go_wp2_with (go_at_call 39; refine (HT _).mono ?_; rintro e w5 ⟨rfl, b5⟩)
            go_roundw
            case rel => exact ⟨k + 1, by omega, by go_num, HX', hbel.trans (b5.mono hbel.size)⟩
            case measure => simp [intOf]; omega
          | false =>
            have KK : pu = (d, false) := HK0.out (HNO.out (by simp))
            clear HX HNO
            have HSX : Hid _ := stX
            have HRX : Hid _ := rX
            have hn5 := hbel.size
            clear stX rX
            go_wp2_with (go_at_call 39; refine (HT _).mono ?_; rintro e w5 ⟨rfl, b5⟩; obtain ⟨x0, x1, y0, y1, yf, B4⟩ := (HSX.out.below b5).out)
            have RX := HRX.out.below b5
            subst KK
            exact bodyPost_ret (results_devb Try.results24 _ _ (w.heap.size + 1) _ _ rfl rfl rfl (put2d _ _ B4.out.1)) rfl ⟨_, _, rfl, ((RX.low (by omega) _ _).low (by omega) _ _).mono (by omega), fl_below B4.out.2⟩
        · obtain rfl : k = n := by omega
          have KK : pu = (⟨d.blocks, d.pend ++ l⟩, true) := HK1.out (by
            rw [HFI.out, decide_eq_true hfit]
            unfold wrsB
            rw [Bool.true_and, List.all_eq_true]
            intro x hx
            obtain ⟨t, ht, rfl⟩ := List.getElem_of_mem hx
            have := HEQ.out t (by have := HN.out; omega)
            rwa [getElem!_pos l t ht] at this)
          have HUU := HBB wr (HB3.trans (hbel.mono HB3.size))
          have hap := rX.ap
          have hLL : Hid (d.pend.length + l.length ≤ 1099511627776) := by show _ ≤ _; have := HN.out; have := HM.out; omega
          obtain ⟨x0, x1, y0, y1, yf, B4⟩ := stX.out
          have HSX : Hid _ := stX
          have HRT : Hid (TxtRow wr w1.heap.size (.slice (some ⟨g, 0, none⟩) 18 cap) d.blocks) := rX.t
          have HRP : Hid (WrRow wr w1.heap.size (.slice bb m cb) d.pend) := rX.p
          have hn5 := hbel.size
          clear stX rX HEQ
          have HDR : Hid (∀ v6 w6, WrRow w6 w1.heap.size v6 (d.pend ++ l) → wr.grownBy w6 (Value.slice bb m cb).ownBlock → FlSt w (.slice (some ⟨g, 0, none⟩) 18 cap) (.slice bb m cb) w6 ∧ DevRow w6 w1.heap.size (.slice (some ⟨g, 0, none⟩) 18 cap) v6 ⟨d.blocks, d.pend ++ l⟩) := fun v6 w6 hr hg =>
            ⟨HSX.out.grown hg (fun q hq => by have := (World.ownsRow.lt HRP.out q hq).1; omega), devRow_of (own_gb HRT.out hg fun q hq e => hap q hq e) hr⟩
          clear hap HRT HSX
          go_wp2_with (at_builtin; refine append_wrsG _ rfl (.tmp 35) (.tmp 36) rfl w1.heap.size _ _ d.pend l hLL.out HRP.out HUU rfl rfl (by omega) ?_; intro v6 w6 hrow6 hg6; obtain ⟨b6, c6, hf6, -⟩ := wr_form hrow6; generalize (d.pend ++ l).length = m6 at hf6; subst hf6; obtain ⟨st6, r6⟩ := HDR.out _ w6 hrow6 hg6; obtain ⟨x0, x1, y0, y1, yf, B6⟩ := st6.out; have xf := fun i => unfrozen_blk st6.hP i; have HS6 : Hid _ := st6; have HR6 : Hid _ := r6; clear st6 r6 hrow6 hg6)
          have hRR := (Below.heap_setCell w6 ⟨w.heap.size, 1, none⟩ (.slice b6 m6 c6) (w.heap.size + 1) (by simp)).trans HS6.out.hR
          have B7 : Below w.heap.size w (w6.setCell ⟨w.heap.size, 1, none⟩ (.slice b6 m6 c6)) := HS6.out.bel.setCell (Nat.le_refl _) _
          have R7 := HR6.out.low (g := w.heap.size) (by omega) 1 (.slice b6 m6 c6)
          subst KK
          exact bodyPost_ret (results_devb Try.results24 _ _ (w.heap.size + 1) _ _ rfl rfl rfl (put2d _ _ hRR)) rfl ⟨_, _, rfl, ((R7.low (by omega) _ _).low (by omega) _ _).mono (by omega), fl_below B7⟩
    · have hf : 40 - (m : Int) < (n : Int) := by omega
      have KK : pu = (d, false) := HK0.out (by rw [HFI.out, decide_eq_false hfit]; rfl)
      obtain ⟨x0, x1, y0, y1, yf, B4⟩ := st3.out
      have RX : Hid _ := r3
      clear r3 st3 HK0 HK1 HFI
      subst KK
      subst hW3
      go_wp2
      exact bodyPost_ret (results_devb Try.results24 _ _ (w.heap.size + 1) _ _ rfl rfl rfl (put2d _ _ B4.out.1)) rfl ⟨_, _, rfl, ((RX.out.low (by omega) _ _).low (by omega) _ _).mono (by omega), fl_below B4.out.2⟩

end Go.Proofs.Ytpmdhoiodbjojaa
