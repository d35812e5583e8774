/- Devices, impl: Put. -/
import Derived.Test.YtpmdhoiodbjojaaRows
import Derived.Test.YtpmdhoiodbjojaaIDt
import Derived.Test.YtpmdhoiodbjojaaSDu
import Derived.Deep.RegionLaw
namespace Go.Proofs.Ytpmdhoiodbjojaa
open Go.RowKit

/-- 'append(out, x...)' of writes as one step of a statement whose order is open -/
theorem step_append_wr {ops : Array Oper} {o : Oper} {a : Act} {w : World} {K : Act → World → Prop} {Q : Exit → Act → World → Prop} {Z : Prop}
    (hgd : o.guard = none) (s x : Operand) (hop : o.op = Op.call { callee := Callee.builtin Builtin.append, args := #[s, x], argTypes := #[25, 25] }) (base : Nat)
    (v u : Value) (l m : List Wr) (hl : l.length + m.length ≤ 1099511627776) (hown : WrRow w base v l) (hu : WrsAt w u m) (hs : a.eval s = v) (hx : a.eval x = u) (hbase : base ≤ w.heap.size)
    (hK : ∀ v' w', WrRow w' base v' (l ++ m) → w.grownBy w' v.ownBlock → K (a.put o.dst v') w') :
    if Region.wanted o (yielded ops a.tmps) = true then Oper.wp Try.prog o a w K Q else Z := by
  obtain ⟨i0, hi, hz0, hz1, hz2⟩ := info_parts Try.infoW
  have hw : Region.wanted o (yielded ops a.tmps) = true := by simp [Region.wanted, hgd]
  rw [if_pos hw]
  obtain ⟨ad, c, rfl, hsrc, hnil⟩ := wr_src hu
  cases ad with
  | none =>
    obtain ⟨rfl, rfl⟩ := hnil rfl
    have hrun := run_append_owned_none (P := Try.prog) (w := w) base 25 o.type 35 i0 2 Try.underlying25 hi v l.length (flatW l) hown
    unfold Oper.wp
    simp [execOp, hop, resolve, invoke, builtin, hs, hx, hrun, Result.andThen]
    exact hK v w (by rw [List.append_nil]; exact hown) ⟨rfl, rfl, rfl, Nat.le_refl _, fun _ _ _ => rfl⟩
  | some ad =>
    obtain ⟨v', w', hrun, r1, r2, _⟩ := run_append_own (P := Try.prog) w base 25 o.type 35 i0 _ 2 24 Try.underlying25 hi hz0 hz1 hz2 rfl (by decide) v l.length (flatW l) hown ad m.length c (flatW m) (flatW_len m) (hsrc ad rfl) (flatW_cell m) (by unfold maxLen; omega) (by omega) hbase
    unfold Oper.wp
    simp [execOp, hop, resolve, invoke, builtin, hs, hx, hrun, Result.andThen]
    exact hK v' w' (by unfold WrRow; rw [flatW_append, List.length_append]; exact r1) r2

theorem own_ne {w : World} {base size n : Nat} {e t : TypeId} {v : Value} {xs : List Value} {o : Nat} {cs : Array Value} {fr : Nat × Nat} (h : w.ownsRow base e size v n xs) (ho : w.heap[o]? = some (.cells cs t fr)) (ht : t ≠ e) : ∀ q, v.ownBlock = some q → q ≠ o := fun q hq hqo => by
  rcases h.2 with ⟨rfl, -⟩ | ⟨g, cap, cur, rfl, -, hh, -⟩
  · cases hq
  · obtain rfl := Option.some.inj (show some g = some q from hq)
    rw [hqo, ho] at hh
    simp only [Option.some.injEq, Obj.cells.injEq] at hh
    exact ht hh.2.1

set_option maxRecDepth 100000 in
set_option maxHeartbeats 4000000 in
theorem iPut (v u : Value) (d : Dv) (l : List Wr) (w : World) (hl : d.blocks.length ≤ 9223372036854775807) (hl2 : d.pend.length ≤ 9223372036854775807) (hl3 : l.length ≤ 9223372036854775807) (hv : DevAt w v d) (hu : WrsAt w u l) :
    Calls Try.prog 26 #[v, u] w fun e w' => ∃ a b, e = .returned (.tuple #[.agg #[a, b], .bool (putN d l).2]) ∧ DevRow w' w.heap.size a b (putN d l).1 ∧ Below w.heap.size w w' := by
  obtain ⟨a0, b0, hvv, ha0, hb0⟩ := id hv
  have S := FlSt.start w a0 b0
  have hs0 : ((w.alloc (.cells #[a0, b0] 27)).alloc (.cells #[.slice none 0 0, .slice none 0 0] 27)).heap.size = w.heap.size + 1 + 1 := by simp
  subst hvv
  have H1 := iDevOk (.agg #[a0, b0]) d _ hl hl2 (hv.below S.bel)
  rw [hs0] at H1
  have HST : Hid (∀ w1, Below (w.heap.size + 1 + 1) ((w.alloc (.cells #[a0, b0] 27)).alloc (.cells #[.slice none 0 0, .slice none 0 0] 27)) w1 → FlSt w a0 b0 w1) := fun w1 b1 => S.below (by rw [hs0]; exact b1)
  have H2 : Hid (devB d = true → ∀ w1, FlSt w a0 b0 w1 → _) := fun hd w1 s1 => copied_any (.agg #[a0, b0]) d w1 hd (hv.below s1.bel)
  have H3 := fun w' (b : Below w.heap.size w w') => writesFit_any u l (40 - (d.pend.length : Int)) w' hl3 (hu.below b)
  have H4 : Hid (l.length ≤ 40 → wrsB l = true → ∀ w', Below w.heap.size w w' → _) := fun h1 h2 w' b => copyWrites_any u l w' (by omega) (fun t ht => by
    unfold wrsB at h2
    rw [List.all_eq_true] at h2
    have := h2 _ (List.getElem_mem ht)
    unfold wrB at this
    have := of_decide_eq_true this
    rw [getElem!_pos l t ht]
    omega) (hu.below b)
  have HPL : Hid (∀ w1, FlSt w a0 b0 w1 → WrsAt w1 b0 d.pend) := fun w1 s1 => hb0.below s1.bel
  obtain ⟨pa, pc, hfp, -, -⟩ := id hb0
  obtain ⟨pm, HPM⟩ : ∃ pm, Hid (pm = d.pend.length) := ⟨_, rfl⟩
  rw [← HPM.out] at hfp H3
  clear S hv hu ha0 hb0
  obtain ⟨pu, HPU⟩ : ∃ pu, Hid (pu = putN d l) := ⟨_, rfl⟩
  rw [← HPU.out]
  subst hfp
  go_enter Try.func26, Try.ntmps26
  go_wp2_with fail
  refine H1.mono ?_
  rintro e w1 ⟨rfl, b1⟩
  have st1 := HST.out w1 b1
  obtain ⟨p0, p1, r0, r1, rf, B1⟩ := st1.out
  cases hd : devB d with
  | false =>
    have KK : pu = (⟨[], []⟩, false) := by rw [HPU.out]; unfold putN; rw [if_neg (by rw [hd]; decide)]
    clear HPU
    subst KK
    go_wp2
    exact bodyPost_ret (results_devb Try.results26 _ _ (w.heap.size + 1) _ _ rfl rfl rfl (put2d _ _ B1.out.1)) rfl ⟨_, _, rfl, nil_row _ _, fl_below B1.out.2⟩
  | true =>
    obtain ⟨⟨h18, h40⟩, -, -⟩ := (devB_iff d).1 hd
    have hpm := HPM.out
    have HK0 : Hid ((decide ((l.length : Int) ≤ 40 - (pm : Int)) && wrsB l) = false → pu = (d, false)) := fun h => by
      have e : putFits d l = false := by rw [← h]; unfold putFits; congr 1; rw [decide_eq_decide]; omega
      rw [HPU.out]; unfold putN; rw [if_pos hd, e]; rfl
    have HK1 : Hid ((decide ((l.length : Int) ≤ 40 - (pm : Int)) && wrsB l) = true → (pu = (⟨d.blocks, d.pend ++ l⟩, true) ∧ l.length ≤ 40 ∧ wrsB l = true)) := fun h => by
      have e : putFits d l = true := by rw [← h]; unfold putFits; congr 1; rw [decide_eq_decide]; omega
      have h2 := h
      rw [Bool.and_eq_true, decide_eq_true_eq] at h2
      exact ⟨by rw [HPU.out]; unfold putN; rw [if_pos hd, e]; rfl, by omega, h2.2⟩
    clear HPU
    rw [← hpm] at h40
    have hLL : Hid (d.pend.length + l.length ≤ 1099511627776 ∨ ¬ l.length ≤ 40) := by show _ ∨ _; omega
    have hw40 : IntKind.i64.wrap (40 - (pm : Int)) = 40 - (pm : Int) := by rw [IntKind.wrap_i64]; omega
    clear hpm
    have hz1 := st1.sz
    go_wp2_with fail
    refine (H2.out hd w1 st1).mono ?_
    rintro e w2 ⟨a, b, rfl, r2, b2⟩
    have st2 := st1.below b2
    have BL := below_lit w2 (.cells #[a, b] 27)
    have st3 := st2.below BL
    have r3 := r2.below BL
    have hO3 := heap_a1 w2 (.cells #[a, b] 27)
    have hzz : w1.heap.size ≤ w2.heap.size := b2.size
    obtain ⟨g, cap, hfa, -, -⟩ := txt_form r2.t (by omega)
    obtain ⟨bb, cb, hfb, -⟩ := wr_form r2.p
    rw [h18] at hfa
    have H5 := H3 _ st3.bel
    rw [show (w2.alloc (.cells #[a, b] 27)).heap.size = w2.heap.size + 1 by simp] at H5
    generalize hfit : (decide ((l.length : Int) ≤ 40 - (pm : Int)) && wrsB l) = fit at H5 HK0 HK1
    obtain ⟨x0, x1, y0, y1, yf, B3⟩ := st3.out
    have HS3 : Hid _ := st3
    have HR3 : Hid _ := r3
    have HO3 : Hid _ := hO3
    have HOB : Hid (∀ q, b.ownBlock = some q → q < w2.heap.size) := fun q hq => (World.ownsRow.lt r2.p q hq).2
    have H18 : Hid (d.blocks.length = 18) := h18
    clear st3 r3 hO3 st1 st2 r2 b2 h18 B3 p0 p1 r0 r1 rf B1 H1 HST H2 hfit H3
    rw [← HPM.out] at hfb
    subst hfa
    subst hfb
    go_wp2_with fail
    refine H5.mono ?_
    rintro e w4 ⟨rfl, b4⟩
    have b4' : Below (w2.alloc (.cells #[.slice (some ⟨g, 0, none⟩) 18 cap, .slice bb pm cb] 27)).heap.size (w2.alloc (.cells #[.slice (some ⟨g, 0, none⟩) 18 cap, .slice bb pm cb] 27)) w4 := by simpa using b4
    have st4 := HS3.out.below b4'
    have r4 := HR3.out.below b4'
    have hO4 := (b4'.block w2.heap.size (by simp)).trans HO3.out
    obtain ⟨x0, x1, y0, y1, yf, B4⟩ := st4.out
    have o0 := cell_blk hO4 0
    have o1 := cell_blk hO4 1
    have of_ := fun i => unfrozen_blk hO4 i
    dsimp at o0 o1
    have hn1 : ¬ w.heap.size + 1 = w2.heap.size := by omega
    have hn2 : ¬ w2.heap.size = w.heap.size + 1 := by omega
    have hz4 : w2.heap.size < w4.heap.size := lt_of_block hO4
    cases fit with
    | false =>
      have KK := HK0.out rfl
      have HR4 : Hid _ := r4
      clear HK0 HK1 r4 st4 b4' b4 H5
      subst KK
      go_wp2
      exact bodyPost_ret (results_devb Try.results26 _ _ (w.heap.size + 1) _ _ rfl rfl rfl (put2d _ _ B4.out.1)) rfl ⟨_, _, rfl, ((HR4.out.low (by omega) _ _).low (by omega) _ _).mono (by omega), fl_below B4.out.2⟩
    | true =>
      obtain ⟨KK, hl40, hwl⟩ := HK1.out rfl
      have HCW := fun w' b => H4.out hl40 hwl w' b
      have HS4 : Hid _ := st4
      have HR4 : Hid _ := r4
      have HO4 : Hid _ := hO4
      have hLL := hLL.out.resolve_right (by omega)
      have HC0 := HCW w4.drew st4.bel.drew
      have hb4 : w1.heap.size ≤ w4.heap.size := by omega
      have o1d : w4.drew.cell? ⟨w2.heap.size, 1, none⟩ = some (.slice bb pm cb) := o1
      have hap := r4.ap
      clear HK0 HK1 r4 st4 b4' b4 H5 hO4 hwl
      go_wp2
      go_region_law
        (first
        | (go_simp; go_at_call 53; refine HC0.mono ?_; rintro e w5 ⟨u5, rfl, t5, b5⟩; have b5' : Below w4.heap.size w4 w5 := (Below.refl _ _).drew.trans b5; have st5 := HS4.out.below b5'; have r5 := HR4.out.below b5'; have hO5 := (b5'.block w2.heap.size hz4).trans HO4.out; have o1 := cell_blk hO5 1; (dsimp at o1); obtain ⟨a5, c5, hu5, -, -⟩ := t5.at; have HU5 := t5.at; generalize l.length = n5 at hu5; subst hu5; have hb5 : w1.heap.size ≤ w5.heap.size := Nat.le_trans hb4 b5'.size; dsimp only)
        | ((refine step_append_wr (by rfl) (.tmp 22) (.tmp 24) (by rfl) w1.heap.size _ _ d.pend l hLL r5.p HU5 (by rfl) (by rfl) hb5 ?_; intro v6 w6 hr6 hg6; have st6 := st5.grown hg6 (fun q hq => by have := (World.ownsRow.lt r5.p q hq).1; omega); have hO6 := (hg6.block w2.heap.size (lt_of_block hO5) (fun e => by have := HOB.out _ e.symm; omega)).trans hO5; have tr6 := own_gb r5.t hg6 fun q hq e => hap q hq e; obtain ⟨b6, c6, hf6, -⟩ := wr_form hr6; generalize (d.pend ++ l).length = m6 at hf6; subst hf6; have q1 := cell_blk hO6 1; have qf := fun i => unfrozen_blk hO6 i; (dsimp at q1))))
      all_goals (
        have hRR := (Below.heap_setCell w6 ⟨w2.heap.size, 1, none⟩ (.slice b6 m6 c6) (w.heap.size + 1) (by simpa using hn1)).trans st6.hR
        have B7 : Below w.heap.size w (w6.setCell ⟨w2.heap.size, 1, none⟩ (.slice b6 m6 c6)) := st6.bel.setCell (by show w.heap.size ≤ w2.heap.size; omega) _
        have R6 : DevRow (w6.setCell ⟨w2.heap.size, 1, none⟩ (.slice b6 m6 c6)) w1.heap.size (.slice (some ⟨g, 0, none⟩) 18 cap) (.slice b6 m6 c6) ⟨d.blocks, d.pend ++ l⟩ := devRow_of (own_st tr6 _ _ _ (own_ne tr6 hO6 (by decide))) (own_st hr6 _ _ _ (own_ne hr6 hO6 (by decide)))
        have HFIN : Hid _ := And.intro hRR (And.intro B7 R6)
        have s0 := (cell_blk st6.hR 0)
        have s1 := (cell_blk st6.hR 1)
        have sf := fun i => unfrozen_blk st6.hR i
        have q0 := cell_blk hO6 0
        dsimp at s0 s1 q0
        clear hRR B7 R6 st6 tr6 hr6 hg6 r5 st5 t5 HU5 b5 b5' hO5 hO6
        subst KK
        go_wp2
        obtain ⟨hRR, B7, R7⟩ := HFIN.out
        exact bodyPost_ret (results_devb Try.results26 _ _ (w.heap.size + 1) _ _ rfl rfl rfl (put2d _ _ hRR)) rfl ⟨_, _, rfl, ((R7.low (by omega) _ _).low (by omega) _ _).mono (by omega), fl_below B7⟩)

end Go.Proofs.Ytpmdhoiodbjojaa
