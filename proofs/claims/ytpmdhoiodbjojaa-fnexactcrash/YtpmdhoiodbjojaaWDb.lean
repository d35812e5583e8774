/- Devices: laws.FnExactFlush, FnExactCrash: the walks. -/
import Derived.Test.YtpmdhoiodbjojaaRows
import Derived.Test.YtpmdhoiodbjojaaWDa
namespace Go.Proofs.Ytpmdhoiodbjojaa
open Go.RowKit

set_option maxRecDepth 100000 in
set_option maxHeartbeats 4000000 in
theorem wFlush (a b : Value) (d : Dv) (w : World) (ha : TxtsAt w a d.blocks) (hb : WrsAt w b d.pend) (hd : DvFit d) :
    Calls Try.prog 7 #[.agg #[a, b]] w fun e w' => e = .returned (.bool true) ∧ Below w.heap.size w w' := by
  have AR := ArgD.start w a b
  have hs0 : (w.alloc (.cells #[a, b] 39)).heap.size = w.heap.size + 1 := by simp
  have HZ := szDev_any a b d _ (ha.below AR.bel) (hb.below AR.bel) hd.l hd.s hd.l2 hd.s2
  rw [hs0] at HZ
  have HAT : ∀ w', ArgD w a b w' → DevAt w' (.agg #[a, b]) d := fun w' h => ⟨a, b, rfl, ha.below h.bel, hb.below h.bel⟩
  obtain ⟨aa, ca, hfa, -, -⟩ := id ha
  obtain ⟨bb, cb, hfb, -, -⟩ := id hb
  generalize d.blocks.length = n1 at hfa
  generalize d.pend.length = n2 at hfb
  subst hfa
  subst hfb
  have HS := fun v w' h => sFlush v d w' hd.l hd.l2 h
  have HI := fun v w' h => iFlush v d w' hd.l hd.l2 h
  obtain ⟨hk18, hk0⟩ := kept_small (bitB 1099511627775) d
  rw [keptN_congr (keep := fun i => true || bitB 0 i) (keep' := bitB 1099511627775) d (fun t ht => by rw [bit_all t ht]; rfl)] at HS
  generalize keptN (bitB 1099511627775) d = K at HS HI hk18 hk0
  go_enter Try.func7, Try.ntmps7
  go_wp2_with fail
  refine HZ.mono ?_
  rintro e w1 ⟨q, rfl, ⟨hq0, hq1⟩, HQ, b1⟩
  have ar1 := AR.below (by rw [hs0]; exact b1)
  by_cases hq : q < 0
  · go_wp2
    go_ret
    exact ⟨rfl, ar1.bel⟩
  · obtain ⟨⟨hl, -⟩, hl2, -⟩ := HQ.out (by omega)
    have HTO := fun w' (h : ArgD w _ _ w') => toDev_any _ d w' hl hl2 (HAT w' h)
    have HEQ := fun u v w' => eqDev_same u v d w' (by omega)
    have HEK := fun u v w' => eqDev_same u v K w' (by omega)
    clear HQ HZ AR
    obtain ⟨c0, c1⟩ := ar1.cells
    go_wp2_with fail
    refine (HTO w1 ar1).mono ?_
    rintro e w2 ⟨u2, v2, rfl, r2, b2⟩
    have ar2 := ar1.below b2
    go_wp2_with fail
    refine (HS _ w2 r2.at).mono ?_
    rintro e w3 ⟨u3, v3, rfl, r3, b3⟩
    obtain ⟨sa, s1, sc, sb, s2, sd, rfl, rfl⟩ := dev_forms r3
    have ar3 := (ar2.below b3).below (below_lit w3 (.cells #[.slice sa s1 sc, .slice sb s2 sd] 27))
    have sv3 := VarD.new r3
    have hs3 : (w3.alloc (.cells #[.slice sa s1 sc, .slice sb s2 sd] 27)).heap.size = w3.heap.size + 1 := by simp
    have hn3 : w.heap.size < w2.heap.size := lt_of_block ar2.hp
    have hn23 := b3.size
    obtain ⟨c0, c1⟩ := ar3.cells
    have HT3 := HTO _ ar3
    rw [hs3] at HT3
    clear ar1 ar2 r2 r3 b1 b2 b3
    go_wp2_with fail
    refine HT3.mono ?_
    rintro e w4 ⟨u4, v4, rfl, r4, b4⟩
    obtain ⟨ga, m1, gc, gb, m2, gd, rfl, rfl⟩ := dev_forms r4
    have b4' := b4
    rw [← hs3] at b4'
    have BL4 := below_lit w4 (.cells #[.slice ga m1 gc, .slice gb m2 gd] 27)
    have ar4 := (ar3.below b4').below BL4
    have sv4 := (sv3.below b4').below BL4
    have xv4 := VarD.new r4
    have hn4 := b4.size
    rw [hs3] at hn4
    have hs4 : (w4.alloc (.cells #[.slice ga m1 gc, .slice gb m2 gd] 27)).heap.size = w4.heap.size + 1 := by simp
    have HI4 := HI _ _ xv4.r.at
    rw [hs4] at HI4
    clear ar3 sv3 HT3 r4 b4 b4' BL4 hs3
    go_wp2_with fail
    refine HI4.mono ?_
    rintro e w5 ⟨u5, v5, rfl, r5, b5⟩
    obtain ⟨ja, j1, jc, jb, j2, jd, rfl, rfl⟩ := dev_forms r5
    have b5' := b5
    rw [← hs4] at b5'
    have BL5 := below_lit w5 (.cells #[.slice ja j1 jc, .slice jb j2 jd] 27)
    have ar5 := (ar4.below b5').below BL5
    have sv5 := (sv4.below b5').below BL5
    have xv5 := (xv4.below b5').below BL5
    have gv5 := VarD.new r5
    have hn5 := b5.size
    rw [hs4] at hn5
    have hs5 : (w5.alloc (.cells #[.slice ja j1 jc, .slice jb j2 jd] 27)).heap.size = w5.heap.size + 1 := by simp
    have HE5 := HEK _ _ _ gv5.r.at sv5.r.at
    rw [hs5] at HE5
    obtain ⟨x0, x1⟩ := sv5.cells
    clear ar4 sv4 xv4 HI4 r5 b5 b5' BL5 hs4
    go_wp2_with fail
    refine HE5.mono ?_
    rintro e w6 ⟨rfl, b6⟩
    rw [← hs5] at b6
    have ar6 := ar5.below b6
    have sv6 := sv5.below b6
    have xv6 := xv5.below b6
    have gv6 := gv5.below b6
    obtain ⟨c0, c1⟩ := ar6.cells
    obtain ⟨e0, e1⟩ := xv6.cells
    have HTO6 := HTO w6.drew (ar6.below (Below.refl _ _).drew)
    have hHI : Hid _ := HI
    have HHS : Hid (ArgD w _ _ w6 ∧ VarD _ _ _ _ _ w6 ∧ VarD _ _ _ _ _ w6 ∧ VarD _ _ _ _ _ w6) := ⟨ar6, xv6, sv6, gv6⟩
    clear ar5 sv5 xv5 gv5 ar6 xv6 sv6 gv6 HE5 b6 hs5 HI HS
    go_wp2_with fail
    go_region_held3 (fun w' => (w'.cell? ⟨w4.heap.size, 0, none⟩ = some (.slice ga m1 gc) ∧ w'.cell? ⟨w4.heap.size, 1, none⟩ = some (.slice gb m2 gd)) ∧ (w'.cell? ⟨w.heap.size, 0, none⟩ = some (.slice aa n1 ca) ∧ w'.cell? ⟨w.heap.size, 1, none⟩ = some (.slice bb n2 cb))) (go_keep)
      (first
      | (go_at_call 16; refine HTO6.mono ?_; rintro e w7 ⟨u7, v7, rfl, r7, b7⟩; have b7' := (Below.refl _ _).drew.trans b7; have ar7 := HHS.out.1.below b7'; have xv7 := HHS.out.2.1.below b7'; obtain ⟨c0, c1⟩ := ar7.cells; obtain ⟨e0, e1⟩ := xv7.cells; have AR7 : Hid _ := ar7; have VD7 : Hid _ := xv7; clear ar7 xv7)
      | (go_at_call 18; refine (HEQ _ _ _ VD7.out.r.at r7.at).mono ?_; rintro e w8 ⟨rfl, b8⟩; have ar8 := AR7.out.below b8; have xv8 := VD7.out.below b8; obtain ⟨c0, c1⟩ := ar8.cells; obtain ⟨e0, e1⟩ := xv8.cells))
    have b8' := b7'.trans (b8.mono b7'.size)
    have sv8 := HHS.out.2.2.1.below b8'
    have gv8 := HHS.out.2.2.2.below b8'
    have HMX := markDev_any _ _ d 1 (w3.heap.size + 1) w4.heap.size w8 xv8.r xv8.ta xv8.tb (by omega) (by omega) (by decide) (by decide)
    clear HHS HTO6 AR7 VD7 r7 b7 b7' b8 b8' c0 c1
    go_wp2_with fail
    refine HMX.mono ?_
    rintro e w9 ⟨rfl, -, m9⟩
    obtain ⟨mm, HMM⟩ : ∃ mm : Nat, Hid (mm = 1 + d.blocks.length + 2 * d.pend.length) := ⟨_, rfl⟩
    rw [← HMM.out]
    have hmm0 : ¬ ((mm : Int) < 0) := by omega
    have ar9 := ar8.mid m9 (by omega)
    have sv9 := sv8.mid m9 (by omega) (by omega)
    have gv9 := gv8.mid m9 (by omega) (by omega)
    obtain ⟨x0, x1⟩ := sv9.cells
    obtain ⟨g0, g1⟩ := gv9.cells
    clear ar8 sv8 gv8 xv8 HMX m9 e0 e1
    go_wp2_with fail
    refine (HEK _ _ w9 gv9.r.at sv9.r.at).mono ?_
    rintro e w10 ⟨rfl, b10⟩
    have ar10 := ar9.below b10
    have sv10 := sv9.below b10
    have gv10 := gv9.below b10
    obtain ⟨g0, g1⟩ := gv10.cells
    have HMG := markDev_any _ _ K 1 (w4.heap.size + 1) w5.heap.size w10 gv10.r gv10.ta gv10.tb (by omega) (by omega) (by decide) (by decide)
    have HHG := fun w' h => heldDev_marks (.slice ja j1 jc) (.slice jb j2 jd) K.blocks.length K.pend.length 1 w' (by omega) (by omega) (by decide) (by decide) h
    generalize marksT 1 K.blocks.length = mT at *
    generalize marksW (1 + K.blocks.length) K.pend.length = mW at *
    obtain ⟨nm, HNM⟩ : ∃ nm : Nat, Hid (nm = 1 + K.blocks.length + 2 * K.pend.length) := ⟨_, rfl⟩
    rw [← HNM.out] at HMG
    have HHG : ∀ w', TxtsAt w' (.slice ja j1 jc) mT → WrsAt w' (.slice jb j2 jd) mW → Calls Try.prog 22 #[.agg #[.slice ja j1 jc, .slice jb j2 jd], .int .i64 1] w' fun e w'' => e = .returned (.int .i64 nm) ∧ Below w'.heap.size w' w'' := fun w' h1 h2 => by rw [HNM.out]; exact HHG w' h1 h2
    have hnn : ¬ ((nm : Int) < 0) := by omega
    clear ar9 sv9 gv9 b10
    go_wp2_with fail
    refine HMG.mono ?_
    rintro e w11 ⟨rfl, r11, m11⟩
    have ar11 := ar10.mid m11 (by omega)
    have sv11 := sv10.mid m11 (by omega) (by omega)
    have gv11 := gv10.marked m11 r11
    obtain ⟨g0, g1⟩ := gv11.cells
    clear ar10 sv10 gv10 HMG m11 r11
    go_wp2_with fail
    refine (HHG w11 gv11.r.t.at gv11.r.p.at).mono ?_
    rintro e w12 ⟨rfl, b12⟩
    have ar12 := ar11.below b12
    have sv12 := sv11.below b12
    have gv12 := gv11.below b12
    obtain ⟨c0, c1⟩ := ar12.cells
    clear ar11 sv11 gv11 b12 g0 g1 x0 x1
    go_wp2_with fail
    refine (HTO w12 ar12).mono ?_
    rintro e w13 ⟨u13, v13, rfl, r13, b13⟩
    go_wp2_with fail
    refine (hHI.out _ w13 r13.at).mono ?_
    rintro e w14 ⟨u14, v14, rfl, r14, b14⟩
    obtain ⟨ka, k1, kc, kb, k2, kd, rfl, rfl⟩ := dev_forms r14
    have BL14 := below_lit w14 (.cells #[.slice ka k1 kc, .slice kb k2 kd] 27)
    have ar14 := ((ar12.below b13).below b14).below BL14
    have sv14 := ((sv12.below b13).below b14).below BL14
    have gv14 := ((gv12.below b13).below b14).below BL14
    have hv14 := VarD.new r14
    have hs14 : (w14.alloc (.cells #[.slice ka k1 kc, .slice kb k2 kd] 27)).heap.size = w14.heap.size + 1 := by simp
    have HE14 := HEK _ _ _ hv14.r.at sv14.r.at
    rw [hs14] at HE14
    obtain ⟨x0, x1⟩ := sv14.cells
    obtain ⟨h0, h1⟩ := hv14.cells
    clear ar12 sv12 gv12 b13 b14 BL14 r13 r14 c0 c1
    go_wp2_with fail
    refine HE14.mono ?_
    rintro e w15 ⟨rfl, b15⟩
    rw [← hs14] at b15
    have ar15 := ar14.below b15
    have gv15 := gv14.below b15
    obtain ⟨g0, g1⟩ := gv15.cells
    clear ar14 sv14 gv14 hv14 HE14 b15 h0 h1 x0 x1
    go_wp2_with fail
    refine (HHG w15 gv15.r.t.at gv15.r.p.at).mono ?_
    rintro e w16 ⟨rfl, b16⟩
    have ar16 := ar15.below b16
    go_wp2
    go_ret
    exact ⟨rfl, ar16.bel⟩

set_option maxRecDepth 100000 in
set_option maxHeartbeats 4000000 in
theorem wCrash (a b : Value) (d : Dv) (mask : Int) (w : World) (ha : TxtsAt w a d.blocks) (hb : WrsAt w b d.pend) (hd : DvFit d) :
    Calls Try.prog 8 #[.agg #[a, b], .int .i64 mask] w fun e w' => e = .returned (.bool true) ∧ Below w.heap.size w w' := by
  have AR := ArgD.start w a b
  have hs0 : (w.alloc (.cells #[a, b] 39)).heap.size = w.heap.size + 1 := by simp
  have HZ := szDev_any a b d _ (ha.below AR.bel) (hb.below AR.bel) hd.l hd.s hd.l2 hd.s2
  rw [hs0] at HZ
  have HAT : ∀ w', ArgD w a b w' → DevAt w' (.agg #[a, b]) d := fun w' h => ⟨a, b, rfl, ha.below h.bel, hb.below h.bel⟩
  obtain ⟨aa, ca, hfa, -, -⟩ := id ha
  obtain ⟨bb, cb, hfb, -, -⟩ := id hb
  generalize d.blocks.length = n1 at hfa
  generalize d.pend.length = n2 at hfb
  subst hfa
  subst hfb
  have HS := fun v w' h => sCrash v d mask w' hd.l hd.l2 h
  have HI := fun v w' h => iCrash v d mask w' hd.l hd.l2 h
  obtain ⟨hk18, hk0⟩ := kept_small (bitB mask) d
  have hfun : (fun i => false || bitB mask i) = bitB mask := by funext i; rfl
  rw [hfun] at HS
  generalize keptN (bitB mask) d = K at HS HI hk18 hk0
  go_enter Try.func8, Try.ntmps8
  go_wp2_with fail
  refine HZ.mono ?_
  rintro e w1 ⟨q, rfl, ⟨hq0, hq1⟩, HQ, b1⟩
  have ar1 := AR.below (by rw [hs0]; exact b1)
  by_cases hq : q < 0
  · go_wp2
    go_ret
    exact ⟨rfl, ar1.bel⟩
  · obtain ⟨⟨hl, -⟩, hl2, -⟩ := HQ.out (by omega)
    have HTO := fun w' (h : ArgD w _ _ w') => toDev_any _ d w' hl hl2 (HAT w' h)
    have HEQ := fun u v w' => eqDev_same u v d w' (by omega)
    have HEK := fun u v w' => eqDev_same u v K w' (by omega)
    clear HQ HZ AR
    obtain ⟨c0, c1⟩ := ar1.cells
    go_wp2_with fail
    refine (HTO w1 ar1).mono ?_
    rintro e w2 ⟨u2, v2, rfl, r2, b2⟩
    have ar2 := ar1.below b2
    go_wp2_with fail
    refine (HS _ w2 r2.at).mono ?_
    rintro e w3 ⟨u3, v3, rfl, r3, b3⟩
    obtain ⟨sa, s1, sc, sb, s2, sd, rfl, rfl⟩ := dev_forms r3
    have ar3 := (ar2.below b3).below (below_lit w3 (.cells #[.slice sa s1 sc, .slice sb s2 sd] 27))
    have sv3 := VarD.new r3
    have hs3 : (w3.alloc (.cells #[.slice sa s1 sc, .slice sb s2 sd] 27)).heap.size = w3.heap.size + 1 := by simp
    have hn3 : w.heap.size < w2.heap.size := lt_of_block ar2.hp
    have hn23 := b3.size
    obtain ⟨c0, c1⟩ := ar3.cells
    have HT3 := HTO _ ar3
    rw [hs3] at HT3
    clear ar1 ar2 r2 r3 b1 b2 b3
    go_wp2_with fail
    refine HT3.mono ?_
    rintro e w4 ⟨u4, v4, rfl, r4, b4⟩
    obtain ⟨ga, m1, gc, gb, m2, gd, rfl, rfl⟩ := dev_forms r4
    have b4' := b4
    rw [← hs3] at b4'
    have BL4 := below_lit w4 (.cells #[.slice ga m1 gc, .slice gb m2 gd] 27)
    have ar4 := (ar3.below b4').below BL4
    have sv4 := (sv3.below b4').below BL4
    have xv4 := VarD.new r4
    have hn4 := b4.size
    rw [hs3] at hn4
    have hs4 : (w4.alloc (.cells #[.slice ga m1 gc, .slice gb m2 gd] 27)).heap.size = w4.heap.size + 1 := by simp
    have HI4 := HI _ _ xv4.r.at
    rw [hs4] at HI4
    clear ar3 sv3 HT3 r4 b4 b4' BL4 hs3
    go_wp2_with fail
    refine HI4.mono ?_
    rintro e w5 ⟨u5, v5, rfl, r5, b5⟩
    obtain ⟨ja, j1, jc, jb, j2, jd, rfl, rfl⟩ := dev_forms r5
    have b5' := b5
    rw [← hs4] at b5'
    have BL5 := below_lit w5 (.cells #[.slice ja j1 jc, .slice jb j2 jd] 27)
    have ar5 := (ar4.below b5').below BL5
    have sv5 := (sv4.below b5').below BL5
    have xv5 := (xv4.below b5').below BL5
    have gv5 := VarD.new r5
    have hn5 := b5.size
    rw [hs4] at hn5
    have hs5 : (w5.alloc (.cells #[.slice ja j1 jc, .slice jb j2 jd] 27)).heap.size = w5.heap.size + 1 := by simp
    have HE5 := HEK _ _ _ gv5.r.at sv5.r.at
    rw [hs5] at HE5
    obtain ⟨x0, x1⟩ := sv5.cells
    clear ar4 sv4 xv4 HI4 r5 b5 b5' BL5 hs4
    go_wp2_with fail
    refine HE5.mono ?_
    rintro e w6 ⟨rfl, b6⟩
    rw [← hs5] at b6
    have ar6 := ar5.below b6
    have sv6 := sv5.below b6
    have xv6 := xv5.below b6
    have gv6 := gv5.below b6
    obtain ⟨c0, c1⟩ := ar6.cells
    obtain ⟨e0, e1⟩ := xv6.cells
    have HTO6 := HTO w6.drew (ar6.below (Below.refl _ _).drew)
    have hHI : Hid _ := HI
    have HHS : Hid (ArgD w _ _ w6 ∧ VarD _ _ _ _ _ w6 ∧ VarD _ _ _ _ _ w6 ∧ VarD _ _ _ _ _ w6) := ⟨ar6, xv6, sv6, gv6⟩
    clear ar5 sv5 xv5 gv5 ar6 xv6 sv6 gv6 HE5 b6 hs5 HI HS
    go_wp2_with fail
    go_region_held3 (fun w' => (w'.cell? ⟨w4.heap.size, 0, none⟩ = some (.slice ga m1 gc) ∧ w'.cell? ⟨w4.heap.size, 1, none⟩ = some (.slice gb m2 gd)) ∧ (w'.cell? ⟨w.heap.size, 0, none⟩ = some (.slice aa n1 ca) ∧ w'.cell? ⟨w.heap.size, 1, none⟩ = some (.slice bb n2 cb))) (go_keep)
      (first
      | (go_at_call 16; refine HTO6.mono ?_; rintro e w7 ⟨u7, v7, rfl, r7, b7⟩; have b7' := (Below.refl _ _).drew.trans b7; have ar7 := HHS.out.1.below b7'; have xv7 := HHS.out.2.1.below b7'; obtain ⟨c0, c1⟩ := ar7.cells; obtain ⟨e0, e1⟩ := xv7.cells; have AR7 : Hid _ := ar7; have VD7 : Hid _ := xv7; clear ar7 xv7)
      | (go_at_call 18; refine (HEQ _ _ _ VD7.out.r.at r7.at).mono ?_; rintro e w8 ⟨rfl, b8⟩; have ar8 := AR7.out.below b8; have xv8 := VD7.out.below b8; obtain ⟨c0, c1⟩ := ar8.cells; obtain ⟨e0, e1⟩ := xv8.cells))
    have b8' := b7'.trans (b8.mono b7'.size)
    have sv8 := HHS.out.2.2.1.below b8'
    have gv8 := HHS.out.2.2.2.below b8'
    have HMX := markDev_any _ _ d 1 (w3.heap.size + 1) w4.heap.size w8 xv8.r xv8.ta xv8.tb (by omega) (by omega) (by decide) (by decide)
    clear HHS HTO6 AR7 VD7 r7 b7 b7' b8 b8' c0 c1
    go_wp2_with fail
    refine HMX.mono ?_
    rintro e w9 ⟨rfl, -, m9⟩
    obtain ⟨mm, HMM⟩ : ∃ mm : Nat, Hid (mm = 1 + d.blocks.length + 2 * d.pend.length) := ⟨_, rfl⟩
    rw [← HMM.out]
    have hmm0 : ¬ ((mm : Int) < 0) := by omega
    have ar9 := ar8.mid m9 (by omega)
    have sv9 := sv8.mid m9 (by omega) (by omega)
    have gv9 := gv8.mid m9 (by omega) (by omega)
    obtain ⟨x0, x1⟩ := sv9.cells
    obtain ⟨g0, g1⟩ := gv9.cells
    clear ar8 sv8 gv8 xv8 HMX m9 e0 e1
    go_wp2_with fail
    refine (HEK _ _ w9 gv9.r.at sv9.r.at).mono ?_
    rintro e w10 ⟨rfl, b10⟩
    have ar10 := ar9.below b10
    have sv10 := sv9.below b10
    have gv10 := gv9.below b10
    obtain ⟨g0, g1⟩ := gv10.cells
    have HMG := markDev_any _ _ K 1 (w4.heap.size + 1) w5.heap.size w10 gv10.r gv10.ta gv10.tb (by omega) (by omega) (by decide) (by decide)
    have HHG := fun w' h => heldDev_marks (.slice ja j1 jc) (.slice jb j2 jd) K.blocks.length K.pend.length 1 w' (by omega) (by omega) (by decide) (by decide) h
    generalize marksT 1 K.blocks.length = mT at *
    generalize marksW (1 + K.blocks.length) K.pend.length = mW at *
    obtain ⟨nm, HNM⟩ : ∃ nm : Nat, Hid (nm = 1 + K.blocks.length + 2 * K.pend.length) := ⟨_, rfl⟩
    rw [← HNM.out] at HMG
    have HHG : ∀ w', TxtsAt w' (.slice ja j1 jc) mT → WrsAt w' (.slice jb j2 jd) mW → Calls Try.prog 22 #[.agg #[.slice ja j1 jc, .slice jb j2 jd], .int .i64 1] w' fun e w'' => e = .returned (.int .i64 nm) ∧ Below w'.heap.size w' w'' := fun w' h1 h2 => by rw [HNM.out]; exact HHG w' h1 h2
    have hnn : ¬ ((nm : Int) < 0) := by omega
    clear ar9 sv9 gv9 b10
    go_wp2_with fail
    refine HMG.mono ?_
    rintro e w11 ⟨rfl, r11, m11⟩
    have ar11 := ar10.mid m11 (by omega)
    have sv11 := sv10.mid m11 (by omega) (by omega)
    have gv11 := gv10.marked m11 r11
    obtain ⟨g0, g1⟩ := gv11.cells
    clear ar10 sv10 gv10 HMG m11 r11
    go_wp2_with fail
    refine (HHG w11 gv11.r.t.at gv11.r.p.at).mono ?_
    rintro e w12 ⟨rfl, b12⟩
    have ar12 := ar11.below b12
    have sv12 := sv11.below b12
    have gv12 := gv11.below b12
    obtain ⟨c0, c1⟩ := ar12.cells
    clear ar11 sv11 gv11 b12 g0 g1 x0 x1
    go_wp2_with fail
    refine (HTO w12 ar12).mono ?_
    rintro e w13 ⟨u13, v13, rfl, r13, b13⟩
    go_wp2_with fail
    refine (hHI.out _ w13 r13.at).mono ?_
    rintro e w14 ⟨u14, v14, rfl, r14, b14⟩
    obtain ⟨ka, k1, kc, kb, k2, kd, rfl, rfl⟩ := dev_forms r14
    have BL14 := below_lit w14 (.cells #[.slice ka k1 kc, .slice kb k2 kd] 27)
    have ar14 := ((ar12.below b13).below b14).below BL14
    have sv14 := ((sv12.below b13).below b14).below BL14
    have gv14 := ((gv12.below b13).below b14).below BL14
    have hv14 := VarD.new r14
    have hs14 : (w14.alloc (.cells #[.slice ka k1 kc, .slice kb k2 kd] 27)).heap.size = w14.heap.size + 1 := by simp
    have HE14 := HEK _ _ _ hv14.r.at sv14.r.at
    rw [hs14] at HE14
    obtain ⟨x0, x1⟩ := sv14.cells
    obtain ⟨h0, h1⟩ := hv14.cells
    clear ar12 sv12 gv12 b13 b14 BL14 r13 r14 c0 c1
    go_wp2_with fail
    refine HE14.mono ?_
    rintro e w15 ⟨rfl, b15⟩
    rw [← hs14] at b15
    have ar15 := ar14.below b15
    have gv15 := gv14.below b15
    obtain ⟨g0, g1⟩ := gv15.cells
    clear ar14 sv14 gv14 hv14 HE14 b15 h0 h1 x0 x1
    go_wp2_with fail
    refine (HHG w15 gv15.r.t.at gv15.r.p.at).mono ?_
    rintro e w16 ⟨rfl, b16⟩
    have ar16 := ar15.below b16
    go_wp2
    go_ret
    exact ⟨rfl, ar16.bel⟩

end Go.Proofs.Ytpmdhoiodbjojaa
