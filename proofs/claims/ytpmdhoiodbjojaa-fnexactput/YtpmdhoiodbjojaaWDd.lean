/- Devices: laws.FnExactPut: the walk. -/
import Derived.Test.YtpmdhoiodbjojaaRows
import Derived.Test.YtpmdhoiodbjojaaWDa
namespace Go.Proofs.Ytpmdhoiodbjojaa
open Go.RowKit

theorem put_small (d : Dv) (l : List Wr) : (putN d l).1.blocks.length ≤ 18 ∧ (putN d l).1.pend.length ≤ 40 := by
  unfold putN
  by_cases h : devB d = true
  · obtain ⟨⟨h1, h2⟩, -, -⟩ := (devB_iff d).1 h
    rw [if_pos h]
    by_cases hp : putFits d l = true
    · rw [if_pos hp]
      unfold putFits at hp
      rw [Bool.and_eq_true, decide_eq_true_eq] at hp
      refine ⟨by dsimp only; omega, ?_⟩
      dsimp only
      rw [List.length_append]
      omega
    · rw [if_neg hp]; exact ⟨by dsimp only; omega, h2⟩
  · rw [if_neg h]; exact ⟨by simp, by simp⟩

set_option maxRecDepth 100000 in
set_option maxHeartbeats 4000000 in
theorem wPut (a b u : Value) (d : Dv) (l : List Wr) (w : World) (ha : TxtsAt w a d.blocks) (hb : WrsAt w b d.pend) (hu : WrsAt w u l) (hd : DvFit d) (hle : l.length ≤ 9223372036854775807) (hls : ∀ t, t < l.length → l[t]!.text.size ≤ 9223372036854775807) :
    Calls Try.prog 6 #[.agg #[a, b], u] w fun e w' => e = .returned (.bool true) ∧ Below w.heap.size w w' := by
  have AR := ArgD.start w a b
  have hs0 : (w.alloc (.cells #[a, b] 39)).heap.size = w.heap.size + 1 := by simp
  have HZ := szDev_any a b d _ (ha.below AR.bel) (hb.below AR.bel) hd.l hd.s hd.l2 hd.s2
  rw [hs0] at HZ
  have HAT : ∀ w', ArgD w a b w' → DevAt w' (.agg #[a, b]) d := fun w' h => ⟨a, b, rfl, ha.below h.bel, hb.below h.bel⟩
  obtain ⟨aa, ca, hfa, -, -⟩ := id ha
  obtain ⟨bb, cb, hfb, -, -⟩ := id hb
  generalize d.blocks.length = n1 at hfa
  generalize d.pend.length = n2 at hfb
  subst hfa
  subst hfb
  have HUA : ∀ w', ArgD w (.slice aa n1 ca) (.slice bb n2 cb) w' → WrsAt w' u l := fun w' h => hu.below h.bel
  have HS := fun v u w' h h2 => sPut v u d l w' hd.l hd.l2 hle h h2
  have HI := fun v u w' h h2 => iPut v u d l w' hd.l hd.l2 hle h h2
  obtain ⟨hk18, hk0⟩ := put_small d l
  generalize (putN d l).1 = K at HS HI hk18 hk0
  generalize (putN d l).2 = fl at HS HI
  obtain ⟨la, lc, hfl, -, -⟩ := id hu
  have HZW := fun y w' h0 h1 (h : ArgD w _ _ w') => szWrS_any u l y w' h0 h1 (HUA w' h) hle hls
  have hff : (fl != fl) = false := by simp
  generalize l.length = ln at hfl
  subst hfl
  go_enter Try.func6, Try.ntmps6
  go_wp2_with fail
  refine HZ.mono ?_
  rintro e w1 ⟨q, rfl, ⟨hq0, hq1⟩, HQ, b1⟩
  have ar1 := AR.below (by rw [hs0]; exact b1)
  by_cases hq : q < 0
  · go_wp2
    go_ret
    exact ⟨rfl, ar1.bel⟩
  · obtain ⟨⟨hl, -⟩, hl2, -⟩ := HQ.out (by omega)
    go_wp2_with fail
    refine (HZW q w1 (by omega) hq1 ar1).mono ?_
    rintro e w1b ⟨q2, rfl, ⟨hr0, hr1⟩, HQ2, b1b⟩
    replace ar1 := ar1.below b1b
    clear b1
    by_cases hq2 : q2 < 0
    · go_wp2
      go_ret
      exact ⟨rfl, ar1.bel⟩
    obtain ⟨hl3, -⟩ := HQ2.out (by omega)
    generalize w1b = w1 at ar1 ⊢
    have HTO := fun w' (h : ArgD w _ _ w') => toDev_any _ d w' hl hl2 (HAT w' h)
    have HTW := fun w' (h : ArgD w _ _ w') => toWrS_any _ l w' hl3 (HUA w' h)
    have HEW : ∀ x y w', WrsAt w' x l → WrsAt w' y l → Calls Try.prog 27 #[x, y] w' fun e w'' => e = .returned (.bool true) ∧ Below w'.heap.size w' w'' := fun x y w' h1 h2 => by
      have := eqWrS_any x y l l w' hle h1 h2
      rwa [decide_eq_true rfl] at this
    have HEQ := fun u v w' => eqDev_same u v d w' (by omega)
    have HEK := fun u v w' => eqDev_same u v K w' (by omega)
    clear HQ HZ AR HQ2 HZW b1b
    obtain ⟨c0, c1⟩ := ar1.cells
    go_wp2_with fail
    refine (HTO w1 ar1).mono ?_
    rintro e w2 ⟨u2, v2, rfl, r2, b2⟩
    have ar2 := ar1.below b2
    go_wp2_with fail
    refine (HTW w2 ar2).mono ?_
    rintro e w2b ⟨u2b, rfl, r2b, b2b⟩
    have r2' := r2.below b2b
    replace ar2 := ar2.below b2b
    clear r2 b2
    generalize w2b = w2 at ar2 r2' r2b ⊢
    go_wp2_with fail
    refine (HS _ _ w2 r2'.at r2b.at).mono ?_
    rintro e w3 ⟨u3, v3, rfl, r3, b3⟩
    obtain ⟨sa, s1, sc, sb, s2, sd, rfl, rfl⟩ := dev_forms r3
    have ar3 := (ar2.below b3).below (below_lit w3 (.cells #[.slice sa s1 sc, .slice sb s2 sd] 27))
    have sv3 := VarD.new r3
    have hs3 : (w3.alloc (.cells #[.slice sa s1 sc, .slice sb s2 sd] 27)).heap.size = w3.heap.size + 1 := by simp
    have hn3 : w.heap.size < w2.heap.size := lt_of_block ar2.hp
    have hn23 := b3.size
    obtain ⟨c0, c1⟩ := ar3.cells
    have HT3 := HTO _ ar3
    rw [hs3] at HT3
    clear ar1 ar2 r2' r2b r3 b3 b2b
    go_wp2_with fail
    refine HT3.mono ?_
    rintro e w4 ⟨u4, v4, rfl, r4, b4⟩
    obtain ⟨ga, m1, gc, gb, m2, gd, rfl, rfl⟩ := dev_forms r4
    have b4' := b4
    rw [← hs3] at b4'
    have BL4 := below_lit w4 (.cells #[.slice ga m1 gc, .slice gb m2 gd] 27)
    have ar4 := (ar3.below b4').below BL4
    have sv4 := (sv3.below b4').below BL4
    have xv4 := VarD.new r4
    have hn4 := b4.size
    rw [hs3] at hn4
    have hs4 : (w4.alloc (.cells #[.slice ga m1 gc, .slice gb m2 gd] 27)).heap.size = w4.heap.size + 1 := by simp
    have HT4 := HTW _ ar4
    rw [hs4] at HT4
    clear ar3 sv3 HT3 r4 b4 b4' BL4 hs3
    go_wp2_with fail
    refine HT4.mono ?_
    rintro e w4b ⟨y4, rfl, y4r, b4b⟩
    rw [← hs4] at b4b
    have ar4b := ar4.below b4b
    have sv4b := sv4.below b4b
    have xv4b := xv4.below b4b
    have hn4b := b4b.size
    rw [hs4] at hn4b
    obtain ⟨yla, ylc, hyl, -, -⟩ := y4r.at
    generalize l.length = yn at hyl
    subst hyl
    obtain ⟨e0, e1⟩ := xv4b.cells
    have y4blk := fun q hq => World.ownsRow.lt y4r q hq
    clear ar4 sv4 xv4 HT4 b4b hs4
    go_wp2_with fail
    refine (HI _ _ w4b xv4b.r.at y4r.at).mono ?_
    rintro e w5 ⟨u5, v5, rfl, r5, b5⟩
    obtain ⟨ja, j1, jc, jb, j2, jd, rfl, rfl⟩ := dev_forms r5
    have BL5 := below_lit w5 (.cells #[.slice ja j1 jc, .slice jb j2 jd] 27)
    have ar5 := (ar4b.below b5).below BL5
    have sv5 := (sv4b.below b5).below BL5
    have xv5 := (xv4b.below b5).below BL5
    have yv5 : WrRow _ _ _ l := (y4r.below b5).below BL5
    have gv5 := VarD.new r5
    have hn5 := b5.size
    have hs5 : (w5.alloc (.cells #[.slice ja j1 jc, .slice jb j2 jd] 27)).heap.size = w5.heap.size + 1 := by simp
    have HE5 := HEK _ _ _ gv5.r.at sv5.r.at
    rw [hs5] at HE5
    obtain ⟨x0, x1⟩ := sv5.cells
    clear ar4b sv4b xv4b r5 b5 BL5 y4r e0 e1
    go_wp2_with fail
    refine HE5.mono ?_
    rintro e w6 ⟨rfl, b6⟩
    rw [← hs5] at b6
    have ar6 := ar5.below b6
    have sv6 := sv5.below b6
    have xv6 := xv5.below b6
    have gv6 := gv5.below b6
    have yv6 : WrRow _ _ _ l := yv5.below b6
    obtain ⟨c0, c1⟩ := ar6.cells
    obtain ⟨e0, e1⟩ := xv6.cells
    have HTO6 := HTO w6.drew (ar6.below (Below.refl _ _).drew)
    have hHI : Hid _ := HI
    have HHS : Hid (ArgD w _ _ w6 ∧ VarD _ _ _ _ _ w6 ∧ VarD _ _ _ _ _ w6 ∧ VarD _ _ _ _ _ w6 ∧ WrRow w6 _ _ l) := ⟨ar6, xv6, sv6, gv6, yv6⟩
    clear ar5 sv5 xv5 gv5 yv5 yv6 ar6 xv6 sv6 gv6 HE5 b6 hs5 HI HS
    go_wp2_with fail
    go_region_held3 (fun w' => (w'.cell? ⟨w4.heap.size, 0, none⟩ = some (.slice ga m1 gc) ∧ w'.cell? ⟨w4.heap.size, 1, none⟩ = some (.slice gb m2 gd)) ∧ (w'.cell? ⟨w.heap.size, 0, none⟩ = some (.slice aa n1 ca) ∧ w'.cell? ⟨w.heap.size, 1, none⟩ = some (.slice bb n2 cb))) (go_keep)
      (first
      | (go_at_call 16; refine HTO6.mono ?_; rintro e w7 ⟨u7, v7, rfl, r7, b7⟩; have b7' := (Below.refl _ _).drew.trans b7; have ar7 := HHS.out.1.below b7'; have xv7 := HHS.out.2.1.below b7'; obtain ⟨c0, c1⟩ := ar7.cells; obtain ⟨e0, e1⟩ := xv7.cells; have AR7 : Hid _ := ar7; have VD7 : Hid _ := xv7; clear ar7 xv7)
      | (go_at_call 18; refine (HEQ _ _ _ VD7.out.r.at r7.at).mono ?_; rintro e w8 ⟨rfl, b8⟩; have ar8 := AR7.out.below b8; have xv8 := VD7.out.below b8; obtain ⟨c0, c1⟩ := ar8.cells; obtain ⟨e0, e1⟩ := xv8.cells))
    have b8' := b7'.trans (b8.mono b7'.size)
    have sv8 := HHS.out.2.2.1.below b8'
    have gv8 := HHS.out.2.2.2.1.below b8'
    have yv8 : WrRow _ _ _ l := HHS.out.2.2.2.2.below b8'
    clear HHS HTO6 AR7 VD7 r7 b7 b7' b8 b8' c0 c1 e0 e1
    go_wp2_with fail
    refine (HTW w8 ar8).mono ?_
    rintro e w8a ⟨u8a, rfl, r8a, b8a⟩
    have ar8a := ar8.below b8a
    have sv8a := sv8.below b8a
    have gv8a := gv8.below b8a
    have xv8a := xv8.below b8a
    have yv8a : WrRow _ _ _ l := yv8.below b8a
    clear ar8 sv8 gv8 xv8 yv8 b8a
    go_wp2_with fail
    refine (HEW _ _ w8a yv8a.at r8a.at).mono ?_
    rintro e w8b ⟨rfl, b8b⟩
    have ar8 := ar8a.below b8b
    have sv8 := sv8a.below b8b
    have gv8 := gv8a.below b8b
    have xv8 := xv8a.below b8b
    have yv8 : WrRow _ _ _ l := yv8a.below b8b
    clear ar8a sv8a gv8a xv8a yv8a b8b r8a
    generalize w8b = w8 at ar8 sv8 gv8 xv8 yv8 ⊢
    have HMX := markDev_any _ _ d 1 (w3.heap.size + 1) w4.heap.size w8 xv8.r xv8.ta xv8.tb (by omega) (by omega) (by decide) (by decide)
    obtain ⟨e0, e1⟩ := xv8.cells
    go_wp2_with fail
    refine HMX.mono ?_
    rintro e w8c ⟨rfl, -, m8⟩
    obtain ⟨ml, HML⟩ : ∃ ml : Nat, Hid (ml = 1 + d.blocks.length + 2 * d.pend.length) := ⟨_, rfl⟩
    rw [← HML.out]
    have hml0 : 0 < ml := by have := HML.out; omega
    have hml1 : ml ≤ 100000000 := by have := HML.out; omega
    have ar8c := ar8.mid m8 (by omega)
    have sv8c := sv8.mid m8 (by omega) (by omega)
    have gv8c := gv8.mid m8 (by omega) (by omega)
    have yv8c : WrRow w8c _ _ l := own_same yv8 fun q hq => m8.block q (World.ownsRow.lt yv8 q hq).2 (by have := y4blk q hq; omega)
    have HMY := markWrS_any _ l ml _ w8c yv8c (by omega) hml0 hml1
    clear ar8 sv8 gv8 xv8 yv8 HMX m8 e0 e1
    go_wp2_with fail
    refine HMY.mono ?_
    rintro e w9 ⟨rfl, -, k9⟩
    have m9 : MidB (w4.heap.size + 1) w4b.heap.size w8c w9 := MidB.of_grown k9 (fun q hq => by have := y4blk q hq; omega)
    obtain ⟨mm, HMM⟩ : ∃ mm : Nat, Hid (mm = ml + 2 * l.length) := ⟨_, rfl⟩
    rw [← HMM.out]
    have hmm0 : ¬ ((mm : Int) < 0) := by omega
    have ar9 := ar8c.mid m9 (by omega)
    have sv9 := sv8c.mid m9 (by omega) (by omega)
    have gv9 := gv8c.mid m9 (by omega) (by omega)
    obtain ⟨x0, x1⟩ := sv9.cells
    obtain ⟨g0, g1⟩ := gv9.cells
    clear ar8c sv8c gv8c yv8c HMY m9 k9
    go_wp2_with fail
    refine (HEK _ _ w9 gv9.r.at sv9.r.at).mono ?_
    rintro e w10 ⟨rfl, b10⟩
    have ar10 := ar9.below b10
    have sv10 := sv9.below b10
    have gv10 := gv9.below b10
    obtain ⟨g0, g1⟩ := gv10.cells
    have HMG := markDev_any _ _ K 1 w4b.heap.size w5.heap.size w10 gv10.r gv10.ta gv10.tb (by omega) (by omega) (by decide) (by decide)
    have HHG := fun w' h => heldDev_marks (.slice ja j1 jc) (.slice jb j2 jd) K.blocks.length K.pend.length 1 w' (by omega) (by omega) (by decide) (by decide) h
    generalize marksT 1 K.blocks.length = mT at *
    generalize marksW (1 + K.blocks.length) K.pend.length = mW at *
    obtain ⟨nm, HNM⟩ : ∃ nm : Nat, Hid (nm = 1 + K.blocks.length + 2 * K.pend.length) := ⟨_, rfl⟩
    rw [← HNM.out] at HMG
    have HHG : ∀ w', TxtsAt w' (.slice ja j1 jc) mT → WrsAt w' (.slice jb j2 jd) mW → Calls Try.prog 22 #[.agg #[.slice ja j1 jc, .slice jb j2 jd], .int .i64 1] w' fun e w'' => e = .returned (.int .i64 nm) ∧ Below w'.heap.size w' w'' := fun w' h1 h2 => by rw [HNM.out]; exact HHG w' h1 h2
    have hnn : ¬ ((nm : Int) < 0) := by omega
    clear ar9 sv9 gv9 b10
    go_wp2_with fail
    refine HMG.mono ?_
    rintro e w11 ⟨rfl, r11, m11⟩
    have ar11 := ar10.mid m11 (by omega)
    have sv11 := sv10.mid m11 (by omega) (by omega)
    have gv11 := gv10.marked m11 r11
    obtain ⟨g0, g1⟩ := gv11.cells
    clear ar10 sv10 gv10 HMG m11 r11
    go_wp2_with fail
    refine (HHG w11 gv11.r.t.at gv11.r.p.at).mono ?_
    rintro e w12 ⟨rfl, b12⟩
    have ar12 := ar11.below b12
    have sv12 := sv11.below b12
    have gv12 := gv11.below b12
    obtain ⟨c0, c1⟩ := ar12.cells
    clear ar11 sv11 gv11 b12 g0 g1 x0 x1
    go_wp2_with fail
    refine (HTO w12 ar12).mono ?_
    rintro e w13 ⟨u13, v13, rfl, r13, b13⟩
    have ar13 := ar12.below b13
    have sv13 := sv12.below b13
    have gv13 := gv12.below b13
    clear ar12 sv12 gv12 b13
    go_wp2_with fail
    refine (HTW w13 ar13).mono ?_
    rintro e w13b ⟨u13b, rfl, r13b, b13b⟩
    have r13c := r13.below b13b
    go_wp2_with fail
    refine (hHI.out _ _ w13b r13c.at r13b.at).mono ?_
    rintro e w14 ⟨u14, v14, rfl, r14, b14⟩
    obtain ⟨ka, k1, kc, kb, k2, kd, rfl, rfl⟩ := dev_forms r14
    have BL14 := below_lit w14 (.cells #[.slice ka k1 kc, .slice kb k2 kd] 27)
    have ar14 := ((ar13.below b13b).below b14).below BL14
    have sv14 := ((sv13.below b13b).below b14).below BL14
    have gv14 := ((gv13.below b13b).below b14).below BL14
    have hv14 := VarD.new r14
    have hs14 : (w14.alloc (.cells #[.slice ka k1 kc, .slice kb k2 kd] 27)).heap.size = w14.heap.size + 1 := by simp
    have HE14 := HEK _ _ _ hv14.r.at sv14.r.at
    rw [hs14] at HE14
    obtain ⟨x0, x1⟩ := sv14.cells
    obtain ⟨h0, h1⟩ := hv14.cells
    clear ar13 sv13 gv13 b13b b14 BL14 r13 r13b r13c r14 c0 c1
    go_wp2_with fail
    refine HE14.mono ?_
    rintro e w15 ⟨rfl, b15⟩
    rw [← hs14] at b15
    have ar15 := ar14.below b15
    have gv15 := gv14.below b15
    obtain ⟨g0, g1⟩ := gv15.cells
    clear ar14 sv14 gv14 hv14 HE14 b15 h0 h1 x0 x1
    go_wp2_with fail
    refine (HHG w15 gv15.r.t.at gv15.r.p.at).mono ?_
    rintro e w16 ⟨rfl, b16⟩
    have ar16 := ar15.below b16
    go_wp2
    go_ret
    exact ⟨rfl, ar16.bel⟩

end Go.Proofs.Ytpmdhoiodbjojaa
