/- Draws of devices: spec.l8Dev. -/
import Derived.Test.YtpmdhoiodbjojaaRows
import Derived.Test.YtpmdhoiodbjojaaDw2
namespace Go.Proofs.Ytpmdhoiodbjojaa
open Go.RowKit

theorem TxtsAt.stw {w : World} {v : Value} {l : List ByteArray} (h : TxtsAt w v l) (q o : Nat) (u : Value) (hne : ∀ b off n c, v = .slice (some ⟨b, off, none⟩) n c → b ≠ q) : TxtsAt (w.setCell ⟨q, o, none⟩ u) v l := by
  obtain ⟨a, c, rfl, hn, hc⟩ := h
  refine ⟨a, c, rfl, hn, fun t ht => ?_⟩
  obtain ⟨b, off, h1, h2, h3⟩ := hc t ht
  refine ⟨b, off, h1, by simpa using h2, ?_⟩
  rw [← h3]
  exact World.cell?_of_block (Below.heap_setCell w ⟨q, o, none⟩ u b (hne b off _ _ (by rw [h1])))
theorem WrsAt.stw {w : World} {v : Value} {l : List Wr} (h : WrsAt w v l) (q o : Nat) (u : Value) (hne : ∀ b off n c, v = .slice (some ⟨b, off, none⟩) n c → b ≠ q) : WrsAt (w.setCell ⟨q, o, none⟩ u) v l := by
  obtain ⟨a, c, rfl, hn, hc⟩ := h
  refine ⟨a, c, rfl, hn, fun t ht => ?_⟩
  obtain ⟨b, off, h1, h2, h3⟩ := hc t ht
  have hh := Below.heap_setCell w ⟨q, o, none⟩ u b (hne b off _ _ (by rw [h1]))
  refine ⟨b, off, h1, by simpa using h2, ⟨?_, ?_⟩⟩
  · rw [← h3.c0]; exact World.cell?_of_block hh
  · rw [← h3.c1]; exact World.cell?_of_block hh
/-- a device is drawn -/
def SaysDv (S : Src) (p : Nat) (w : World) (e : Ending) (w' : World) : Prop := ∃ (a b : Value) (d : Dv) (s' : Nat × Int), e = .returned (.agg #[a, b]) ∧ DevAt w' (.agg #[a, b]) d ∧ (d.blocks.length ≤ 1000 ∧ d.pend.length ≤ 1000) ∧ At S p s' w' ∧ w.grownBy w' (some p) ∧ ∀ bb off n c, (a = .slice (some ⟨bb, off, none⟩) n c ∨ b = .slice (some ⟨bb, off, none⟩) n c) → w.heap.size < bb
/-- the answer is laid down -/
theorem BxSt.fin {S : Src} {p : Nat} {w : World} {o : Nat} {x y : Value} {s : Nat × Int} {wr : World} (h : BxSt S p w o x y s wr) {d : Dv} (hx : TxtsAt wr x d.blocks) (hy : WrsAt wr y d.pend) (hl : d.blocks.length ≤ 1000 ∧ d.pend.length ≤ 1000)
    (hnx : ∀ b off n c, x = .slice (some ⟨b, off, none⟩) n c → w.heap.size < b) (hny : ∀ b off n c, y = .slice (some ⟨b, off, none⟩) n c → w.heap.size < b) :
    ((wr.setCell ⟨w.heap.size, 0, none⟩ x).setCell ⟨w.heap.size, 1, none⟩ y).heap[w.heap.size]? = some (.cells #[x, y] 27 (0, 0)) ∧ SaysDv S p w (.returned (.agg #[x, y])) ((wr.setCell ⟨w.heap.size, 0, none⟩ x).setCell ⟨w.heap.size, 1, none⟩ y) := by
  have hp := h.hp
  have hnx' : ∀ b off n c, x = .slice (some ⟨b, off, none⟩) n c → b ≠ w.heap.size := fun b off n c e => by have := hnx b off n c e; omega
  have hny' : ∀ b off n c, y = .slice (some ⟨b, off, none⟩) n c → b ≠ w.heap.size := fun b off n c e => by have := hny b off n c e; omega
  have gA := gb_set wr w.heap.size 0 x
  have gB := gb_set (wr.setCell ⟨w.heap.size, 0, none⟩ x) w.heap.size 1 y
  have g0 := h.gb
  refine ⟨put2d _ _ h.hR, x, y, d, s, rfl, ⟨x, y, rfl, (hx.stw _ _ _ hnx').stw _ _ _ hnx', (hy.stw _ _ _ hny').stw _ _ _ hny'⟩, hl, h.c.below (((Below.refl _ _).setCell (by show p + 1 ≤ w.heap.size; omega) _).setCell (by show p + 1 ≤ w.heap.size; omega) _), ?_, fun bb off n c h => h.elim (hnx bb off n c) (hny bb off n c)⟩
  exact ⟨(gB.os.trans gA.os).trans g0.os, (gB.tape.trans gA.tape).trans g0.tape, (gB.output.trans gA.output).trans g0.output, Nat.le_trans g0.size (Nat.le_trans gA.size gB.size), fun k hk hne => (gB.block k (by have := g0.size; have := gA.size; omega) (fun e => by have := Option.some.inj e; omega)).trans ((gA.block k (by have := g0.size; omega) (fun e => by have := Option.some.inj e; omega)).trans (g0.block k hk hne))⟩
theorem dev_forms' {W : World} {B : Nat} {a b : Value} {d : Dv} (h : DevRow W B a b d) : ∃ ga ma gc gb mb gd, a = .slice ga ma gc ∧ b = .slice gb mb gd := by
  obtain ⟨ga, gc, h1, -, -⟩ := h.t.at
  obtain ⟨gb, gd, h2, -, -⟩ := h.p.at
  exact ⟨ga, _, gc, gb, _, gd, h1, h2⟩
theorem row_blk {w : World} {base size n : Nat} {e : TypeId} {v : Value} {xs : List Value} (h : w.ownsRow base e size v n xs) : ∀ b off m c, v = .slice (some ⟨b, off, none⟩) m c → base ≤ b := fun b off m c hv => by
  rcases h.2 with ⟨h, -⟩ | ⟨g, cp, cur, h, hg, -⟩
  · rw [hv] at h; cases h
  · rw [hv] at h; cases h; exact hg

theorem txt_form2 {w : World} {base : Nat} {a : Value} {l : List ByteArray} (h : TxtRow w base a l) (hl : 0 < l.length) : ∃ g cap, a = .slice (some ⟨g, 0, none⟩) l.length cap ∧ base ≤ g ∧ l.length ≤ cap := by
  rcases h.2 with ⟨-, h0⟩ | ⟨g, cap, cur, rfl, hg, hh, hnc, r⟩
  · omega
  · exact ⟨g, cap, rfl, hg, hnc⟩
theorem txts_take {w : World} {g cap : Nat} {l : List ByteArray} {n : Nat} (h : TxtsAt w (.slice (some ⟨g, 0, none⟩) l.length cap) l) (hn : n ≤ l.length) : TxtsAt w (.slice (some ⟨g, 0, none⟩) n cap) (l.take n) := by
  obtain ⟨a, c, e, -, hc⟩ := h
  cases e
  have hl : (l.take n).length = n := by rw [List.length_take]; omega
  refine ⟨_, _, by rw [hl], fun h => (by cases h), fun t ht => ?_⟩
  rw [hl] at ht
  obtain ⟨b, off, h1, h2, h3⟩ := hc t (by omega)
  refine ⟨b, off, h1, h2, ?_⟩
  rw [h3, getElem!_pos l t (by omega), getElem!_pos (l.take n) t (by rw [hl]; exact ht), List.getElem_take]
/-- how many there are in the box's second slice -/
def pendN (o : Nat) (w : World) : Nat := match w.cell? ⟨o, 1, none⟩ with
  | some v => sliceN v
  | none => 0

set_option maxRecDepth 100000 in
set_option maxHeartbeats 8000000 in
theorem l8Dev_any (S : Src) (ok : S.ok) (M : Int) (hM : M ≤ 1000) (p : Nat) (s : Nat × Int) (w : World) (c : At S p s w) :
    Calls Try.prog 35 #[.pointer (some ⟨p, 0, none⟩), .int .i64 M] w fun e w' => SaysDv S p w e w' := by
  have hp := c.size
  have hR0 := heap_a1 w (.cells #[.slice none 0 0, .slice none 0 0] 27)
  have BL0 := below_lit w (.cells #[.slice none 0 0, .slice none 0 0] 27)
  have c0 := c.below (BL0.mono (by omega))
  have hs0 : (w.alloc (.cells #[.slice none 0 0, .slice none 0 0] 27)).heap.size = w.heap.size + 1 := by simp
  have HN := sNewDev (w.alloc (.cells #[.slice none 0 0, .slice none 0 0] 27))
  rw [hs0] at HN
  go_enter Try.func35, Try.ntmps35
  go_wp2_with fail
  refine HN.mono ?_
  rintro e w1 ⟨a1, b1, rfl, r1, bb1⟩
  obtain ⟨sa, s1, sc, sb, s2, sd, rfl, rfl⟩ : ∃ ga ma gc gb mb gd, a1 = .slice ga ma gc ∧ b1 = .slice gb mb gd := by
    obtain ⟨ga, gc, h1, -, -⟩ := r1.t.at
    obtain ⟨gb, gd, h2, -, -⟩ := r1.p.at
    exact ⟨ga, _, gc, gb, _, gd, h1, h2⟩
  have hz1 : w.heap.size < w1.heap.size := by have := bb1.size; omega
  have BL1 := below_lit w1 (.cells #[.slice sa s1 sc, .slice sb s2 sd] 27)
  have st1 : BxSt S p w w1.heap.size (.slice sa s1 sc) (.slice sb s2 sd) s (w1.alloc (.cells #[.slice sa s1 sc, .slice sb s2 sd] 27)) :=
    ⟨(BL1.block _ (by omega)).trans ((bb1.block _ (by omega)).trans hR0), heap_a1 _ _, (c0.below (bb1.mono (by omega))).below (BL1.mono (by omega)), gb_trans (gb_trans ⟨BL0.os, BL0.tape, BL0.output, BL0.size, fun k hk _ => BL0.block k hk⟩ ⟨bb1.os, bb1.tape, bb1.output, bb1.size, fun k hk _ => bb1.block k (by omega)⟩) ⟨BL1.os, BL1.tape, BL1.output, BL1.size, fun k hk _ => BL1.block k hk⟩, hp, hz1⟩
  have dr1 := r1.below BL1
  have hbx : 0 ≤ bX S M s ∧ bX S M s ≤ 1000 := by
    by_cases h : 0 < M
    · have := bX_bd S M s h; omega
    · unfold bX; rw [if_pos (by omega)]; omega
  clear r1 BL1 BL0 HN bb1 c0 hR0
  go_wp2_with fail
  refine (below_any S ok M p s _ st1.c).mono ?_
  rintro e w2 ⟨rfl, c2, g2⟩
  have st2 := st1.cur c2 g2
  have dr2 := dev_cur dr1 g2 (by omega)
  obtain ⟨k0, hk0⟩ := Int.eq_ofNat_of_zero_le hbx.1
  have hk1000 : k0 ≤ 1000 := by omega
  rw [hk0]
  generalize bS S M s = s2' at st2
  have hd2 : devB newDv = true := by decide
  obtain ⟨o, Ho⟩ : ∃ o, Hid (o = w1.heap.size) := ⟨_, rfl⟩
  rw [← Ho.out] at st2 hz1 ⊢
  generalize newDv = d2 at dr2 hd2
  clear st1 dr1 c2 g2 hbx hk0 Ho
  go_wp2
  go_loopw [6] (fun i wr => ∃ (k : Nat) (a b : Value) (d : Dv) (sc : Nat × Int), i = .int .i64 k ∧ k ≤ 1000 ∧ BxSt S p w o a b sc wr ∧ DevRow wr (w.heap.size + 1) a b d ∧ Hid (devB d = true)) (fun i _ => (intOf i).toNat)
  case atStart => exact ⟨k0, _, _, d2, s2', rfl, hk1000, st2, dr2, hd2⟩
  case round =>
    obtain ⟨k, a, b, d, sc, rfl, hk, st, dr, HD⟩ := hrel
    obtain ⟨ga, m1, gc, gb, m2, gd, rfl, rfl⟩ := dev_forms' dr
    by_cases hz : 0 < k
    · have hz' : (0 : Int) < (k : Int) := by omega
      have hwk : IntKind.i64.wrap ((k : Int) - 1) = ((k - 1 : Nat) : Int) := by rw [IntKind.wrap_i64]; omega
      go_wp2_with fail
      refine (once_any S ok 6 p sc _ st.c).mono ?_
      rintro e w3 ⟨rfl, c3, g3⟩
      have st3 := st.cur c3 g3
      have dr3 := dev_cur dr g3 (by omega)
      generalize (bX S 6 sc == 0) = o1
      generalize bS S 6 sc = s3 at st3
      clear st dr c3 g3
      cases o1 with
      | true =>
        have st3d := st3.below ((Below.refl _ _).drew)
        have dr3d := dr3.below ((Below.refl _ _).drew)
        obtain ⟨x0, x1, xf⟩ := st3d.cells
        have h18 : Hid (d.blocks.length = 18) := ((devB_iff d).1 HD.out).1.1
        clear st3 dr3
        go_wp2
        go_region_law
          (first
          | (go_simp; go_at_call 32; refine (below_any S ok 99 p s3 _ st3d.c).mono ?_; rintro e w4 ⟨rfl, c4, g4⟩; have st4 := st3d.cur c4 g4; have dr4 := dev_cur dr3d g4 (by omega); generalize bX S 99 s3 = mask; generalize bS S 99 s3 = s4 at st4; obtain ⟨z0, z1, zf⟩ := st4.cells; dsimp only)
          | (go_simp; go_at_call 33; refine (once_any S ok 2 p s4 _ st4.c).mono ?_; rintro e w5 ⟨rfl, c5, g5⟩; have st5 := st4.cur c5 g5; have dr5 := dev_cur dr4 g5 (by omega); generalize (bX S 2 s4 == 0) = all; generalize bS S 2 s4 = s5 at st5; obtain ⟨y0, y1, yf⟩ := st5.cells; dsimp only)
          | (go_simp; go_at_call 56; refine (l8Done_any _ _ d mask all (w.heap.size + 1) w5 dr5 HD.out).mono ?_; rintro e w6 ⟨b', rfl, r6, g6⟩; have st6 := st5.grown g6 (fun q hq => ⟨by have := (dr5.blk.1 q hq).1; omega, own_ne dr5.t st5.hO (by decide) q hq⟩); obtain ⟨gb', gd', hfb'⟩ := row_form r6.p; dsimp only at hfb'; generalize ([] : List Wr).length = m6 at hfb'; subst hfb'; obtain ⟨u0, u1, uf⟩ := st6.cells; dsimp only))
        all_goals (
          have st7 := (st6.set0 (.slice ga m1 gc)).set1 (.slice gb' m6 gd')
          have dr7 := dev_set (dev_set r6 st6.hO 0 (.slice ga m1 gc)) (st6.set0 (.slice ga m1 gc)).hO 1 (.slice gb' m6 gd')
          have HDX : Hid _ := done_right (keep := fun i => all || bitB mask i) HD.out
          have HALL : Hid _ := And.intro st7 dr7
          clear st7 dr7 st6 r6 g6 st5 dr5 st4 dr4 g4 g5 c4 c5
          go_wp2
          go_roundw
          all_goals first
            | exact ⟨k - 1, _, _, _, s5, by go_num, by omega, HALL.out.1, HALL.out.2, HDX⟩
            | (simp [intOf]; omega))
      | false =>
        have st3d := st3.below ((Below.refl _ _).drew)
        have dr3d := dr3.below ((Below.refl _ _).drew)
        obtain ⟨x0, x1, xf⟩ := st3d.cells
        have hd' := (devB_iff d).1 HD.out
        have hdl : d.blocks.length ≤ 9223372036854775807 := by have := hd'.1; omega
        have hdl2 : d.pend.length ≤ 9223372036854775807 := by have := hd'.1; omega
        clear st3 dr3 hd'
        go_wp2
        go_region_law
          (first
          | (go_simp; go_at_call 58; refine (l8Write_any S ok p s3 _ st3d.c).mono ?_; rintro e w4 ⟨x, s4, rfl, hx5, c4, g4⟩; have st4 := st3d.cur c4 g4; have dr4 := dev_cur dr3d g4 (by omega); obtain ⟨z0, z1, zf⟩ := st4.cells; have BL4 := below_lit w4 (.cells #[.int .i64 x.block, .string x.text] 35); have st5 := st4.below BL4; have dr5 := dr4.below BL4; have hw5 := one_wr w4 x; obtain ⟨y0, y1, yf⟩ := st5.cells; have hz4 : w.heap.size + 1 ≤ w4.heap.size := Nat.le_trans st4.ho (Nat.le_of_lt (lt_of_block st4.hO)); obtain ⟨xb, xt⟩ := x; (dsimp only at hw5 BL4 st5 dr5 y0 y1 yf ⊢))
          | (go_simp; go_at_call 24; refine (sPut _ _ d _ _ hdl hdl2 (by simp) dr5.at hw5).mono ?_; rintro e w6 ⟨a', b', rfl, r6, b6⟩; have st6 := st5.below b6; obtain ⟨ga', m1', gc', gb', m2', gd', rfl, rfl⟩ := dev_forms' r6; obtain ⟨u0, u1, uf⟩ := st6.cells; dsimp only))
        all_goals (
          have st7 := (st6.set0 (.slice ga' m1' gc')).set1 (.slice gb' m2' gd')
          have dr7 := dev_set (dev_set (r6.mono (Nat.le_trans hz4 (by simp))) st6.hO 0 (.slice ga' m1' gc')) (st6.set0 (.slice ga' m1' gc')).hO 1 (.slice gb' m2' gd')
          have HDX : Hid _ := put_right HD.out [⟨xb, xt⟩]
          have HALL : Hid _ := And.intro st7 dr7
          clear st7 dr7 st6 r6 b6 st5 dr5 st4 dr4 g4 c4 hw5 BL4 y0 y1 yf z0 z1 zf
          go_wp2
          go_roundw
          all_goals first
            | exact ⟨k - 1, _, _, _, s4, by go_num, by omega, HALL.out.1, HALL.out.2, HDX⟩
            | (simp [intOf]; omega))
    · obtain rfl : k = 0 := by omega
      obtain ⟨⟨h18, h40⟩, -, -⟩ := (devB_iff d).1 HD.out
      clear hk hz
      go_wp2_with fail
      refine (once_any S ok 12 p sc _ st.c).mono ?_
      rintro e w3 ⟨rfl, c3, g3⟩
      have st3 := st.cur c3 g3
      have dr3 := dev_cur dr g3 (by omega)
      generalize (bX S 12 sc == 0) = o1
      generalize bS S 12 sc = s3 at st3
      clear st dr c3 g3
      cases o1 with
      | false =>
        obtain ⟨x0, x1, xf⟩ := st3.cells
        have r0 := cell_blk st3.hR 0
        have r1 := cell_blk st3.hR 1
        have rf := fun i => unfrozen_blk st3.hR i
        dsimp at r0 r1
        have HF : Hid _ := st3.fin dr3.t.at dr3.p.at ⟨by omega, by omega⟩ (fun b off n c h => by have := row_blk dr3.t b off n c h; omega) (fun b off n c h => by have := row_blk dr3.p b off n c h; omega)
        clear st3 dr3
        go_wp2
        exact bodyPost_ret (results_dev Try.results35 _ _ w.heap.size _ rfl rfl HF.out.1) rfl HF.out.2
      | true =>
        have hbx := bX_bd S 3 s3 (by decide)
        go_wp2_with fail
        refine (below_any S ok 3 p s3 _ st3.c).mono ?_
        rintro e w4 ⟨rfl, c4, g4⟩
        have st4 := st3.cur c4 g4
        have dr4 := dev_cur dr3 g4 (by omega)
        generalize bX S 3 s3 = x3 at hbx
        generalize bS S 3 s3 = s4 at st4
        clear st3 dr3 c4 g4
        obtain ⟨x0, x1, xf⟩ := st4.cells
        rcases (show x3 = 0 ∨ x3 = 1 ∨ x3 = 2 by omega) with rfl | rfl | rfl
        · obtain ⟨g, cap, hfa, hbg, hcap⟩ := txt_form2 dr4.t (by omega)
          rw [h18] at hfa
          cases hfa
          have h9 : (9 : Int) ≤ (gc : Int) := by omega
          have hne : ¬ w.heap.size = o := by have := st4.ho; omega
          have hne' : ¬ o = w.heap.size := by omega
          have st5 := st4.set0 (.slice (some ⟨g, 0, none⟩) 9 gc)
          have dr5 := dev_set dr4 st4.hO 0 (.slice (some ⟨g, 0, none⟩) 9 gc)
          have r0 := cell_blk st4.hR 0
          have r1 := cell_blk st4.hR 1
          have rf := fun i => unfrozen_blk st4.hR i
          dsimp at r0 r1
          have HF : Hid _ := st5.fin (d := ⟨d.blocks.take 9, d.pend⟩) (txts_take (by rw [h18]; exact dr5.t.at) (by omega)) dr5.p.at ⟨by dsimp only; rw [List.length_take]; omega, by dsimp only; omega⟩ (fun b off n c h => by cases h; omega) (fun b off n c h => by have := row_blk dr5.p b off n c h; omega)
          clear st4 dr4 st5 dr5
          go_wp2
          exact bodyPost_ret (results_dev Try.results35 _ _ w.heap.size _ rfl rfl HF.out.1) rfl HF.out.2
        · have hne : ¬ w.heap.size = o := by have := st4.ho; omega
          have hne' : ¬ o = w.heap.size := by omega
          have BL := below_lit w4 (.cells #[.int .i64 (-1), .string ⟨#[]⟩] 35)
          have st5 := st4.below BL
          have dr5 := dr4.below BL
          have hw5 := one_wr w4 ⟨-1, ⟨#[]⟩⟩
          have hz5 : w.heap.size + 1 ≤ (w4.alloc (.cells #[.int .i64 (-1), .string ⟨#[]⟩] 35)).heap.size := Nat.le_trans (Nat.le_trans st4.ho (Nat.le_of_lt (lt_of_block st4.hO))) (by simp)
          have HLL : Hid (d.pend.length + [(⟨-1, ⟨#[]⟩⟩ : Wr)].length ≤ 1099511627776) := by show _ ≤ _; simp; omega
          have HSD : Hid _ := And.intro st5 dr5
          have HW5 : Hid _ := hw5
          have HRP : Hid _ := dr5.p
          obtain ⟨v0, v1, vf⟩ := st5.cells
          clear st4 dr4 st5 dr5 BL hw5
          go_wp2_with (at_builtin; refine append_wrsG _ rfl (.tmp 59) (.tmp 61) rfl (w.heap.size + 1) _ _ d.pend [⟨-1, ⟨#[]⟩⟩] HLL.out HRP.out HW5.out rfl rfl hz5 ?_; intro v6 w6 hr6 hg6; obtain ⟨b6, c6, hf6⟩ := row_form hr6; generalize (d.pend ++ [(⟨-1, ⟨#[]⟩⟩ : Wr)]).length = m6 at hf6; subst hf6; have st6 := HSD.out.1.grown hg6 (fun q hq => ⟨(by have := (HSD.out.2.blk.2 q hq).1; omega), own_ne HSD.out.2.p HSD.out.1.hO (by decide) q hq⟩); have tr6 := own_gb HSD.out.2.t hg6 fun q hq e => HSD.out.2.ap q hq e; obtain ⟨u0, u1, uf⟩ := st6.cells; have r0 := cell_blk st6.hR 0; have r1 := cell_blk st6.hR 1; have rf := fun i => unfrozen_blk st6.hR i; (dsimp at r0 r1))
          have st7 := st6.set1 (.slice b6 m6 c6)
          have dr7 := dev_set (devRow_of (d := ⟨d.blocks, d.pend ++ [⟨-1, ⟨#[]⟩⟩]⟩) tr6 hr6) st6.hO 1 (.slice b6 m6 c6)
          have HF := st7.fin dr7.t.at dr7.p.at ⟨by dsimp only; omega, by dsimp only; rw [List.length_append, List.length_singleton]; omega⟩ (fun b off n c h => by have := row_blk dr7.t b off n c h; omega) (fun b off n c h => by have := row_blk dr7.p b off n c h; omega)
          exact bodyPost_ret (results_dev Try.results35 _ _ w.heap.size _ rfl rfl HF.1) rfl HF.2
        · have hne : ¬ w.heap.size = o := by have := st4.ho; omega
          have hne' : ¬ o = w.heap.size := by omega
          have hby := bX_bd S 2 s4 (by decide)
          go_wp2_with fail
          refine (below_any S ok 2 p s4 _ st4.c).mono ?_
          rintro e w5 ⟨rfl, c5, g5⟩
          have st5 := st4.cur c5 g5
          have dr5 := dev_cur dr4 g5 (by omega)
          obtain ⟨y, hy⟩ := Int.eq_ofNat_of_zero_le hby.1
          have hy2 : y < 2 := by omega
          rw [hy]
          generalize bS S 2 s4 = s5 at st5
          have hw40 : IntKind.i64.wrap (40 + (y : Int)) = 40 + (y : Int) := by rw [IntKind.wrap_i64]; omega
          clear st4 dr4 c5 g5 hby hy x0 x1 xf
          go_wp2
          go_loopw [] (fun wr => ∃ (b : Value) (l : List Wr), l.length ≤ 41 ∧ BxSt S p w o (.slice ga m1 gc) b s5 wr ∧ DevRow wr (w.heap.size + 1) (.slice ga m1 gc) b ⟨d.blocks, l⟩) (fun wr => 50 - pendN o wr)
          case atStart => exact ⟨_, d.pend, by omega, st5, dr5⟩
          case round =>
            obtain ⟨b, l, hl41, st, dr⟩ := hrel
            obtain ⟨gb9, gd9, hf9⟩ := row_form dr.p
            dsimp only at hf9
            subst hf9
            obtain ⟨x0, x1, xf⟩ := st.cells
            have hpn : Hid (pendN o wr = l.length) := by show _ = _; unfold pendN; rw [x1]; rfl
            by_cases hlt : l.length < 40 + y
            · have hlt' : (l.length : Int) < 40 + (y : Int) := by omega
              have BL := below_lit wr (.cells #[.int .i64 0, .string ⟨#[]⟩] 35)
              have st6 := st.below BL
              have dr6 := dr.below BL
              have hw6 := one_wr wr ⟨0, ⟨#[]⟩⟩
              have hz6 : w.heap.size + 1 ≤ (wr.alloc (.cells #[.int .i64 0, .string ⟨#[]⟩] 35)).heap.size := Nat.le_trans (Nat.le_trans st.ho (Nat.le_of_lt (lt_of_block st.hO))) (by simp)
              have HLL : Hid (l.length + [(⟨0, ⟨#[]⟩⟩ : Wr)].length ≤ 1099511627776) := by show _ ≤ _; simp; omega
              have HL40 : Hid (l.length < 40 + y) := hlt
              have HSD : Hid _ := And.intro st6 dr6
              have HW6 : Hid _ := hw6
              have HRP : Hid _ := dr6.p
              obtain ⟨v0, v1, vf⟩ := st6.cells
              clear st dr st6 dr6 BL hw6 hlt
              go_wp2_with (at_builtin; refine append_wrsG _ rfl (.tmp 45) (.tmp 47) rfl (w.heap.size + 1) _ _ l [⟨0, ⟨#[]⟩⟩] HLL.out HRP.out HW6.out rfl rfl hz6 ?_; intro v7 w7 hr7 hg7; obtain ⟨b7, c7, hf7⟩ := row_form hr7; rw [List.length_append, List.length_singleton] at hf7; subst hf7; have st7 := HSD.out.1.grown hg7 (fun q hq => ⟨(by have := (HSD.out.2.blk.2 q hq).1; omega), own_ne HSD.out.2.p HSD.out.1.hO (by decide) q hq⟩); have tr7 := own_gb HSD.out.2.t hg7 fun q hq e => HSD.out.2.ap q hq e; obtain ⟨u0, u1, uf⟩ := st7.cells; have HS7 : Hid _ := st7; have HD7 : Hid _ := dev_set (devRow_of (d := ⟨d.blocks, l ++ [⟨0, ⟨#[]⟩⟩]⟩) tr7 hr7) st7.hO 1 (.slice b7 (l.length + 1) c7); clear st7 tr7 hr7 hg7)
              go_roundw
              case rel => exact ⟨_, l ++ [⟨0, ⟨#[]⟩⟩], by rw [List.length_append, List.length_singleton]; have := HL40.out; omega, HS7.out.set1 (.slice b7 (l.length + 1) c7), HD7.out⟩
              case measure =>
                have e8 : pendN o (w7.setCell ⟨o, 1, none⟩ (.slice b7 (l.length + 1) c7)) = l.length + 1 := by unfold pendN; rw [(HS7.out.set1 (.slice b7 (l.length + 1) c7)).cells.2.1]; rfl
                rw [e8, hpn.out]
                have := HL40.out
                omega
            · have hlt' : ¬ ((l.length : Int) < 40 + (y : Int)) := by omega
              have r0 := cell_blk st.hR 0
              have r1 := cell_blk st.hR 1
              have rf := fun i => unfrozen_blk st.hR i
              dsimp at r0 r1
              have HF : Hid _ := st.fin dr.t.at dr.p.at ⟨by dsimp only; omega, by dsimp only; omega⟩ (fun b off n c h => by have := row_blk dr.t b off n c h; omega) (fun b off n c h => by have := row_blk dr.p b off n c h; omega)
              clear st dr hlt
              go_wp2
              exact bodyPost_ret (results_dev Try.results35 _ _ w.heap.size _ rfl rfl HF.out.1) rfl HF.out.2

end Go.Proofs.Ytpmdhoiodbjojaa
