/- Journals, impl: Mount. -/
import Derived.Test.YtpijjinoeghgoaaGreatDoorRows
import Derived.Test.YtpijjinoeghgoaaGreatDoorQh
import Derived.Test.YtpijjinoeghgoaaGreatDoorPd
namespace Go.Proofs.YtpijjinoeghgoaaGreatDoor
open Go.RowKit Go.Sort

/-- what Mount says -/
def SaysM (o : Option (Vo × Tx)) (w : World) (e : Ending) (w' : World) : Prop :=
  (∃ v t u M s B, o = some (v, t) ∧ e = .returned (.tuple #[.agg #[.int .i64 v.next, u], s, .int .i64 t.seq, .int .i64 0]) ∧ M.map (fun p : Ino × Value => p.1) = v.ins ∧ InoRow w' B u M ∧ WrRow w' w.heap.size s t.outs ∧ (w.heap.size ≤ B ∧ ∀ q, s.ownBlock = some q → q < B) ∧ Below w.heap.size w w') ∨
  (o = none ∧ ∃ s, e = .returned (.tuple #[.agg #[.int .i64 0, .slice none 0 0], s, .int .i64 0, .int .i64 1]) ∧ WrRow w' w.heap.size s [] ∧ Below w.heap.size w w')

theorem results_mnt {fn : Func} {p q r t : Tmp} (h : fn.results = #[.cell p 26, .tmp q, .tmp r, .tmp t]) (tmps : Array Value) (w : World) (g : Nat) (cs : Array Value) (a b c : Value) (hc : cs.size = 2)
    (hp : tmps.getD p undef = .pointer (some ⟨g, 0, none⟩)) (hq : tmps.getD q undef = a) (hr : tmps.getD r undef = b) (ht : tmps.getD t undef = c) (hg : w.heap[g]? = some (.cells cs 26 (0, 0))) :
    (results fn tmps).run Tryz.prog w = .ok (.tuple #[.agg cs, a, b, c]) w := by
  have hi : (Tryz.prog.info? 26).map (·.size) = some cs.size := by rw [hc]; kernel_rfl
  have hr0 := run_loadVar_row (P := Tryz.prog) w g 26 26 cs (0, 0) _ hg Tryz.underlying26 rfl hi
  have hp' : tmps[p]?.getD undef = .pointer (some ⟨g, 0, none⟩) := by simpa using hp
  have hq' : tmps[q]?.getD undef = a := by simpa using hq
  have hr' : tmps[r]?.getD undef = b := by simpa using hr
  have ht' : tmps[t]?.getD undef = c := by simpa using ht
  simp [results, h, hp', hq', hr', ht', asAddr, hr0]
/-- the world once the answer's volume is laid down -/
def finM (w : World) (p : Nat) (x0 x1 : Value) : World := (w.setCell ⟨p, 0, none⟩ x0).setCell ⟨p, 1, none⟩ x1
theorem finM_facts {w wr : World} {p : Nat} {a0 a1 : Value} (x0 x1 : Value) (hp : wr.heap[p]? = some (.cells #[a0, a1] 26 (0, 0))) (hb : Below p w wr) :
    Hid ((finM wr p x0 x1).heap[p]? = some (.cells #[x0, x1] 26 (0, 0))) ∧ Hid (Below p w (finM wr p x0 x1)) :=
  ⟨put2d x0 x1 hp, (hb.setCell (p := ⟨p, 0, none⟩) (Nat.le_refl _) x0).setCell (p := ⟨p, 1, none⟩) (Nat.le_refl _) x1⟩
theorem txt_some {w : World} {base : Nat} {v : Value} {l : List ByteArray} (h : TxtRow w base v l) (hl : 0 < l.length) : ∃ g cap, v = .slice (some ⟨g, 0, none⟩) l.length cap ∧ base ≤ g ∧ g < w.heap.size := by
  rcases h.2 with ⟨rfl, h0⟩ | ⟨g, cap, cur, rfl, hg, hh, -⟩
  · omega
  · exact ⟨g, cap, rfl, hg, lt_of_block hh⟩

set_option maxRecDepth 100000 in
set_option maxHeartbeats 2000000 in
theorem iMount (v : Value) (L : List ByteArray) (base : Nat) (T : TypeId) (x : Value) (w : World) (hT : Tabs w) (hC : CrcTab w) (hE : ErrV w T x) (hs : ∀ t, t < L.length → L[t]!.size ≤ 1048576) (hv0 : TxtRow w base v L) :
    Calls Tryz.prog 7 #[v] w fun e w' => SaysM (mountN L) w e w' := by
  have hv := hv0.at
  have B0 := below_lit w (.cells #[.int .i64 0, .slice none 0 0] 26)
  have hp0 := (MapKept.heap_alloc w (.cells #[.int .i64 0, .slice none 0 0] 26)).1
  obtain ⟨w0, HW0⟩ : ∃ w0, Hid (w0 = w.alloc (.cells #[.int .i64 0, .slice none 0 0] 26)) := ⟨_, rfl⟩
  have hf : w.alloc (.cells #[.int .i64 0, .slice none 0 0] 26) = w0 := HW0.out.symm
  rw [hf] at B0 hp0
  have z0 := lt_of_block hp0
  have HN : Hid (∀ w', mountN L = none → Below w.heap.size w w' → SaysM (mountN L) w (.returned (.tuple #[.agg #[.int .i64 0, .slice none 0 0], .slice none 0 0, .int .i64 0, .int .i64 1])) w') := fun w' h1 h2 => .inr ⟨h1, _, rfl, nil_wrs _ _, h2⟩
  have HAT : Hid (∀ w', Below w.heap.size w w' → TxtsAt w' v L) := fun w' b => hv.below b
  obtain ⟨va, vc, hve, -, -⟩ := id hv
  by_cases h18 : L.length = 18
  · have HMN : Hid (mountN L = (jourN L[17]!).bind fun t => (readN (homeN t.outs (L.take 17))).bind fun v => some (v, t)) := by show _ = _; unfold mountN; rw [if_pos h18]
    rw [h18] at hve
    have hvc : (17 : Int) ≤ (vc : Int) := by
      rcases hv0.2 with ⟨-, h0⟩ | ⟨g, cap, cur, e, -, -, hnc, -⟩
      · omega
      · rw [hve, h18] at e; cases e; omega
    have hs17 := hs 17 (by omega)
    have hl17 : (L.take 17).length = 17 := by rw [List.length_take]; omega
    have HJ := readJournal_any L[17]! T x w0 (hC.below B0) (hE.below B0) hs17
    have HOK : Hid (∀ t, jourN L[17]! = some t → t.outs.length ≤ 17 ∧ ∀ x ∈ t.outs, 0 ≤ x.block ∧ x.block ≤ 16 ∧ x.text.size ≤ 400) := fun t h => jour_ok h
    have HRB : Hid (∀ u K base w', K.length = 17 → TxtRow w' base u K → Below w.heap.size w w' → Calls Tryz.prog 21 #[u] w' fun e w'' => SaysB (readN K) w' e w'') := fun u K base w' hk h b => iReadBlocks u K base T x w' (hT.below b) (hC.below b) (hE.below b) (by omega) h
    obtain ⟨b17, o17, e17, hb17, c17⟩ : ∃ b off, va = some ⟨b, off, none⟩ ∧ b < w.heap.size ∧ w.cell? ⟨b, off + 17, none⟩ = some (.string L[17]!) := by
      obtain ⟨a', c', e', -, hc'⟩ := id hv
      rw [hve, h18] at e'
      cases e'
      exact hc' 17 (by omega)
    subst hve
    subst e17
    have c17' := (B0.cell (p := ⟨b17, o17 + 17, none⟩) hb17).trans c17
    generalize L[17]! = jt at *
    generalize mountN L = o at *
    clear hT hC hE hs c17 hv hv0
    have k17 : (17 : Int) < 18 := by decide
    go_enter Tryz.func7, Tryz.ntmps7
    go_wp2_with fail
    refine HJ.mono ?_
    rintro e w1 h1
    rcases h1 with ⟨t, u, ht, rfl, r1, b1⟩ | ⟨ht, rfl, b1⟩
    · obtain ⟨hol, hox⟩ := HOK.out t ht
      obtain ⟨ua, uc, hu, -, -⟩ := r1.at
      generalize hnn : t.outs.length = n at hu
      subst hu
      have B1 := B0.trans (b1.mono B0.size)
      have hp1 := (b1.block _ z0).trans hp0
      have BX := below_lit w1 (.cells #[.int .i64 t.seq, .slice ua n uc] 38)
      have hbx := (MapKept.heap_alloc w1 (.cells #[.int .i64 t.seq, .slice ua n uc] 38)).1
      obtain ⟨w2, HW2⟩ : ∃ w2, Hid (w2 = w1.alloc (.cells #[.int .i64 t.seq, .slice ua n uc] 38)) := ⟨_, rfl⟩
      have hf2 : w1.alloc (.cells #[.int .i64 t.seq, .slice ua n uc] 38) = w2 := HW2.out.symm
      rw [hf2] at BX hbx
      have B2 := B1.trans (BX.mono B1.size)
      have hp2 := (BX.block _ (lt_of_block hp1)).trans hp1
      have r2 := r1.below BX
      have HCL := cloneT_any (.slice (some ⟨b17, o17, none⟩) 17 vc) (L.take 17) w2 (by have := (HAT.out w2 B2).take 17 (by omega); exact this) (by omega)
      have hz2 := lt_of_block hbx
      have z1 := b1.size
      have hsb : ∀ q, (Value.slice ua n uc).ownBlock = some q → w0.heap.size ≤ q ∧ q < w1.heap.size := fun q hq => World.ownsRow.lt r1 q hq
      clear r1 b1 hp1 BX HJ HOK B1
      go_wp2_with fail
      refine HCL.mono ?_
      rintro e w3 ⟨hv3, rfl, r3, b3⟩
      obtain ⟨g, cap, hf3, hg2, hg3⟩ := txt_some r3 (by omega)
      rw [hl17] at hf3
      subst hf3
      have B3 := B2.trans (b3.mono B2.size)
      have hp3 := (b3.block _ (lt_of_block hp2)).trans hp2
      have hbx3 := (b3.block _ hz2).trans hbx
      have s3 := r2.below b3
      have HPA := putHome_any g cap w2.heap.size (L.take 17) (.slice ua n uc) t.outs w3 hl17 hol (fun x hx => ⟨(hox x hx).1, (hox x hx).2.1⟩) r3 w0.heap.size s3
      obtain ⟨y0, y1⟩ := blk2 hbx3
      have z3 := b3.size
      clear HCL r3 b3 hp2 hbx r2
      go_wp2_with fail
      refine HPA.mono ?_
      rintro e w4 ⟨rfl, r4, g4⟩
      have hgw : w.heap.size < g := by omega
      have B4 : Below w.heap.size w w4 := B3.grown g4 B3.size (fun q hq => by cases hq; omega)
      have hp4 := (g4.block _ (lt_of_block hp3) (fun e => by cases e; omega)).trans hp3
      have hbx4 := (g4.block _ (lt_of_block hbx3) (fun e => by cases e; omega)).trans hbx3
      have s4 : WrRow w4 w0.heap.size (.slice ua n uc) t.outs := own_gb s3 g4 (fun q hq e => by cases e; have := hsb _ hq; omega)
      have HR4 := HRB.out (.slice (some ⟨g, 0, none⟩) 17 cap) (homeN t.outs (L.take 17)) w2.heap.size w4 (by rw [homeN_len]; exact hl17) r4 B4
      have z4 := g4.size
      have HMN2 : Hid (o = (readN (homeN t.outs (L.take 17))).bind fun v => some (v, t)) := by show _ = _; rw [HMN.out, ht]; rfl
      generalize readN (homeN t.outs (L.take 17)) = rn at HR4 HMN2
      clear HPA r4 g4 s3 hp3 hbx3 y0 y1 HRB HMN HAT B3 ht
      go_wp2_with fail
      refine HR4.mono ?_
      rintro e w5 h5
      rcases h5 with ⟨vo, u5, M, hrn, rfl, hM, i5, b5⟩ | ⟨hrn, rfl, b5⟩
      · obtain ⟨ia, ic, hu5, -, -⟩ := i5.at
        generalize hmm : (M.map (fun p : Ino × Value => p.1)).length = m at hu5
        subst hu5
        have B5 := B4.trans (b5.mono B4.size)
        have BV := below_lit w5 (.cells #[.int .i64 vo.next, .slice ia m ic] 26)
        have hbv := (MapKept.heap_alloc w5 (.cells #[.int .i64 vo.next, .slice ia m ic] 26)).1
        obtain ⟨w6, HW6⟩ : ∃ w6, Hid (w6 = w5.alloc (.cells #[.int .i64 vo.next, .slice ia m ic] 26)) := ⟨_, rfl⟩
        have hf6 : w5.alloc (.cells #[.int .i64 vo.next, .slice ia m ic] 26) = w6 := HW6.out.symm
        rw [hf6] at BV hbv
        have b6 := b5.trans (BV.mono b5.size)
        have B6 := B4.trans (b6.mono B4.size)
        have hp6 := (b6.block _ (lt_of_block hp4)).trans hp4
        have hbx6 := (b6.block _ (lt_of_block hbx4)).trans hbx4
        have s6 := s4.below b6
        have i6 := i5.below BV
        obtain ⟨K1, K2⟩ := finM_facts (.int .i64 vo.next) (.slice ia m ic) hp6 B6
        have ho : o = some (vo, t) := by rw [HMN2.out, hrn]; rfl
        have dr : Below (finM w6 w.heap.size (.int .i64 vo.next) (.slice ia m ic)).heap.size (finM w6 w.heap.size (.int .i64 vo.next) (.slice ia m ic)) (finM w6 w.heap.size (.int .i64 vo.next) (.slice ia m ic)).drew := (Below.refl _ _).drew
        have i7 : InoRow (finM w6 w.heap.size (.int .i64 vo.next) (.slice ia m ic)) w4.heap.size (.slice ia m ic) M := (i6.setLow (by omega) _ _).setLow (by omega) _ _
        have s7 : WrRow (finM w6 w.heap.size (.int .i64 vo.next) (.slice ia m ic)) w0.heap.size (.slice ua n uc) t.outs := own_low (own_low s6 (g := w.heap.size) z0 _ _) (g := w.heap.size) z0 _ _
        have K3 : Hid (SaysM o w (.returned (.tuple #[.agg #[.int .i64 vo.next, .slice ia m ic], .slice ua n uc, .int .i64 t.seq, .int .i64 0])) (finM w6 w.heap.size (.int .i64 vo.next) (.slice ia m ic)).drew) :=
          .inl ⟨vo, t, .slice ia m ic, M, .slice ua n uc, w4.heap.size, ho, rfl, hM, i7.below dr, WrRow.mono (s7.below dr) (by omega), ⟨by omega, fun q hq => by have := (hsb q hq).2; omega⟩, K2.out.drew⟩
        have K1 : Hid ((finM w6 w.heap.size (.int .i64 vo.next) (.slice ia m ic)).drew.heap[w.heap.size]? = some (.cells #[.int .i64 vo.next, .slice ia m ic] 26 (0, 0))) := K1.out
        obtain ⟨x0, x1⟩ := blk2 hp6
        have xf := fun i => unfrozen_blk hp6 i
        obtain ⟨y0, y1⟩ := blk2 hbx6
        obtain ⟨v0, v1⟩ := blk2 hbv
        have hz6 := lt_of_block hbv
        have z5 := b5.size
        have n1 : ¬ w.heap.size = w1.heap.size := by omega
        have n1' : ¬ w1.heap.size = w.heap.size := by omega
        have n5 : ¬ w.heap.size = w5.heap.size := by omega
        have n5' : ¬ w5.heap.size = w.heap.size := by omega
        clear HR4 i5 i6 i7 s4 s6 s7 dr b5 b6 BV HMN2 HN hrn hM ho hox hsb
        generalize vo.next = nx at *
        generalize t.seq = sq at *
        go_wp2
        go_region
        all_goals go_wp2
        all_goals change bodyPost _ _ _ _ _ (finM w6 w.heap.size (.int .i64 nx) (.slice ia m ic)).drew
        all_goals exact bodyPost_ret (results_mnt Tryz.results7 _ _ w.heap.size _ (.slice ua n uc) (.int .i64 sq) (.int .i64 0) rfl rfl rfl rfl rfl K1.out) rfl K3.out
      · have B5 := B4.trans (b5.mono B4.size)
        have BV := below_lit w5 (.cells #[.int .i64 0, .slice none 0 0] 26)
        obtain ⟨w6, HW6⟩ : ∃ w6, Hid (w6 = w5.alloc (.cells #[.int .i64 0, .slice none 0 0] 26)) := ⟨_, rfl⟩
        have hf6 : w5.alloc (.cells #[.int .i64 0, .slice none 0 0] 26) = w6 := HW6.out.symm
        rw [hf6] at BV
        have b6 := b5.trans (BV.mono b5.size)
        have B6 := B4.trans (b6.mono B4.size)
        have hp6 := (b6.block _ (lt_of_block hp4)).trans hp4
        have hbv := (MapKept.heap_alloc w5 (.cells #[.int .i64 0, .slice none 0 0] 26)).1
        rw [hf6] at hbv
        have hzv : w.heap.size < w5.heap.size := by have := b5.size; have := lt_of_block hp4; omega
        have hpz := (Below.heap_setCell (w6.setCell ⟨w5.heap.size, 0, none⟩ (.int .i64 0)) ⟨w5.heap.size, 1, none⟩ (.slice none 0 0) w.heap.size (by show w.heap.size ≠ w5.heap.size; omega)).trans ((Below.heap_setCell w6 ⟨w5.heap.size, 0, none⟩ (.int .i64 0) w.heap.size (by show w.heap.size ≠ w5.heap.size; omega)).trans hp6)
        have Bz := (B6.setCell (p := ⟨w5.heap.size, 0, none⟩) (by show w.heap.size ≤ w5.heap.size; omega) (.int .i64 0)).setCell (p := ⟨w5.heap.size, 1, none⟩) (by show w.heap.size ≤ w5.heap.size; omega) (.slice none 0 0)
        obtain ⟨v0, v1⟩ := blk2 hbv
        have vf := fun i => unfrozen_blk hbv i
        have n5 : ¬ w.heap.size = w5.heap.size := by omega
        have n5' : ¬ w5.heap.size = w.heap.size := by omega
        obtain ⟨K1, K2⟩ := finM_facts (.int .i64 0) (.slice none 0 0) hpz Bz
        have K3 : Hid (SaysM o w (.returned (.tuple #[.agg #[.int .i64 0, .slice none 0 0], .slice none 0 0, .int .i64 0, .int .i64 1])) (finM ((w6.setCell ⟨w5.heap.size, 0, none⟩ (.int .i64 0)).setCell ⟨w5.heap.size, 1, none⟩ (.slice none 0 0)) w.heap.size (.int .i64 0) (.slice none 0 0))) := HN.out _ (by rw [HMN2.out, hrn]; rfl) K2.out
        obtain ⟨x0, x1⟩ := blk2 hp6
        have xf := fun i => unfrozen_blk hp6 i
        clear HR4 s4 b5 b6 BV HMN2 HN hrn hox hsb
        go_wp2
        change bodyPost _ _ _ _ _ (finM ((w6.setCell ⟨w5.heap.size, 0, none⟩ (.int .i64 0)).setCell ⟨w5.heap.size, 1, none⟩ (.slice none 0 0)) w.heap.size (.int .i64 0) (.slice none 0 0))
        exact bodyPost_ret (results_mnt Tryz.results7 _ _ w.heap.size _ (.slice none 0 0) (.int .i64 0) (.int .i64 1) rfl rfl rfl rfl rfl K1.out) rfl K3.out
    · have hnone : o = none := by rw [HMN.out, ht]; rfl
      have B1 := B0.trans (b1.mono B0.size)
      have hp1 := (b1.block _ z0).trans hp0
      have BX := below_lit w1 (.cells #[.int .i64 0, .slice none 0 0] 38)
      obtain ⟨w2, HW2⟩ : ∃ w2, Hid (w2 = w1.alloc (.cells #[.int .i64 0, .slice none 0 0] 38)) := ⟨_, rfl⟩
      have hf2 : w1.alloc (.cells #[.int .i64 0, .slice none 0 0] 38) = w2 := HW2.out.symm
      rw [hf2] at BX
      have B2 := B1.trans (BX.mono B1.size)
      have hp2 := (BX.block _ (lt_of_block hp1)).trans hp1
      have hbv := (MapKept.heap_alloc w1 (.cells #[.int .i64 0, .slice none 0 0] 38)).1
      rw [hf2] at hbv
      have hzv : w.heap.size < w1.heap.size := by have := b1.size; omega
      have hpz := (Below.heap_setCell (w2.setCell ⟨w1.heap.size, 0, none⟩ (.int .i64 0)) ⟨w1.heap.size, 1, none⟩ (.slice none 0 0) w.heap.size (by show w.heap.size ≠ w1.heap.size; omega)).trans ((Below.heap_setCell w2 ⟨w1.heap.size, 0, none⟩ (.int .i64 0) w.heap.size (by show w.heap.size ≠ w1.heap.size; omega)).trans hp2)
      have Bz := (B2.setCell (p := ⟨w1.heap.size, 0, none⟩) (by show w.heap.size ≤ w1.heap.size; omega) (.int .i64 0)).setCell (p := ⟨w1.heap.size, 1, none⟩) (by show w.heap.size ≤ w1.heap.size; omega) (.slice none 0 0)
      obtain ⟨v0, v1⟩ := blk2 hbv
      have vf := fun i => unfrozen_blk hbv i
      have n5 : ¬ w.heap.size = w1.heap.size := by omega
      have n5' : ¬ w1.heap.size = w.heap.size := by omega
      obtain ⟨K1, K2⟩ := finM_facts (.int .i64 0) (.slice none 0 0) hpz Bz
      have K3 : Hid (SaysM o w (.returned (.tuple #[.agg #[.int .i64 0, .slice none 0 0], .slice none 0 0, .int .i64 0, .int .i64 1])) (finM ((w2.setCell ⟨w1.heap.size, 0, none⟩ (.int .i64 0)).setCell ⟨w1.heap.size, 1, none⟩ (.slice none 0 0)) w.heap.size (.int .i64 0) (.slice none 0 0))) := HN.out _ hnone K2.out
      obtain ⟨x0, x1⟩ := blk2 hp2
      have xf := fun i => unfrozen_blk hp2 i
      clear HJ HN HMN HAT hnone HRB HOK
      go_wp2
      change bodyPost _ _ _ _ _ (finM ((w2.setCell ⟨w1.heap.size, 0, none⟩ (.int .i64 0)).setCell ⟨w1.heap.size, 1, none⟩ (.slice none 0 0)) w.heap.size (.int .i64 0) (.slice none 0 0))
      exact bodyPost_ret (results_mnt Tryz.results7 _ _ w.heap.size _ (.slice none 0 0) (.int .i64 0) (.int .i64 1) rfl rfl rfl rfl rfl K1.out) rfl K3.out
  · have hnone : mountN L = none := by unfold mountN; rw [if_neg h18]
    have h18' : ((L.length : Int) != 18) = true := by simp; omega
    obtain ⟨K1, K2⟩ := finM_facts (.int .i64 0) (.slice none 0 0) hp0 B0
    have K3 : Hid (SaysM (mountN L) w (.returned (.tuple #[.agg #[.int .i64 0, .slice none 0 0], .slice none 0 0, .int .i64 0, .int .i64 1])) (finM w0 w.heap.size (.int .i64 0) (.slice none 0 0))) := HN.out _ hnone K2.out
    obtain ⟨x0, x1⟩ := blk2 hp0
    have xf := fun i => unfrozen_blk hp0 i
    subst hve
    clear HN HAT hnone hT hC hE hs hv hv0
    generalize L.length = n at *
    generalize mountN L = o at *
    go_enter Tryz.func7, Tryz.ntmps7
    go_wp2
    change bodyPost _ _ _ _ _ (finM w0 w.heap.size (.int .i64 0) (.slice none 0 0))
    exact bodyPost_ret (results_mnt Tryz.results7 _ _ w.heap.size _ (.slice none 0 0) (.int .i64 0) (.int .i64 1) rfl rfl rfl rfl rfl K1.out) rfl K3.out

end Go.Proofs.YtpijjinoeghgoaaGreatDoor
