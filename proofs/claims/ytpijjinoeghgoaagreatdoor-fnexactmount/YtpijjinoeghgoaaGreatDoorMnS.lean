/- Journals, spec: Mount. -/
import Derived.Test.YtpijjinoeghgoaaGreatDoorRows
import Derived.Test.YtpijjinoeghgoaaGreatDoorMnJ
import Derived.Test.YtpijjinoeghgoaaGreatDoorQg
import Derived.Test.YtpijjinoeghgoaaGreatDoorPf
namespace Go.Proofs.YtpijjinoeghgoaaGreatDoor
open Go.RowKit Go.Sort

theorem wrm_form {w : World} {base : Nat} {b : Value} {l : List Wr} (h : WrRow w base b l) (t : Nat) (ht : t < l.length) : ∃ pb cb, b = .slice (some ⟨pb, 0, none⟩) l.length cb ∧ b.ownBlock = some pb ∧ CellsW w pb (t * 2) l[t]! := by
  rcases h.2 with ⟨rfl, h0⟩ | ⟨g, cap, cur, rfl, hg, hh, r⟩
  · omega
  · obtain ⟨a, c, e, -, hc⟩ := h.at
    obtain ⟨b1, o1, e1, -, h1⟩ := hc t ht
    subst e1
    cases e
    rw [Nat.zero_add] at h1
    exact ⟨g, cap, rfl, rfl, h1⟩
/-- what stands once the journal is read: the answer's block, the empty row p, the transaction's box q and its row -/
structure MxSt (w : World) (p q : Nat) (sq : Int) (u : Value) (l : List Wr) (wr : World) : Prop where
  res : wr.heap[w.heap.size]? = some (.cells #[.int .i64 0, .slice none 0 0] 26)
  non : WrRow wr w.heap.size (.slice (some ⟨p, 0, none⟩) 0 0) []
  box : wr.heap[q]? = some (.cells #[.int .i64 sq, u] 38)
  lt : w.heap.size < p ∧ p < q
  row : WrRow wr (q + 1) u l
  bel : Below w.heap.size w wr
theorem MxSt.below {w : World} {p q : Nat} {sq : Int} {u : Value} {l : List Wr} {wr w' : World} (h : MxSt w p q sq u l wr) (hb : Below wr.heap.size wr w') : MxSt w p q sq u l w' :=
  ⟨(hb.block _ (lt_of_block h.res)).trans h.res, h.non.below hb, (hb.block _ (lt_of_block h.box)).trans h.box, h.lt, h.row.below hb, h.bel.trans (hb.mono h.bel.size)⟩
theorem MxSt.gb {w : World} {p q : Nat} {sq : Int} {u : Value} {l : List Wr} {wr w' : World} {g : Nat} (h : MxSt w p q sq u l wr) (gb : wr.grownBy w' (some g)) (hq : q < g) (hu : ∀ b, u.ownBlock = some b → b < g) : MxSt w p q sq u l w' := by
  have hl := h.lt
  refine ⟨(gb.block _ (lt_of_block h.res) (fun e => by cases e; omega)).trans h.res, own_gb h.non gb (fun b hb e => by have h1 : b = p := (by cases hb; rfl); have h2 : g = b := Option.some.inj e; omega), (gb.block _ (lt_of_block h.box) (fun e => by cases e; omega)).trans h.box, h.lt, own_gb h.row gb (fun b hb e => by cases e; have := hu _ hb; omega), h.bel.grown gb h.bel.size (fun b hb => by cases hb; omega)⟩
/-- the refusal -/
theorem MxSt.refused {w : World} {p q : Nat} {sq : Int} {u : Value} {l : List Wr} {wr : World} (h : MxSt w p q sq u l wr) :
    Hid ((finM wr w.heap.size (.int .i64 0) (.slice none 0 0)).heap[w.heap.size]? = some (.cells #[.int .i64 0, .slice none 0 0] 26 (0, 0))) ∧ Hid (SaysM none w (.returned (.tuple #[.agg #[.int .i64 0, .slice none 0 0], .slice (some ⟨p, 0, none⟩) 0 0, .int .i64 0, .int .i64 1])) (finM wr w.heap.size (.int .i64 0) (.slice none 0 0))) := by
  obtain ⟨K1, K2⟩ := finM_facts (.int .i64 0) (.slice none 0 0) h.res h.bel
  have hl := h.lt
  exact ⟨K1, .inr ⟨rfl, _, rfl, own_same (own_same h.non fun b hb => Below.heap_setCell wr ⟨w.heap.size, 0, none⟩ _ b (by cases hb; show p ≠ w.heap.size; omega)) (fun b hb => Below.heap_setCell _ ⟨w.heap.size, 1, none⟩ _ b (by cases hb; show p ≠ w.heap.size; omega)), K2.out⟩⟩
/-- the box stored into -/
theorem MxSt.put {w : World} {p q : Nat} {sq sq' : Int} {u u' : Value} {l l' : List Wr} {wr : World} (h : MxSt w p q sq u l wr) (hr : WrRow wr (q + 1) u' l') : MxSt w p q sq' u' l' ((wr.setCell ⟨q, 0, none⟩ (.int .i64 sq')).setCell ⟨q, 1, none⟩ u') := by
  have hl := h.lt
  have hs : ∀ b, b ≠ q → ((wr.setCell ⟨q, 0, none⟩ (.int .i64 sq')).setCell ⟨q, 1, none⟩ u').heap[b]? = wr.heap[b]? := fun b hb => (Below.heap_setCell _ ⟨q, 1, none⟩ _ b hb).trans (Below.heap_setCell _ ⟨q, 0, none⟩ _ b hb)
  exact ⟨(hs _ (by omega)).trans h.res, own_same h.non fun b hb => hs b (by have h1 : b = p := (by cases hb; rfl); omega), put2d _ _ h.box, h.lt, own_same hr fun b hb => hs b (by have := (World.ownsRow.lt hr b hb).1; omega), (h.bel.setCell (p := ⟨q, 0, none⟩) (by show w.heap.size ≤ q; omega) _).setCell (p := ⟨q, 1, none⟩) (by show w.heap.size ≤ q; omega) _⟩
/-- while the writes are done -/
structure MlSt (w : World) (p q : Nat) (sq : Int) (u : Value) (l : List Wr) (g cap base : Nat) (K : List ByteArray) (wr : World) : Prop where
  st : MxSt w p q sq u l wr
  t : TxtRow wr base (.slice (some ⟨g, 0, none⟩) 17 cap) K
  len : K.length = 17
  qg : q < g
  ug : ∀ b, u.ownBlock = some b → b < g
theorem MlSt.below {w : World} {p q : Nat} {sq : Int} {u : Value} {l : List Wr} {g cap base : Nat} {K : List ByteArray} {wr w' : World} (h : MlSt w p q sq u l g cap base K wr) (hb : Below wr.heap.size wr w') : MlSt w p q sq u l g cap base K w' :=
  ⟨h.st.below hb, h.t.below hb, h.len, h.qg, h.ug⟩
theorem MlSt.put {w : World} {p q : Nat} {sq : Int} {u : Value} {l : List Wr} {g cap base : Nat} {K : List ByteArray} {wr : World} (h : MlSt w p q sq u l g cap base K wr) (y : Nat) (x : ByteArray) : MlSt w p q sq u l g cap base (K.set y x) (wr.setCell ⟨g, y, none⟩ (.string x)) := by
  refine ⟨h.st.gb (gbr_set _ _ _ _) h.qg h.ug, ?_, by rw [List.length_set]; exact h.len, h.qg, h.ug⟩
  have h0 := h.t
  unfold TxtRow at h0 ⊢
  rw [h.len] at h0
  have hst := (h0.stored y (.string x)).1
  rw [strsV_set] at hst
  rw [List.length_set, h.len]
  exact hst
theorem MlSt.cells {w : World} {p q : Nat} {sq : Int} {u : Value} {l : List Wr} {g cap base : Nat} {K : List ByteArray} {wr : World} (h : MlSt w p q sq u l g cap base K wr) : (wr.cell? ⟨q, 0, none⟩ = some (.int .i64 sq) ∧ wr.cell? ⟨q, 1, none⟩ = some u) ∧ ∀ y, y < 17 → (∃ v, wr.cell? ⟨g, y, none⟩ = some v) ∧ wr.frozen? ⟨g, y, none⟩ = false := by
  have h0 := h.t
  unfold TxtRow at h0
  rw [h.len] at h0
  exact ⟨⟨cell_blk h.st.box 0, cell_blk h.st.box 1⟩, fun y hy => ⟨⟨_, (h0.cellAt y (by omega)).trans (List.getElem?_eq_getElem (by have := h0.1; omega))⟩, h0.frozenAt y⟩⟩

set_option maxRecDepth 100000 in
set_option maxHeartbeats 4000000 in
theorem sMount (HPQ : ParseOk) (v : Value) (L : List ByteArray) (base : Nat) (w : World) (hs : ∀ t, t < L.length → L[t]!.size ≤ 1048576) (hv0 : TxtRow w base v L) :
    Calls Tryz.prog 5 #[v] w fun e w' => SaysM (mountN L) w e w' := by
  have hv := hv0.at
  have B0 := below_lit w (.cells #[.int .i64 0, .slice none 0 0] 26)
  have hp0 := (MapKept.heap_alloc w (.cells #[.int .i64 0, .slice none 0 0] 26)).1
  obtain ⟨w0, HW0⟩ : ∃ w0, Hid (w0 = w.alloc (.cells #[.int .i64 0, .slice none 0 0] 26)) := ⟨_, rfl⟩
  have hf : w.alloc (.cells #[.int .i64 0, .slice none 0 0] 26) = w0 := HW0.out.symm
  rw [hf] at B0 hp0
  have B1 := below_lit w0 (.cells #[] 42)
  have hn1 := lit_wrs w0
  obtain ⟨w1, HW1⟩ : ∃ w1, Hid (w1 = w0.alloc (.cells #[] 42)) := ⟨_, rfl⟩
  have hf1 : w0.alloc (.cells #[] 42) = w1 := HW1.out.symm
  rw [hf1] at B1 hn1
  have B1 := B0.trans (B1.mono B0.size)
  have hp1 : w1.heap[w.heap.size]? = some (.cells #[.int .i64 0, .slice none 0 0] 26) := by rw [← hf1]; exact ((below_lit w0 _).block _ (lt_of_block hp0)).trans hp0
  have B2 := below_lit w1 (.cells #[.int .i64 0, .slice none 0 0] 38)
  have hq2 := (MapKept.heap_alloc w1 (.cells #[.int .i64 0, .slice none 0 0] 38)).1
  obtain ⟨w2, HW2⟩ : ∃ w2, Hid (w2 = w1.alloc (.cells #[.int .i64 0, .slice none 0 0] 38)) := ⟨_, rfl⟩
  have hf2 : w1.alloc (.cells #[.int .i64 0, .slice none 0 0] 38) = w2 := HW2.out.symm
  rw [hf2] at B2 hq2
  have hlt : w.heap.size < w0.heap.size ∧ w0.heap.size < w1.heap.size := ⟨lt_of_block hp0, (World.ownsRow.lt hn1 _ rfl).2⟩
  have S2 : MxSt w w0.heap.size w1.heap.size 0 (.slice none 0 0) [] w2 :=
    ⟨(B2.block _ (lt_of_block hp1)).trans hp1, (WrRow.mono hn1 (by omega)).below B2, hq2, hlt, nil_wrs _ _, B1.trans (B2.mono B1.size)⟩
  have HNO : Hid (∀ sq u l wr, mountN L = none → MxSt w w0.heap.size w1.heap.size sq u l wr → Hid ((finM wr w.heap.size (.int .i64 0) (.slice none 0 0)).heap[w.heap.size]? = some (.cells #[.int .i64 0, .slice none 0 0] 26 (0, 0))) ∧ Hid (SaysM (mountN L) w (.returned (.tuple #[.agg #[.int .i64 0, .slice none 0 0], .slice (some ⟨w0.heap.size, 0, none⟩) 0 0, .int .i64 0, .int .i64 1])) (finM wr w.heap.size (.int .i64 0) (.slice none 0 0)))) := fun sq u l wr h1 h2 => by rw [h1]; exact h2.refused
  have HAT : Hid (∀ w', Below w.heap.size w w' → TxtsAt w' v L) := fun w' b => hv.below b
  obtain ⟨va, vc, hve, -, -⟩ := id hv
  by_cases h18 : L.length = 18
  · have HMN : Hid (mountN L = (jourN L[17]!).bind fun t => (readN (homeN t.outs (L.take 17))).bind fun v => some (v, t)) := by show _ = _; unfold mountN; rw [if_pos h18]
    rw [h18] at hve
    have hvc : (17 : Int) ≤ (vc : Int) := by
      rcases hv0.2 with ⟨-, h0⟩ | ⟨g, cap, cur, e, -, -, hnc, -⟩
      · omega
      · rw [hve, h18] at e; cases e; omega
    have hs17 := hs 17 (by omega)
    have hl17 : (L.take 17).length = 17 := by rw [List.length_take]; omega
    have HRT := fun w' => sReadTxn L[17]! w' hs17
    have HOK : Hid (∀ t, jourN L[17]! = some t → t.outs.length ≤ 17 ∧ ∀ x ∈ t.outs, 0 ≤ x.block ∧ x.block ≤ 16 ∧ x.text.size ≤ 400) := fun t h => jour_ok h
    have HSZ : Hid (∀ t ∈ L.take 17, t.size ≤ 1048576) := fun t ht => by
      obtain ⟨i, hi, rfl⟩ := List.mem_iff_getElem.1 (List.mem_of_mem_take ht)
      have := hs i hi
      rwa [getElem!_pos L i hi] at this
    have HRB : Hid (∀ u K base w', (∀ t ∈ K, t.size ≤ 1048576) → TxtRow w' base u K → Calls Tryz.prog 17 #[u] w' fun e w'' => SaysB (readN K) w' e w'') := fun u K base w' hk h => sReadBlocks HPQ u K w' hk h.at
    obtain ⟨b17, o17, e17, hb17, c17⟩ : ∃ b off, va = some ⟨b, off, none⟩ ∧ b < w.heap.size ∧ w.cell? ⟨b, off + 17, none⟩ = some (.string L[17]!) := by
      obtain ⟨a', c', e', -, hc'⟩ := id hv
      rw [hve, h18] at e'
      cases e'
      exact hc' 17 (by omega)
    subst hve
    subst e17
    have HTK : Hid (∀ w', Below w.heap.size w w' → TxtsAt w' (.slice (some ⟨b17, o17, none⟩) 17 vc) (L.take 17)) := fun w' b => by have := (HAT.out w' b).take 17 (by omega); exact this
    have x17 := (S2.bel.cell (p := ⟨b17, o17 + 17, none⟩) hb17).trans c17
    have W2 := S2.put (sq' := 0) (u' := .slice none 0 0) (l' := []) (nil_wrs _ _)
    have y17 := (W2.bel.cell (p := ⟨b17, o17 + 17, none⟩) hb17).trans c17
    generalize L[17]! = jt at *
    generalize mountN L = o at *
    obtain ⟨p2, q2⟩ := blk2 hq2
    have qf2 := fun i => unfrozen_blk hq2 i
    clear hs c17 hv hv0 HAT hn1 hp0 hp1 B0 B1 B2 S2
    have k17 : (17 : Int) < 18 := by decide
    go_enter Tryz.func5, Tryz.ntmps5
    by_cases h0 : jt.size = 0
    · have hj : jourN jt = some ⟨0, []⟩ := by unfold jourN; rw [if_pos h0]
      have f1 : jt.toList = [] := by rw [ByteArray.toList_eq, ← List.length_eq_zero_iff, size_list]; exact h0
      have f2 : (jt.toList == []) = true := by rw [f1]; rfl
      go_upto_region 10 with fail
      clear y17
      generalize ((w2.setCell ⟨w1.heap.size, 0, none⟩ (.int .i64 0)).setCell ⟨w1.heap.size, 1, none⟩ (.slice none 0 0)) = W0 at W2 ⊢
      obtain ⟨t, ua, n, uc, ht, hnn, HST⟩ : ∃ (t : Tx) (ua : Option Addr) (n uc : Nat), jourN jt = some t ∧ t.outs.length = n ∧ Hid (MxSt w w0.heap.size w1.heap.size t.seq (.slice ua n uc) t.outs W0) := ⟨⟨0, []⟩, none, 0, 0, hj, rfl, W2⟩
      clear W2 hj f1 f2 h0
      obtain ⟨hol, hox⟩ := HOK.out t ht
      have HMN2 : Hid (o = (readN (homeN t.outs (L.take 17))).bind fun v => some (v, t)) := by show _ = _; rw [HMN.out, ht]; rfl
      have BL := below_lit W0 (.cells #[] 9)
      have hrow := lit_txts W0
      have hv' := HTK.out _ (HST.out.bel.trans (BL.mono HST.out.bel.size))
      have hub : ∀ b, (Value.slice ua n uc).ownBlock = some b → b < W0.heap.size := fun b hb => (World.ownsRow.lt HST.out.row b hb).2
      have hqW := lt_of_block HST.out.box
      have HBLS : Hid (W0.heap.size ≤ (W0.alloc (.cells #[] 9)).heap.size) := BL.size
      have HMK : Hid (∀ v9 w9, TxtRow w9 W0.heap.size v9 ([] ++ L.take 17) → Below W0.heap.size (W0.alloc (.cells #[] 9)) w9 → ∃ g cap, v9 = .slice (some ⟨g, 0, none⟩) 17 cap ∧ Hid (MlSt w w0.heap.size w1.heap.size t.seq (.slice ua n uc) t.outs g cap W0.heap.size (L.take 17) w9)) := fun v9 w9 hr9 hb9 => by
        rw [List.nil_append] at hr9
        obtain ⟨g, cap, hf9, hg9, hgl⟩ := txt_some hr9 (by omega)
        rw [hl17] at hf9
        subst hf9
        exact ⟨g, cap, rfl, HST.out.below (BL.trans hb9), hr9, hl17, by omega, fun b hb => by have := hub b hb; omega⟩
      have HLEN : Hid (([] : List ByteArray).length + (L.take 17).length ≤ 1099511627776) := by show _ ≤ _; rw [hl17]; simp
      have HEND : Hid (homeN (t.outs.take n) (L.take 17) = homeN t.outs (L.take 17)) := by show _ = _; rw [← hnn]; exact homeN_all _ _
      have HSTP : Hid (∀ k, k < n → homeN (t.outs.take (k + 1)) (L.take 17) = (homeN (t.outs.take k) (L.take 17)).set t.outs[k]!.block.toNat t.outs[k]!.text) := fun k hk => homeN_step _ _ k (by omega)
      have HSHT : Hid (∀ x ∈ homeN t.outs (L.take 17), x.size ≤ 1048576) := home_short _ _ 1048576 (by omega) (fun x hx => (hox x hx).2.2) HSZ.out
      have HOX : Hid (∀ k, k < n → 0 ≤ t.outs[k]!.block ∧ t.outs[k]!.block ≤ 16) := fun k hk => by have := hox t.outs[k]! (by rw [getElem!_pos t.outs k (by omega)]; exact List.getElem_mem _); omega
      have HZ0 : Hid (homeN (t.outs.take 0) (L.take 17) = L.take 17) := homeN_zero _ _
      clear hox HSZ HOK HMN HTK BL hub ht hf hf1 hf2 p2 q2 qf2 x17
      go_wp2_with (at_builtin; refine append_txts _ rfl (.tmp 37) (.tmp 39) rfl W0.heap.size _ _ [] (L.take 17) HLEN.out hrow hv' rfl rfl HBLS.out ?_; intro v9 w9 hr9 hb9; obtain ⟨g, cap, hf9, HLP⟩ := HMK.out v9 w9 hr9 hb9; subst hf9; clear hr9 hb9 hrow hv' HMK)
      go_loopw [11] (fun i wr => ∃ k : Nat, k ≤ n ∧ i = .int .i64 k ∧ Hid (MlSt w w0.heap.size w1.heap.size t.seq (.slice ua n uc) t.outs g cap W0.heap.size (homeN (t.outs.take k) (L.take 17)) wr)) (fun i _ => n - (intOf i).toNat)
      case atStart => exact ⟨0, Nat.zero_le _, rfl, by rw [HZ0.out]; exact HLP⟩
      case round =>
        obtain ⟨k, hk, rfl, HS⟩ := hrel
        obtain ⟨⟨x0, x1⟩, xr⟩ := HS.out.cells
        by_cases hlt : k < n
        · obtain ⟨pb, cb, hbf, hob, hc⟩ := wrm_form HS.out.st.row k (by omega)
          rw [hnn] at hbf
          have hpg := HS.out.ug pb hob
          have hqg := HS.out.qg
          have c0 := hc.c0
          have c1 := hc.c1
          have hxs := HOX.out k hlt
          have hst := HSTP.out k hlt
          cases hbf
          generalize t.outs[k]! = y at c0 c1 hxs hst
          obtain ⟨yb, yt⟩ := y
          dsimp only at c0 c1 hxs hst
          obtain ⟨yn, rfl⟩ : ∃ yn : Nat, yb = (yn : Int) := ⟨yb.toNat, by omega⟩
          rw [Int.toNat_natCast] at hst
          obtain ⟨⟨uu, xu⟩, xf⟩ := xr yn (by omega)
          have HF1 : Hid (homeN (t.outs.take (k + 1)) (L.take 17) = (homeN (t.outs.take k) (L.take 17)).set yn yt) := hst
          have hkn : (k : Int) < (n : Int) := by omega
          have hk0 : (0 : Int) ≤ (k : Int) := by omega
          have hy0 : (0 : Int) ≤ (yn : Int) := by omega
          have hy1 : (yn : Int) < 17 := by omega
          have e1 : ¬ pb = g := by omega
          have e2 : ¬ g = pb := by omega
          have e3 : ¬ w1.heap.size = g := by omega
          have e4 : ¬ g = w1.heap.size := by omega
          clear xr hc hst hxs hob hpg hqg HLP
          go_wp2
          go_region_held3 (fun w' => (w'.cell? ⟨w1.heap.size, 1, none⟩ = some (.slice (some ⟨pb, 0, none⟩) n uc) ∧ w'.cell? ⟨pb, k * 2, none⟩ = some (.int .i64 (yn : Int)) ∧ w'.cell? ⟨pb, k * 2 + 1, none⟩ = some (.string yt))) (go_keep) (fail)
          go_wp2
          go_roundw
          case rel => exact ⟨k + 1, by omega, by go_num, by rw [HF1.out]; exact (HS.out.below (Below.refl _ _).drew).put yn yt⟩
          case measure => simp [intOf]; omega
        · have hkn : k = n := by omega
          subst hkn
          have HS : Hid (MlSt w w0.heap.size w1.heap.size t.seq (.slice ua k uc) t.outs g cap W0.heap.size (homeN t.outs (L.take 17)) wr) := by have h := HS.out; rw [HEND.out] at h; exact h
          have HR := HRB.out _ (homeN t.outs (L.take 17)) W0.heap.size wr HSHT.out HS.out.t
          have hgl := (World.ownsRow.lt HS.out.t g rfl).2
          have hug := HS.out.ug
          have hS := HS.out.st
          generalize readN (homeN t.outs (L.take 17)) = rn at HR HMN2
          clear HS HEND HSTP HSHT HOX HZ0 HLP HLEN xr hlt hk
          go_wp2_with fail
          refine HR.mono ?_
          rintro e wA h5
          rcases h5 with ⟨vo, u5, M, hrn, rfl, hM, i5, b5⟩ | ⟨hrn, rfl, b5⟩
          · obtain ⟨ia, ic, hu5, -, -⟩ := i5.at
            generalize hmm : (M.map (fun p : Ino × Value => p.1)).length = m at hu5
            subst hu5
            have BV := below_lit wA (.cells #[.int .i64 vo.next, .slice ia m ic] 26)
            have hbv := (MapKept.heap_alloc wA (.cells #[.int .i64 vo.next, .slice ia m ic] 26)).1
            obtain ⟨wB, HWB⟩ : ∃ wB, Hid (wB = wA.alloc (.cells #[.int .i64 vo.next, .slice ia m ic] 26)) := ⟨_, rfl⟩
            have hfB : wA.alloc (.cells #[.int .i64 vo.next, .slice ia m ic] 26) = wB := HWB.out.symm
            rw [hfB] at BV hbv
            have sB := (hS.below b5).below BV
            have i6 := i5.below BV
            have hlw := sB.lt
            have hwr := lt_of_block hS.box
            obtain ⟨K1, K2⟩ := finM_facts (.int .i64 vo.next) (.slice ia m ic) sB.res sB.bel
            have ho : o = some (vo, t) := by rw [HMN2.out, hrn]; rfl
            have dr : Below (finM wB w.heap.size (.int .i64 vo.next) (.slice ia m ic)).heap.size (finM wB w.heap.size (.int .i64 vo.next) (.slice ia m ic)) (finM wB w.heap.size (.int .i64 vo.next) (.slice ia m ic)).drew := (Below.refl _ _).drew
            have i7 : InoRow (finM wB w.heap.size (.int .i64 vo.next) (.slice ia m ic)) wr.heap.size (.slice ia m ic) M := (i6.setLow (by omega) _ _).setLow (by omega) _ _
            have s7 : WrRow (finM wB w.heap.size (.int .i64 vo.next) (.slice ia m ic)) (w1.heap.size + 1) (.slice ua k uc) t.outs := own_low (own_low sB.row (g := w.heap.size) (by omega) _ _) (g := w.heap.size) (by omega) _ _
            have K3 : Hid (SaysM o w (.returned (.tuple #[.agg #[.int .i64 vo.next, .slice ia m ic], .slice ua k uc, .int .i64 t.seq, .int .i64 0])) (finM wB w.heap.size (.int .i64 vo.next) (.slice ia m ic)).drew) :=
              .inl ⟨vo, t, .slice ia m ic, M, .slice ua k uc, wr.heap.size, ho, rfl, hM, i7.below dr, WrRow.mono (s7.below dr) (by omega), ⟨by omega, fun q hq => by have := hug q hq; omega⟩, K2.out.drew⟩
            have K1 : Hid ((finM wB w.heap.size (.int .i64 vo.next) (.slice ia m ic)).drew.heap[w.heap.size]? = some (.cells #[.int .i64 vo.next, .slice ia m ic] 26 (0, 0))) := K1.out
            obtain ⟨x0, x1⟩ := blk2 sB.res
            have xf := fun i => unfrozen_blk sB.res i
            obtain ⟨y0, y1⟩ := blk2 sB.box
            obtain ⟨v0, v1⟩ := blk2 hbv
            have z5 := b5.size
            have n1 : ¬ w.heap.size = w1.heap.size := by omega
            have n1' : ¬ w1.heap.size = w.heap.size := by omega
            have n5 : ¬ w.heap.size = wA.heap.size := by omega
            have n5' : ¬ wA.heap.size = w.heap.size := by omega
            clear HR i5 i6 i7 s7 dr b5 BV HMN2 HNO hrn hM ho hug hS sB HRB
            generalize vo.next = nx at *
            generalize t.seq = sq at *
            go_wp2
            go_region
            all_goals go_wp2
            all_goals change bodyPost _ _ _ _ _ (finM wB w.heap.size (.int .i64 nx) (.slice ia m ic)).drew
            all_goals exact bodyPost_ret (results_mnt Tryz.results5 _ _ w.heap.size _ (.slice ua k uc) (.int .i64 sq) (.int .i64 0) rfl rfl rfl rfl rfl K1.out) rfl K3.out
          · have BX := below_lit wA (.cells #[.int .i64 0, .slice none 0 0] 26)
            have hbx := (MapKept.heap_alloc wA (.cells #[.int .i64 0, .slice none 0 0] 26)).1
            obtain ⟨wB, HWB⟩ : ∃ wB, Hid (wB = wA.alloc (.cells #[.int .i64 0, .slice none 0 0] 26)) := ⟨_, rfl⟩
            have hfB : wA.alloc (.cells #[.int .i64 0, .slice none 0 0] 26) = wB := HWB.out.symm
            rw [hfB] at BX hbx
            have sB := (hS.below b5).below BX
            have hlw := sB.lt
            have hwr := lt_of_block hS.box
            have z5 := b5.size
            have gz : wB.grownBy ((wB.setCell ⟨wA.heap.size, 0, none⟩ (.int .i64 0)).setCell ⟨wA.heap.size, 1, none⟩ (.slice none 0 0)) (some wA.heap.size) := gbr_trans (gbr_set _ _ _ _) (gbr_set _ _ _ _)
            have S7 := sB.gb gz (by omega) (fun b hb => by have := hug b hb; omega)
            obtain ⟨K1, K2⟩ := HNO.out _ _ _ _ (by rw [HMN2.out, hrn]; rfl) S7
            obtain ⟨v0, v1⟩ := blk2 hbx
            have vf := fun i => unfrozen_blk hbx i
            obtain ⟨z0, z1⟩ := blk2 sB.res
            have zf := fun i => unfrozen_blk sB.res i
            have n5 : ¬ w.heap.size = wA.heap.size := by omega
            have n5' : ¬ wA.heap.size = w.heap.size := by omega
            clear b5 hbx BX sB S7 gz HR HNO HMN2 HRB hrn hS hug
            go_wp2
            change bodyPost _ _ _ _ _ (finM ((wB.setCell ⟨wA.heap.size, 0, none⟩ (.int .i64 0)).setCell ⟨wA.heap.size, 1, none⟩ (.slice none 0 0)) w.heap.size (.int .i64 0) (.slice none 0 0))
            exact bodyPost_ret (results_mnt Tryz.results5 _ _ w.heap.size _ (.slice (some ⟨w0.heap.size, 0, none⟩) 0 0) (.int .i64 0) (.int .i64 1) rfl rfl rfl rfl rfl K1.out) rfl K2.out
    · have hj : jourN jt = readT jt := by unfold jourN; rw [if_neg h0]
      have f1 : ¬ jt.toList = [] := fun h => h0 (by rw [← size_list, ← ByteArray.toList_eq, h]; rfl)
      have f2 : (jt.toList == []) = false := by rw [beq_eq_false_iff_ne]; exact f1
      go_wp2_with fail
      generalize ((w2.setCell ⟨w1.heap.size, 0, none⟩ (.int .i64 0)).setCell ⟨w1.heap.size, 1, none⟩ (.slice none 0 0)) = W1 at W2 y17 ⊢
      refine (HRT W1).mono ?_
      rintro e w5 h5
      rcases h5 with ⟨t, u, ht, rfl, r5, b5⟩ | ⟨ht, rfl, b5⟩
      · obtain ⟨ua, uc, hu, -, -⟩ := r5.at
        generalize hnn : t.outs.length = n at hu
        subst hu
        have ht : jourN jt = some t := by rw [hj, ht]
        have BX := below_lit w5 (.cells #[.int .i64 t.seq, .slice ua n uc] 38)
        have hbx := (MapKept.heap_alloc w5 (.cells #[.int .i64 t.seq, .slice ua n uc] 38)).1
        obtain ⟨w6, HW6⟩ : ∃ w6, Hid (w6 = w5.alloc (.cells #[.int .i64 t.seq, .slice ua n uc] 38)) := ⟨_, rfl⟩
        have hf6 : w5.alloc (.cells #[.int .i64 t.seq, .slice ua n uc] 38) = w6 := HW6.out.symm
        rw [hf6] at BX hbx
        have S6 := (W2.below b5).below BX
        have hW1 := lt_of_block W2.box
        have W6 := S6.put (sq' := t.seq) (u' := .slice ua n uc) (l' := t.outs) ((WrRow.mono r5 (by omega)).below BX)
        obtain ⟨v0, v1⟩ := blk2 hbx
        obtain ⟨z0, z1⟩ := blk2 S6.box
        have zf := fun i => unfrozen_blk S6.box i
        have hz5 := b5.size
        have n5 : ¬ w1.heap.size = w5.heap.size := by omega
        have n5' : ¬ w5.heap.size = w1.heap.size := by omega
        clear r5 b5 hbx BX S6 W2 HRT hj
        go_upto_region 10 with fail
        generalize hW0 : ((w6.setCell ⟨w1.heap.size, 0, none⟩ (.int .i64 t.seq)).setCell ⟨w1.heap.size, 1, none⟩ (.slice ua n uc)) = W0 at W6 ⊢
        have HST : Hid (MxSt w w0.heap.size w1.heap.size t.seq (.slice ua n uc) t.outs W0) := W6
        clear W6 f1 f2 h0 hW0 y17 v0 v1 z0 z1 zf
        obtain ⟨hol, hox⟩ := HOK.out t ht
        have HMN2 : Hid (o = (readN (homeN t.outs (L.take 17))).bind fun v => some (v, t)) := by show _ = _; rw [HMN.out, ht]; rfl
        have BL := below_lit W0 (.cells #[] 9)
        have hrow := lit_txts W0
        have hv' := HTK.out _ (HST.out.bel.trans (BL.mono HST.out.bel.size))
        have hub : ∀ b, (Value.slice ua n uc).ownBlock = some b → b < W0.heap.size := fun b hb => (World.ownsRow.lt HST.out.row b hb).2
        have hqW := lt_of_block HST.out.box
        have HBLS : Hid (W0.heap.size ≤ (W0.alloc (.cells #[] 9)).heap.size) := BL.size
        have HMK : Hid (∀ v9 w9, TxtRow w9 W0.heap.size v9 ([] ++ L.take 17) → Below W0.heap.size (W0.alloc (.cells #[] 9)) w9 → ∃ g cap, v9 = .slice (some ⟨g, 0, none⟩) 17 cap ∧ Hid (MlSt w w0.heap.size w1.heap.size t.seq (.slice ua n uc) t.outs g cap W0.heap.size (L.take 17) w9)) := fun v9 w9 hr9 hb9 => by
          rw [List.nil_append] at hr9
          obtain ⟨g, cap, hf9, hg9, hgl⟩ := txt_some hr9 (by omega)
          rw [hl17] at hf9
          subst hf9
          exact ⟨g, cap, rfl, HST.out.below (BL.trans hb9), hr9, hl17, by omega, fun b hb => by have := hub b hb; omega⟩
        have HLEN : Hid (([] : List ByteArray).length + (L.take 17).length ≤ 1099511627776) := by show _ ≤ _; rw [hl17]; simp
        have HEND : Hid (homeN (t.outs.take n) (L.take 17) = homeN t.outs (L.take 17)) := by show _ = _; rw [← hnn]; exact homeN_all _ _
        have HSTP : Hid (∀ k, k < n → homeN (t.outs.take (k + 1)) (L.take 17) = (homeN (t.outs.take k) (L.take 17)).set t.outs[k]!.block.toNat t.outs[k]!.text) := fun k hk => homeN_step _ _ k (by omega)
        have HSHT : Hid (∀ x ∈ homeN t.outs (L.take 17), x.size ≤ 1048576) := home_short _ _ 1048576 (by omega) (fun x hx => (hox x hx).2.2) HSZ.out
        have HOX : Hid (∀ k, k < n → 0 ≤ t.outs[k]!.block ∧ t.outs[k]!.block ≤ 16) := fun k hk => by have := hox t.outs[k]! (by rw [getElem!_pos t.outs k (by omega)]; exact List.getElem_mem _); omega
        have HZ0 : Hid (homeN (t.outs.take 0) (L.take 17) = L.take 17) := homeN_zero _ _
        clear hox HSZ HOK HMN HTK BL hub ht hf hf1 hf2 p2 q2 qf2 x17
        go_wp2_with (at_builtin; refine append_txts _ rfl (.tmp 37) (.tmp 39) rfl W0.heap.size _ _ [] (L.take 17) HLEN.out hrow hv' rfl rfl HBLS.out ?_; intro v9 w9 hr9 hb9; obtain ⟨g, cap, hf9, HLP⟩ := HMK.out v9 w9 hr9 hb9; subst hf9; clear hr9 hb9 hrow hv' HMK)
        go_loopw [11] (fun i wr => ∃ k : Nat, k ≤ n ∧ i = .int .i64 k ∧ Hid (MlSt w w0.heap.size w1.heap.size t.seq (.slice ua n uc) t.outs g cap W0.heap.size (homeN (t.outs.take k) (L.take 17)) wr)) (fun i _ => n - (intOf i).toNat)
        case atStart => exact ⟨0, Nat.zero_le _, rfl, by rw [HZ0.out]; exact HLP⟩
        case round =>
          obtain ⟨k, hk, rfl, HS⟩ := hrel
          obtain ⟨⟨x0, x1⟩, xr⟩ := HS.out.cells
          by_cases hlt : k < n
          · obtain ⟨pb, cb, hbf, hob, hc⟩ := wrm_form HS.out.st.row k (by omega)
            rw [hnn] at hbf
            have hpg := HS.out.ug pb hob
            have hqg := HS.out.qg
            have c0 := hc.c0
            have c1 := hc.c1
            have hxs := HOX.out k hlt
            have hst := HSTP.out k hlt
            cases hbf
            generalize t.outs[k]! = y at c0 c1 hxs hst
            obtain ⟨yb, yt⟩ := y
            dsimp only at c0 c1 hxs hst
            obtain ⟨yn, rfl⟩ : ∃ yn : Nat, yb = (yn : Int) := ⟨yb.toNat, by omega⟩
            rw [Int.toNat_natCast] at hst
            obtain ⟨⟨uu, xu⟩, xf⟩ := xr yn (by omega)
            have HF1 : Hid (homeN (t.outs.take (k + 1)) (L.take 17) = (homeN (t.outs.take k) (L.take 17)).set yn yt) := hst
            have hkn : (k : Int) < (n : Int) := by omega
            have hk0 : (0 : Int) ≤ (k : Int) := by omega
            have hy0 : (0 : Int) ≤ (yn : Int) := by omega
            have hy1 : (yn : Int) < 17 := by omega
            have e1 : ¬ pb = g := by omega
            have e2 : ¬ g = pb := by omega
            have e3 : ¬ w1.heap.size = g := by omega
            have e4 : ¬ g = w1.heap.size := by omega
            clear xr hc hst hxs hob hpg hqg HLP
            go_wp2
            go_region_held3 (fun w' => (w'.cell? ⟨w1.heap.size, 1, none⟩ = some (.slice (some ⟨pb, 0, none⟩) n uc) ∧ w'.cell? ⟨pb, k * 2, none⟩ = some (.int .i64 (yn : Int)) ∧ w'.cell? ⟨pb, k * 2 + 1, none⟩ = some (.string yt))) (go_keep) (fail)
            go_wp2
            go_roundw
            case rel => exact ⟨k + 1, by omega, by go_num, by rw [HF1.out]; exact (HS.out.below (Below.refl _ _).drew).put yn yt⟩
            case measure => simp [intOf]; omega
          · have hkn : k = n := by omega
            subst hkn
            have HS : Hid (MlSt w w0.heap.size w1.heap.size t.seq (.slice ua k uc) t.outs g cap W0.heap.size (homeN t.outs (L.take 17)) wr) := by have h := HS.out; rw [HEND.out] at h; exact h
            have HR := HRB.out _ (homeN t.outs (L.take 17)) W0.heap.size wr HSHT.out HS.out.t
            have hgl := (World.ownsRow.lt HS.out.t g rfl).2
            have hug := HS.out.ug
            have hS := HS.out.st
            generalize readN (homeN t.outs (L.take 17)) = rn at HR HMN2
            clear HS HEND HSTP HSHT HOX HZ0 HLP HLEN xr hlt hk
            go_wp2_with fail
            refine HR.mono ?_
            rintro e wA h5
            rcases h5 with ⟨vo, u5, M, hrn, rfl, hM, i5, b5⟩ | ⟨hrn, rfl, b5⟩
            · obtain ⟨ia, ic, hu5, -, -⟩ := i5.at
              generalize hmm : (M.map (fun p : Ino × Value => p.1)).length = m at hu5
              subst hu5
              have BV := below_lit wA (.cells #[.int .i64 vo.next, .slice ia m ic] 26)
              have hbv := (MapKept.heap_alloc wA (.cells #[.int .i64 vo.next, .slice ia m ic] 26)).1
              obtain ⟨wB, HWB⟩ : ∃ wB, Hid (wB = wA.alloc (.cells #[.int .i64 vo.next, .slice ia m ic] 26)) := ⟨_, rfl⟩
              have hfB : wA.alloc (.cells #[.int .i64 vo.next, .slice ia m ic] 26) = wB := HWB.out.symm
              rw [hfB] at BV hbv
              have sB := (hS.below b5).below BV
              have i6 := i5.below BV
              have hlw := sB.lt
              have hwr := lt_of_block hS.box
              obtain ⟨K1, K2⟩ := finM_facts (.int .i64 vo.next) (.slice ia m ic) sB.res sB.bel
              have ho : o = some (vo, t) := by rw [HMN2.out, hrn]; rfl
              have dr : Below (finM wB w.heap.size (.int .i64 vo.next) (.slice ia m ic)).heap.size (finM wB w.heap.size (.int .i64 vo.next) (.slice ia m ic)) (finM wB w.heap.size (.int .i64 vo.next) (.slice ia m ic)).drew := (Below.refl _ _).drew
              have i7 : InoRow (finM wB w.heap.size (.int .i64 vo.next) (.slice ia m ic)) wr.heap.size (.slice ia m ic) M := (i6.setLow (by omega) _ _).setLow (by omega) _ _
              have s7 : WrRow (finM wB w.heap.size (.int .i64 vo.next) (.slice ia m ic)) (w1.heap.size + 1) (.slice ua k uc) t.outs := own_low (own_low sB.row (g := w.heap.size) (by omega) _ _) (g := w.heap.size) (by omega) _ _
              have K3 : Hid (SaysM o w (.returned (.tuple #[.agg #[.int .i64 vo.next, .slice ia m ic], .slice ua k uc, .int .i64 t.seq, .int .i64 0])) (finM wB w.heap.size (.int .i64 vo.next) (.slice ia m ic)).drew) :=
                .inl ⟨vo, t, .slice ia m ic, M, .slice ua k uc, wr.heap.size, ho, rfl, hM, i7.below dr, WrRow.mono (s7.below dr) (by omega), ⟨by omega, fun q hq => by have := hug q hq; omega⟩, K2.out.drew⟩
              have K1 : Hid ((finM wB w.heap.size (.int .i64 vo.next) (.slice ia m ic)).drew.heap[w.heap.size]? = some (.cells #[.int .i64 vo.next, .slice ia m ic] 26 (0, 0))) := K1.out
              obtain ⟨x0, x1⟩ := blk2 sB.res
              have xf := fun i => unfrozen_blk sB.res i
              obtain ⟨y0, y1⟩ := blk2 sB.box
              obtain ⟨v0, v1⟩ := blk2 hbv
              have z5 := b5.size
              have n1 : ¬ w.heap.size = w1.heap.size := by omega
              have n1' : ¬ w1.heap.size = w.heap.size := by omega
              have n5 : ¬ w.heap.size = wA.heap.size := by omega
              have n5' : ¬ wA.heap.size = w.heap.size := by omega
              clear HR i5 i6 i7 s7 dr b5 BV HMN2 HNO hrn hM ho hug hS sB HRB
              generalize vo.next = nx at *
              generalize t.seq = sq at *
              go_wp2
              go_region
              all_goals go_wp2
              all_goals change bodyPost _ _ _ _ _ (finM wB w.heap.size (.int .i64 nx) (.slice ia m ic)).drew
              all_goals exact bodyPost_ret (results_mnt Tryz.results5 _ _ w.heap.size _ (.slice ua k uc) (.int .i64 sq) (.int .i64 0) rfl rfl rfl rfl rfl K1.out) rfl K3.out
            · have BX := below_lit wA (.cells #[.int .i64 0, .slice none 0 0] 26)
              have hbx := (MapKept.heap_alloc wA (.cells #[.int .i64 0, .slice none 0 0] 26)).1
              obtain ⟨wB, HWB⟩ : ∃ wB, Hid (wB = wA.alloc (.cells #[.int .i64 0, .slice none 0 0] 26)) := ⟨_, rfl⟩
              have hfB : wA.alloc (.cells #[.int .i64 0, .slice none 0 0] 26) = wB := HWB.out.symm
              rw [hfB] at BX hbx
              have sB := (hS.below b5).below BX
              have hlw := sB.lt
              have hwr := lt_of_block hS.box
              have z5 := b5.size
              have gz : wB.grownBy ((wB.setCell ⟨wA.heap.size, 0, none⟩ (.int .i64 0)).setCell ⟨wA.heap.size, 1, none⟩ (.slice none 0 0)) (some wA.heap.size) := gbr_trans (gbr_set _ _ _ _) (gbr_set _ _ _ _)
              have S7 := sB.gb gz (by omega) (fun b hb => by have := hug b hb; omega)
              obtain ⟨K1, K2⟩ := HNO.out _ _ _ _ (by rw [HMN2.out, hrn]; rfl) S7
              obtain ⟨v0, v1⟩ := blk2 hbx
              have vf := fun i => unfrozen_blk hbx i
              obtain ⟨z0, z1⟩ := blk2 sB.res
              have zf := fun i => unfrozen_blk sB.res i
              have n5 : ¬ w.heap.size = wA.heap.size := by omega
              have n5' : ¬ wA.heap.size = w.heap.size := by omega
              clear b5 hbx BX sB S7 gz HR HNO HMN2 HRB hrn hS hug
              go_wp2
              change bodyPost _ _ _ _ _ (finM ((wB.setCell ⟨wA.heap.size, 0, none⟩ (.int .i64 0)).setCell ⟨wA.heap.size, 1, none⟩ (.slice none 0 0)) w.heap.size (.int .i64 0) (.slice none 0 0))
              exact bodyPost_ret (results_mnt Tryz.results5 _ _ w.heap.size _ (.slice (some ⟨w0.heap.size, 0, none⟩) 0 0) (.int .i64 0) (.int .i64 1) rfl rfl rfl rfl rfl K1.out) rfl K2.out
      · have hnone : o = none := by rw [HMN.out, hj, ht]; rfl
        have BX := below_lit w5 (.cells #[.int .i64 0, .slice none 0 0] 38)
        have hbx := (MapKept.heap_alloc w5 (.cells #[.int .i64 0, .slice none 0 0] 38)).1
        obtain ⟨w6, HW6⟩ : ∃ w6, Hid (w6 = w5.alloc (.cells #[.int .i64 0, .slice none 0 0] 38)) := ⟨_, rfl⟩
        have hf6 : w5.alloc (.cells #[.int .i64 0, .slice none 0 0] 38) = w6 := HW6.out.symm
        rw [hf6] at BX hbx
        have S6 := (W2.below b5).below BX
        have hW1 := lt_of_block W2.box
        have hz5 := b5.size
        have gz : w6.grownBy ((w6.setCell ⟨w5.heap.size, 0, none⟩ (.int .i64 0)).setCell ⟨w5.heap.size, 1, none⟩ (.slice none 0 0)) (some w5.heap.size) := gbr_trans (gbr_set _ _ _ _) (gbr_set _ _ _ _)
        have S7 := S6.gb gz (by omega) (fun b hb => by cases hb)
        obtain ⟨K1, K2⟩ := HNO.out _ _ _ _ hnone S7
        obtain ⟨v0, v1⟩ := blk2 hbx
        have vf := fun i => unfrozen_blk hbx i
        obtain ⟨z0, z1⟩ := blk2 S6.res
        have zf := fun i => unfrozen_blk S6.res i
        have n5 : ¬ w.heap.size = w5.heap.size := by omega
        have n5' : ¬ w5.heap.size = w.heap.size := by omega
        clear b5 hbx BX S6 S7 gz W2 HRT hj HNO HMN HOK HRB HTK HSZ hnone
        go_wp2
        change bodyPost _ _ _ _ _ (finM ((w6.setCell ⟨w5.heap.size, 0, none⟩ (.int .i64 0)).setCell ⟨w5.heap.size, 1, none⟩ (.slice none 0 0)) w.heap.size (.int .i64 0) (.slice none 0 0))
        exact bodyPost_ret (results_mnt Tryz.results5 _ _ w.heap.size _ (.slice (some ⟨w0.heap.size, 0, none⟩) 0 0) (.int .i64 0) (.int .i64 1) rfl rfl rfl rfl rfl K1.out) rfl K2.out
  · have hnone : mountN L = none := by unfold mountN; rw [if_neg h18]
    have h18' : ((L.length : Int) != 18) = true := by simp; omega
    have S1 : MxSt w w0.heap.size w1.heap.size 0 (.slice none 0 0) [] w2 := S2
    have K3 : Hid ((finM w1 w.heap.size (.int .i64 0) (.slice none 0 0)).heap[w.heap.size]? = some (.cells #[.int .i64 0, .slice none 0 0] 26 (0, 0))) := (finM_facts (.int .i64 0) (.slice none 0 0) hp1 B1).1
    have K2 : Hid (SaysM (mountN L) w (.returned (.tuple #[.agg #[.int .i64 0, .slice none 0 0], .slice (some ⟨w0.heap.size, 0, none⟩) 0 0, .int .i64 0, .int .i64 1])) (finM w1 w.heap.size (.int .i64 0) (.slice none 0 0))) :=
      .inr ⟨hnone, _, rfl, WrRow.mono (own_low (own_low hn1 hlt.1 _ _) hlt.1 _ _) (by omega), (finM_facts (.int .i64 0) (.slice none 0 0) hp1 B1).2.out⟩
    obtain ⟨x0, x1⟩ := blk2 hp1
    have xf := fun i => unfrozen_blk hp1 i
    subst hve
    clear HNO HAT hnone hs hv hv0 S1 S2 B2 hq2 hn1 HW2 hf2
    generalize L.length = n at *
    generalize mountN L = o at *
    go_enter Tryz.func5, Tryz.ntmps5
    go_wp2
    change bodyPost _ _ _ _ _ (finM w1 w.heap.size (.int .i64 0) (.slice none 0 0))
    exact bodyPost_ret (results_mnt Tryz.results5 _ _ w.heap.size _ (.slice (some ⟨w0.heap.size, 0, none⟩) 0 0) (.int .i64 0) (.int .i64 1) rfl rfl rfl rfl rfl K3.out) rfl K2.out

end Go.Proofs.YtpijjinoeghgoaaGreatDoor
