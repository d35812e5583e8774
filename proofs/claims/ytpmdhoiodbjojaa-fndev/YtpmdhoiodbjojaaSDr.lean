/- Devices: spec.l8Copy. -/
import Derived.Test.YtpmdhoiodbjojaaRows
import Derived.Test.YtpmdhoiodbjojaaSDq
namespace Go.Proofs.Ytpmdhoiodbjojaa
open Go.RowKit

/-- what stands while a device is copied: its box, the two rows -/
structure CpB (n0 : Nat) (vt vp : Value) (ad : Addr) (bd : Option Addr) (txs wxs : List Value) (W : World) : Prop where
  hP : W.heap[n0]? = some (.cells #[vt, vp] 27)
  s1 : ∀ j u, txs[j]? = some u → W.cell? (ad.add j) = some u
  s2 : ∀ b, bd = some b → ∀ j u, wxs[j]? = some u → W.cell? (b.add j) = some u
  l1 : ∀ j u, txs[j]? = some u → (ad.add j).block < n0
  l2 : ∀ b, bd = some b → ∀ j u, wxs[j]? = some u → (b.add j).block < n0
theorem CpB.below {n0 : Nat} {vt vp : Value} {ad : Addr} {bd : Option Addr} {txs wxs : List Value} {W W' : World} (h : CpB n0 vt vp ad bd txs wxs W) (b : Below (n0 + 1) W W') : CpB n0 vt vp ad bd txs wxs W' :=
  ⟨(b.block _ (by omega)).trans h.hP, fun j u hu => (b.cell (p := ad.add j) (by have := h.l1 j u hu; omega)).trans (h.s1 j u hu), fun bb hb j u hu => (b.cell (p := bb.add j) (by have := h.l2 bb hb j u hu; omega)).trans (h.s2 bb hb j u hu), h.l1, h.l2⟩
theorem CpB.cells {n0 : Nat} {vt vp : Value} {ad : Addr} {bd : Option Addr} {txs wxs : List Value} {W : World} (h : CpB n0 vt vp ad bd txs wxs W) : W.cell? ⟨n0, 0, none⟩ = some vt ∧ W.cell? ⟨n0, 1, none⟩ = some vp := ⟨cell_blk h.hP 0, cell_blk h.hP 1⟩
/-- the answer is laid down -/
theorem dev_fin {w W : World} {n0 : Nat} (hR : W.heap[n0 + 1]? = some (.cells #[.slice none 0 0, .slice none 0 0] 27)) (a' b' : Value) {d : Dv} (r : DevRow W (n0 + 1 + 1) a' b' d) (bw : Below n0 w W) :
    ((W.setCell ⟨n0 + 1, 0, none⟩ a').setCell ⟨n0 + 1, 1, none⟩ b').heap[n0 + 1]? = some (.cells #[a', b'] 27 (0, 0)) ∧ DevRow ((W.setCell ⟨n0 + 1, 0, none⟩ a').setCell ⟨n0 + 1, 1, none⟩ b') n0 a' b' d ∧ Below n0 w ((W.setCell ⟨n0 + 1, 0, none⟩ a').setCell ⟨n0 + 1, 1, none⟩ b') :=
  ⟨put2d a' b' hR, ((r.low (by omega) _ _).low (by omega) _ _).mono (by omega), (bw.setCell (by show n0 ≤ n0 + 1; omega) _).setCell (by show n0 ≤ n0 + 1; omega) _⟩
theorem CpB.start (w : World) (vt vp : Value) (ad : Addr) (bd : Option Addr) (txs wxs : List Value) (s1 : ∀ j u, txs[j]? = some u → w.cell? (ad.add j) = some u) (s2 : ∀ b, bd = some b → ∀ j u, wxs[j]? = some u → w.cell? (b.add j) = some u) :
    CpB w.heap.size vt vp ad bd txs wxs ((w.alloc (.cells #[vt, vp] 27)).alloc (.cells #[.slice none 0 0, .slice none 0 0] 27)) := by
  have B1 := (below_lit w (.cells #[vt, vp] 27)).alloc (by simp) (.cells #[.slice none 0 0, .slice none 0 0] 27)
  exact ⟨heap_a2 _ _ _, fun j u hu => (B1.cell (p := ad.add j) (World.block_lt_of_cell? _ _ (s1 j u hu))).trans (s1 j u hu), fun bb hb j u hu => (B1.cell (p := bb.add j) (World.block_lt_of_cell? _ _ (s2 bb hb j u hu))).trans (s2 bb hb j u hu), fun j u hu => World.block_lt_of_cell? _ _ (s1 j u hu), fun bb hb j u hu => World.block_lt_of_cell? _ _ (s2 bb hb j u hu)⟩
theorem below_al1 {W0 w' : World} {B : Nat} (h : Below B W0 w') (hB : B ≤ W0.heap.size) (o : Obj) : Below B W0 (w'.alloc o) := h.alloc (Nat.le_trans hB h.size) o
theorem below_st {W0 w' : World} {B : Nat} (h : Below B W0 w') (o : Nat) (v : Value) : Below B W0 (w'.setCell ⟨B, o, none⟩ v) := h.setCell (Nat.le_refl _) v
theorem own_mono {w : World} {base base' size n : Nat} {e : TypeId} {v : Value} {xs : List Value} (h : w.ownsRow base e size v n xs) (hb : base' ≤ base) : w.ownsRow base' e size v n xs :=
  ⟨h.1, h.2.elim Or.inl fun ⟨g, cap, cur, hv, hg, r⟩ => Or.inr ⟨g, cap, cur, hv, Nat.le_trans hb hg, r⟩⟩
theorem heap_drw (x : World) : x.drew.heap = x.heap := rfl
theorem step_cp_txt {ops : Array Oper} {o : Oper} {a : Act} {w W0 : World} {K : Act → World → Prop} {Q : Exit → Act → World → Prop} {Z : Prop} {n0 : Nat} {vt vp : Value} {ad : Addr} {bd : Option Addr} {txs wxs : List Value} {ca : Nat}
    (cp : CpB n0 vt vp ad bd txs wxs w) (hb : Below (n0 + 1) W0 w) (hn : n0 + 1 ≤ W0.heap.size) (HLT : txs.length = 18 * 1) (HOT : ∀ u ∈ txs, u.oneCell' = true) (s x : Operand)
    (hgd : o.guard = none) (hop : o.op = Op.call { callee := Callee.builtin Builtin.append, args := #[s, x], argTypes := #[24, 24] })
    (g : Nat) (hs : a.eval s = .slice (some ⟨g, 0, none⟩) 0 0) (hx : a.eval x = .slice (some ad) 18 ca) (hg : w.heap[g]? = some (.cells #[] 9)) (hbg : W0.heap.size ≤ g)
    (hK : ∀ g' c' w', w'.ownsRow W0.heap.size 9 1 (.slice (some ⟨g', 0, none⟩) 18 c') 18 txs → Below (n0 + 1) W0 w' → Below w.heap.size w w' → K (a.put o.dst (.slice (some ⟨g', 0, none⟩) 18 c')) w') :
    if Region.wanted o (yielded ops a.tmps) = true then Oper.wp Try.prog o a w K Q else Z :=
  step_append_zero hgd s x 24 9 hop W0.heap.size 1 16 (.string ⟨#[]⟩) Try.underlying24 Try.infoTxt rfl (by decide) g hg hbg hs ad 18 ca txs hx HLT cp.s1 HOT (by decide) (by decide) hb.size fun g' c' w' r b => hK g' c' w' r (hb.trans (b.mono (Nat.le_trans hn hb.size))) b
theorem step_cp_wr {ops : Array Oper} {o : Oper} {a : Act} {w W0 : World} {K : Act → World → Prop} {Q : Exit → Act → World → Prop} {Z : Prop} {n0 m : Nat} {vt vp : Value} {ad bd : Addr} {txs wxs : List Value} {cb : Nat}
    (cp : CpB n0 vt vp ad (some bd) txs wxs w) (hb : Below (n0 + 1) W0 w) (hn : n0 + 1 ≤ W0.heap.size) (HLP : wxs.length = m * 2) (HOP : ∀ u ∈ wxs, u.oneCell' = true) (hm : m ≤ 40) (s x : Operand)
    (hgd : o.guard = none) (hop : o.op = Op.call { callee := Callee.builtin Builtin.append, args := #[s, x], argTypes := #[25, 25] })
    (g : Nat) (hs : a.eval s = .slice (some ⟨g, 0, none⟩) 0 0) (hx : a.eval x = .slice (some bd) m cb) (hg : w.heap[g]? = some (.cells #[] 35)) (hbg : W0.heap.size ≤ g)
    (hK : ∀ g' c' w', w'.ownsRow W0.heap.size 35 2 (.slice (some ⟨g', 0, none⟩) m c') m wxs → Below (n0 + 1) W0 w' → Below w.heap.size w w' → K (a.put o.dst (.slice (some ⟨g', 0, none⟩) m c')) w') :
    if Region.wanted o (yielded ops a.tmps) = true then Oper.wp Try.prog o a w K Q else Z :=
  step_append_zero hgd s x 25 35 hop W0.heap.size 2 24 (.agg #[.int .i64 0, .string ⟨#[]⟩]) Try.underlying25 Try.infoW rfl (by decide) g hg hbg hs bd m cb wxs hx HLP (cp.s2 bd rfl) HOP (by unfold maxLen; omega) (by omega) hb.size fun g' c' w' r b => hK g' c' w' r (hb.trans (b.mono (Nat.le_trans hn hb.size))) b
theorem step_cp_nil {ops : Array Oper} {o : Oper} {a : Act} {w W0 : World} {K : Act → World → Prop} {Q : Exit → Act → World → Prop} {Z : Prop} (s x : Operand)
    (hgd : o.guard = none) (hop : o.op = Op.call { callee := Callee.builtin Builtin.append, args := #[s, x], argTypes := #[25, 25] })
    (g : Nat) (hs : a.eval s = .slice (some ⟨g, 0, none⟩) 0 0) (hx : a.eval x = .slice none 0 0) (hg : w.heap[g]? = some (.cells #[] 35)) (hbg : W0.heap.size ≤ g)
    (hK : w.ownsRow W0.heap.size 35 2 (.slice (some ⟨g, 0, none⟩) 0 0) 0 [] → K (a.put o.dst (.slice (some ⟨g, 0, none⟩) 0 0)) w) :
    if Region.wanted o (yielded ops a.tmps) = true then Oper.wp Try.prog o a w K Q else Z :=
  step_append_none hgd s x 25 35 hop 2 24 (.agg #[.int .i64 0, .string ⟨#[]⟩]) Try.underlying25 Try.infoW W0.heap.size g hg hbg hs hx hK

set_option maxRecDepth 100000 in
set_option maxHeartbeats 4000000 in
theorem l8Copy_nil (ad : Addr) (ca : Nat) (bl : List ByteArray) (w : World) (h18 : bl.length = 18) (hac : ∀ j x, (strsV bl)[j]? = some x → w.cell? (ad.add j) = some x) :
    Calls Try.prog 50 #[.agg #[.slice (some ad) 18 ca, .slice none 0 0]] w fun e w' => ∃ a b, e = .returned (.agg #[a, b]) ∧ DevRow w' w.heap.size a b ⟨bl, []⟩ ∧ Below w.heap.size w w' := by
  have HTR : Hid (∀ wf a', wf.ownsRow (w.heap.size + 1 + 1) 9 1 a' 18 (strsV bl) → TxtRow wf (w.heap.size + 1 + 1) a' bl) := fun wf a' h => by unfold TxtRow; rw [h18]; exact h
  have HWR : Hid (∀ wf a', wf.ownsRow (w.heap.size + 1 + 1) 35 2 a' 0 [] → WrRow wf (w.heap.size + 1 + 1) a' []) := fun wf a' h => h
  have HLT : Hid ((strsV bl).length = 18 * 1) := by show _ = _; rw [strsV_length, h18]
  have HOT : Hid (∀ u ∈ strsV bl, u.oneCell' = true) := strsV_one bl
  have CP := CpB.start w (.slice (some ad) 18 ca) (.slice none 0 0) ad none (strsV bl) [] hac (fun b hb => by cases hb)
  have B1 := (below_lit w (.cells #[.slice (some ad) 18 ca, .slice none 0 0] 27)).alloc (by simp) (.cells #[.slice none 0 0, .slice none 0 0] 27)
  have HR : Hid (((w.alloc (.cells #[.slice (some ad) 18 ca, .slice none 0 0] 27)).alloc (.cells #[.slice none 0 0, .slice none 0 0] 27)).heap[w.heap.size + 1]? = some (.cells #[.slice none 0 0, .slice none 0 0] 27)) := heap_a2' _ _ _
  have S1 : ((w.alloc (.cells #[.slice (some ad) 18 ca, .slice none 0 0] 27)).alloc (.cells #[.slice none 0 0, .slice none 0 0] 27)).heap.size = w.heap.size + 1 + 1 := by simp
  clear hac
  generalize strsV bl = txs at *
  go_enter Try.func50, Try.ntmps50
  go_wp2
  generalize ((w.alloc (.cells #[.slice (some ad) 18 ca, .slice none 0 0] 27)).alloc (.cells #[.slice none 0 0, .slice none 0 0] 27)) = W0 at CP B1 S1 HR ⊢
  have HCP : Hid (∀ w', Below (w.heap.size + 1) W0 w' → CpB w.heap.size (.slice (some ad) 18 ca) (.slice none 0 0) ad none txs [] w') := fun w' b => CP.below b
  have HB0 : Below (w.heap.size + 1) W0 W0 := Below.refl _ _
  have HS1 : Hid (W0.heap.size = w.heap.size + 1 + 1) := S1
  have hn : w.heap.size + 1 ≤ W0.heap.size := by omega
  have hR0 : w.heap.size + 1 < W0.heap.size := by omega
  clear S1
  obtain ⟨c0, c1⟩ := CP.cells
  have HKEEP : Hid (∀ w', Below (w.heap.size + 1) W0 w' → (w'.cell? ⟨w.heap.size, 0, none⟩ = some (.slice (some ad) 18 ca) ∧ w'.cell? ⟨w.heap.size, 1, none⟩ = some (.slice none 0 0)) ∧ Below (w.heap.size + 1) W0 w') := fun w' b => ⟨(CP.below b).cells, b⟩
  clear CP
  go_region_held3 (fun w' => (w'.cell? ⟨w.heap.size, 0, none⟩ = some (.slice (some ad) 18 ca) ∧ w'.cell? ⟨w.heap.size, 1, none⟩ = some (.slice none 0 0)) ∧ Below (w.heap.size + 1) W0 w')
    ((refine HKEEP.out _ ?_; repeat (first | assumption | refine Below.drew ?_ | refine below_al1 ?_ hn _ | refine below_st ?_ _ _ | exact And.right (by assumption))))
    (first
      | (refine step_cp_txt (n0 := w.heap.size) (vt := .slice (some ad) 18 ca) (vp := .slice none 0 0) (ad := ad) (bd := none) (wxs := []) (ca := ca) (W0 := W0) ?_ ?_ hn HLT.out HOT.out (.tmp 3) (.tmp 5) ?_ ?_ (W0.heap.size) ?_ ?_ ?_ ?_ ?_; (refine HCP.out _ ?_; apply And.right; assumption); (apply And.right; assumption); rfl; rfl; rfl; rfl; (simp only [heap_drw]; first | exact heap_a1 _ _ | exact heap_a2 _ _ _); (exact Nat.le_refl _); intro g1 q1 w1 r1 s1 b1; have k1 := b1.block; (try simp only [heap_drw] at k1); have z1 := s1.size; have hR1 := (k1 (w.heap.size + 1) (by simp; omega)).trans (by first | exact ((MapKept.heap_alloc _ _).2 _ hR0).trans HR.out | exact ((MapKept.heap_alloc _ _).2 _ (by simp; omega)).trans (((MapKept.heap_alloc _ _).2 _ hR0).trans HR.out)); have hR1 : Hid _ := hR1; clear b1)
      | (refine step_cp_txt (n0 := w.heap.size) (vt := .slice (some ad) 18 ca) (vp := .slice none 0 0) (ad := ad) (bd := none) (wxs := []) (ca := ca) (W0 := W0) ?_ ?_ hn HLT.out HOT.out (.tmp 3) (.tmp 5) ?_ ?_ (W0.heap.size + 1) ?_ ?_ ?_ ?_ ?_; (refine HCP.out _ ?_; apply And.right; assumption); (apply And.right; assumption); rfl; rfl; rfl; rfl; (simp only [heap_drw]; first | exact heap_a2' _ _ _); (omega); intro g1 q1 w1 r1 s1 b1; have k1 := b1.block; (try simp only [heap_drw] at k1); have z1 := s1.size; have hR1 := (k1 (w.heap.size + 1) (by simp; omega)).trans (by first | exact ((MapKept.heap_alloc _ _).2 _ hR0).trans HR.out | exact ((MapKept.heap_alloc _ _).2 _ (by simp; omega)).trans (((MapKept.heap_alloc _ _).2 _ hR0).trans HR.out)); have hR1 : Hid _ := hR1; clear b1)
      | (refine step_cp_nil (W0 := W0) (.tmp 7) (.tmp 9) ?_ ?_ (W0.heap.size + 1) ?_ ?_ ?_ ?_ ?_; rfl; rfl; rfl; rfl; (first | exact (k1 _ (by simp <;> omega)).trans (heap_a2' _ _ _)); (omega); intro r2; have hR2 := hR1.out; have e0 := cell_blk hR2 0; have e1 := cell_blk hR2 1; have ef := fun i => unfrozen_blk hR2 i; (dsimp at e0 e1); have HR2 : Hid _ := hR2; clear hR2)
      | (refine step_cp_nil (W0 := W0) (.tmp 7) (.tmp 9) ?_ ?_ (W0.heap.size) ?_ ?_ ?_ ?_ ?_; rfl; rfl; rfl; rfl; (first | exact (k1 _ (by simp <;> omega)).trans (heap_a2 _ _ _)); (exact Nat.le_refl _); intro r2; have hR2 := hR1.out; have e0 := cell_blk hR2 0; have e1 := cell_blk hR2 1; have ef := fun i => unfrozen_blk hR2 i; (dsimp at e0 e1); have HR2 : Hid _ := hR2; clear hR2)
      | (refine step_cp_nil (W0 := W0) (.tmp 7) (.tmp 9) ?_ ?_ (w1.heap.size) ?_ ?_ ?_ ?_ ?_; rfl; rfl; rfl; rfl; (first | exact heap_a1 _ _); (exact z1); intro r2; have hR2 := ((MapKept.heap_alloc w1 (.cells #[] 35)).2 (w.heap.size + 1) (by omega)).trans hR1.out; have e0 := cell_blk hR2 0; have e1 := cell_blk hR2 1; have ef := fun i => unfrozen_blk hR2 i; (dsimp at e0 e1); have HR2 : Hid _ := hR2; clear hR2))
  all_goals (
    have rW := r2
    clear k1 e0 e1 ef
    first
      | (have rT := own_below r1 (below_lit w1 (.cells #[] 35))
         have bX := (below_lit w1 (.cells #[] 35))
         obtain ⟨h1, h2, h3⟩ := dev_fin HR2.out _ _ (devRow_of (d := ⟨bl, []⟩) (HTR.out _ _ (own_mono rT (by have := HS1.out; omega))) (HWR.out _ _ (own_mono rW (by have := HS1.out; omega)))) ((B1.trans (s1.mono (by omega))).trans (bX.mono (by have := B1.size; omega)))
         clear r1 r2
         go_wp2
         exact bodyPost_ret (results_dev Try.results50 _ _ (w.heap.size + 1) _ rfl rfl h1) rfl ⟨_, _, rfl, h2, h3⟩)
      | (have rT := r1
         obtain ⟨h1, h2, h3⟩ := dev_fin HR2.out _ _ (devRow_of (d := ⟨bl, []⟩) (HTR.out _ _ (own_mono rT (by have := HS1.out; omega))) (HWR.out _ _ (own_mono rW (by have := HS1.out; omega)))) (B1.trans (s1.mono (by omega)))
         clear r1 r2
         go_wp2
         exact bodyPost_ret (results_dev Try.results50 _ _ (w.heap.size + 1) _ rfl rfl h1) rfl ⟨_, _, rfl, h2, h3⟩))

set_option maxRecDepth 100000 in
set_option maxHeartbeats 4000000 in
theorem l8Copy_any (v : Value) (d : Dv) (w : World) (h18 : d.blocks.length = 18) (h40 : d.pend.length ≤ 40) (hv : DevAt w v d) :
    Calls Try.prog 50 #[v] w fun e w' => ∃ a b, e = .returned (.agg #[a, b]) ∧ DevRow w' w.heap.size a b d ∧ Below w.heap.size w w' := by
  obtain ⟨a, b, rfl, ha, hb⟩ := hv
  obtain ⟨aa, ca, rfl, hac, han⟩ := txt_src ha
  obtain ⟨bb, cb, rfl, hbc, hbn⟩ := wr_src hb
  obtain ⟨ad, rfl⟩ : ∃ ad, aa = some ad := by
    cases aa with
    | none => have := (han rfl).1; rw [this] at h18; simp at h18
    | some ad => exact ⟨ad, rfl⟩
  have hac := hac ad rfl
  rw [h18]
  cases bb with
  | none =>
    obtain ⟨hp, rfl⟩ := hbn rfl
    obtain ⟨bl, pn⟩ := d
    dsimp only at *
    subst hp
    exact l8Copy_nil ad ca bl w h18 hac
  | some bd =>
  clear hbn
  have HTR : Hid (∀ wf a', wf.ownsRow (w.heap.size + 1 + 1) 9 1 a' 18 (strsV d.blocks) → TxtRow wf (w.heap.size + 1 + 1) a' d.blocks) := fun wf a' h => by unfold TxtRow; rw [h18]; exact h
  have HWR : Hid (∀ wf a', wf.ownsRow (w.heap.size + 1 + 1) 35 2 a' d.pend.length (flatW d.pend) → WrRow wf (w.heap.size + 1 + 1) a' d.pend) := fun wf a' h => h
  have HLT : Hid ((strsV d.blocks).length = 18 * 1) := by show _ = _; rw [strsV_length, h18]
  have HLP : Hid ((flatW d.pend).length = d.pend.length * 2) := flatW_len d.pend
  have HOT : Hid (∀ u ∈ strsV d.blocks, u.oneCell' = true) := strsV_one d.blocks
  have HOP : Hid (∀ u ∈ flatW d.pend, u.oneCell' = true) := flatW_cell d.pend
  have CP := CpB.start w (.slice (some ad) 18 ca) (.slice (some bd) d.pend.length cb) ad (some bd) (strsV d.blocks) (flatW d.pend) hac hbc
  have B1 := (below_lit w (.cells #[.slice (some ad) 18 ca, .slice (some bd) d.pend.length cb] 27)).alloc (by simp) (.cells #[.slice none 0 0, .slice none 0 0] 27)
  have HR : Hid (((w.alloc (.cells #[.slice (some ad) 18 ca, .slice (some bd) d.pend.length cb] 27)).alloc (.cells #[.slice none 0 0, .slice none 0 0] 27)).heap[w.heap.size + 1]? = some (.cells #[.slice none 0 0, .slice none 0 0] 27)) := heap_a2' _ _ _
  have S1 : ((w.alloc (.cells #[.slice (some ad) 18 ca, .slice (some bd) d.pend.length cb] 27)).alloc (.cells #[.slice none 0 0, .slice none 0 0] 27)).heap.size = w.heap.size + 1 + 1 := by simp
  clear ha hb han hac hbc
  generalize strsV d.blocks = txs at *
  generalize flatW d.pend = wxs at *
  generalize d.pend.length = m at *
  have IT := Try.infoTxt
  have IW := Try.infoW
  go_enter Try.func50, Try.ntmps50
  go_wp2
  generalize ((w.alloc (.cells #[.slice (some ad) 18 ca, .slice (some bd) m cb] 27)).alloc (.cells #[.slice none 0 0, .slice none 0 0] 27)) = W0 at CP B1 S1 HR ⊢
  have HCP : Hid (∀ w', Below (w.heap.size + 1) W0 w' → CpB w.heap.size (.slice (some ad) 18 ca) (.slice (some bd) m cb) ad (some bd) txs wxs w') := fun w' b => CP.below b
  have HB0 : Below (w.heap.size + 1) W0 W0 := Below.refl _ _
  have HS1 : Hid (W0.heap.size = w.heap.size + 1 + 1) := S1
  have hn : w.heap.size + 1 ≤ W0.heap.size := by omega
  have hR0 : w.heap.size + 1 < W0.heap.size := by omega
  clear S1
  obtain ⟨c0, c1⟩ := CP.cells
  have HKEEP : Hid (∀ w', Below (w.heap.size + 1) W0 w' → (w'.cell? ⟨w.heap.size, 0, none⟩ = some (.slice (some ad) 18 ca) ∧ w'.cell? ⟨w.heap.size, 1, none⟩ = some (.slice (some bd) m cb)) ∧ Below (w.heap.size + 1) W0 w') := fun w' b => ⟨(CP.below b).cells, b⟩
  clear CP
  go_region_held3 (fun w' => (w'.cell? ⟨w.heap.size, 0, none⟩ = some (.slice (some ad) 18 ca) ∧ w'.cell? ⟨w.heap.size, 1, none⟩ = some (.slice (some bd) m cb)) ∧ Below (w.heap.size + 1) W0 w')
    ((refine HKEEP.out _ ?_; repeat (first | assumption | refine Below.drew ?_ | refine below_al1 ?_ hn _ | refine below_st ?_ _ _ | exact And.right (by assumption))))
    (first
      | (refine step_cp_txt (n0 := w.heap.size) (vt := .slice (some ad) 18 ca) (vp := .slice (some bd) m cb) (ad := ad) (bd := some bd) (wxs := wxs) (ca := ca) (W0 := W0) ?_ ?_ hn HLT.out HOT.out (.tmp 3) (.tmp 5) ?_ ?_ (W0.heap.size) ?_ ?_ ?_ ?_ ?_; (refine HCP.out _ ?_; apply And.right; assumption); (apply And.right; assumption); rfl; rfl; rfl; rfl; (simp only [heap_drw]; first | exact heap_a1 _ _ | exact heap_a2 _ _ _); (exact Nat.le_refl _); intro g1 q1 w1 r1 s1 b1; have k1 := b1.block; (try simp only [heap_drw] at k1); have z1 := s1.size; have hR1 := (k1 (w.heap.size + 1) (by simp; omega)).trans (by first | exact ((MapKept.heap_alloc _ _).2 _ hR0).trans HR.out | exact ((MapKept.heap_alloc _ _).2 _ (by simp; omega)).trans (((MapKept.heap_alloc _ _).2 _ hR0).trans HR.out)); have hR1 : Hid _ := hR1; clear b1)
      | (refine step_cp_txt (n0 := w.heap.size) (vt := .slice (some ad) 18 ca) (vp := .slice (some bd) m cb) (ad := ad) (bd := some bd) (wxs := wxs) (ca := ca) (W0 := W0) ?_ ?_ hn HLT.out HOT.out (.tmp 3) (.tmp 5) ?_ ?_ (W0.heap.size + 1) ?_ ?_ ?_ ?_ ?_; (refine HCP.out _ ?_; apply And.right; assumption); (apply And.right; assumption); rfl; rfl; rfl; rfl; (simp only [heap_drw]; first | exact heap_a2' _ _ _); (omega); intro g1 q1 w1 r1 s1 b1; have k1 := b1.block; (try simp only [heap_drw] at k1); have z1 := s1.size; have hR1 := (k1 (w.heap.size + 1) (by simp; omega)).trans (by first | exact ((MapKept.heap_alloc _ _).2 _ hR0).trans HR.out | exact ((MapKept.heap_alloc _ _).2 _ (by simp; omega)).trans (((MapKept.heap_alloc _ _).2 _ hR0).trans HR.out)); have hR1 : Hid _ := hR1; clear b1)
      | (refine step_cp_wr (n0 := w.heap.size) (vt := .slice (some ad) 18 ca) (vp := .slice (some bd) m cb) (ad := ad) (bd := bd) (txs := txs) (cb := cb) (W0 := W0) ?_ ?_ hn HLP.out HOP.out h40 (.tmp 7) (.tmp 9) ?_ ?_ (W0.heap.size + 1) ?_ ?_ ?_ ?_ ?_; (refine HCP.out _ ?_; apply And.right; assumption); (apply And.right; assumption); rfl; rfl; rfl; rfl; (first | exact (k1 _ (by simp <;> omega)).trans (heap_a2' _ _ _)); (omega); intro g2 q2 w2 r2 s2 b2; have z2 := s2.size; have hR2 := (b2.block (w.heap.size + 1) (by (try simp); omega)).trans (by first | exact hR1.out | exact ((MapKept.heap_alloc _ _).2 _ (by omega)).trans hR1.out); have e0 := cell_blk hR2 0; have e1 := cell_blk hR2 1; have ef := fun i => unfrozen_blk hR2 i; (dsimp at e0 e1); have HR2 : Hid _ := hR2; clear hR2)
      | (refine step_cp_wr (n0 := w.heap.size) (vt := .slice (some ad) 18 ca) (vp := .slice (some bd) m cb) (ad := ad) (bd := bd) (txs := txs) (cb := cb) (W0 := W0) ?_ ?_ hn HLP.out HOP.out h40 (.tmp 7) (.tmp 9) ?_ ?_ (W0.heap.size) ?_ ?_ ?_ ?_ ?_; (refine HCP.out _ ?_; apply And.right; assumption); (apply And.right; assumption); rfl; rfl; rfl; rfl; (first | exact (k1 _ (by simp <;> omega)).trans (heap_a2 _ _ _)); (exact Nat.le_refl _); intro g2 q2 w2 r2 s2 b2; have z2 := s2.size; have hR2 := (b2.block (w.heap.size + 1) (by (try simp); omega)).trans (by first | exact hR1.out | exact ((MapKept.heap_alloc _ _).2 _ (by omega)).trans hR1.out); have e0 := cell_blk hR2 0; have e1 := cell_blk hR2 1; have ef := fun i => unfrozen_blk hR2 i; (dsimp at e0 e1); have HR2 : Hid _ := hR2; clear hR2)
      | (refine step_cp_wr (n0 := w.heap.size) (vt := .slice (some ad) 18 ca) (vp := .slice (some bd) m cb) (ad := ad) (bd := bd) (txs := txs) (cb := cb) (W0 := W0) ?_ ?_ hn HLP.out HOP.out h40 (.tmp 7) (.tmp 9) ?_ ?_ (w1.heap.size) ?_ ?_ ?_ ?_ ?_; (refine HCP.out _ ?_; apply And.right; assumption); (apply And.right; assumption); rfl; rfl; rfl; rfl; (first | exact heap_a1 _ _); (exact z1); intro g2 q2 w2 r2 s2 b2; have z2 := s2.size; have hR2 := (b2.block (w.heap.size + 1) (by (try simp); omega)).trans (by first | exact hR1.out | exact ((MapKept.heap_alloc _ _).2 _ (by omega)).trans hR1.out); have e0 := cell_blk hR2 0; have e1 := cell_blk hR2 1; have ef := fun i => unfrozen_blk hR2 i; (dsimp at e0 e1); have HR2 : Hid _ := hR2; clear hR2))
  all_goals (
    have rT : w2.ownsRow W0.heap.size 9 1 (.slice (some ⟨g1, 0, none⟩) 18 q1) 18 txs := by first | exact own_below r1 b2 | exact own_below (own_below r1 (below_lit _ _)) b2
    have rW := r2
    obtain ⟨h1, h2, h3⟩ := dev_fin HR2.out _ _ (devRow_of (HTR.out _ _ (own_mono rT (by have := HS1.out; omega))) (HWR.out _ _ (own_mono rW (by have := HS1.out; omega)))) (B1.trans (s2.mono (by omega)))
    clear e0 e1 ef k1 r1 r2 b2
    go_wp2
    exact bodyPost_ret (results_dev Try.results50 _ _ (w.heap.size + 1) _ rfl rfl h1) rfl ⟨_, _, rfl, h2, h3⟩)

end Go.Proofs.Ytpmdhoiodbjojaa
