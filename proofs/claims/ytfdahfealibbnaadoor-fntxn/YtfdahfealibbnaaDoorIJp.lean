/- Journals, impl: ShowTxn. -/
import Derived.Test.YtfdahfealibbnaaDoorRows
import Derived.Test.YtfdahfealibbnaaDoorIJo
import Derived.Deep.RegionLaw
import Derived.Deep.Cut
import Derived.Deep.CutRange
namespace Go.Proofs.YtfdahfealibbnaaDoor
open Go.RowKit Go.Sort

theorem bel_via {W X Y : World} (h : Below W.heap.size W X) (b : Below X.heap.size X Y) : Below W.heap.size W Y := h.trans (b.mono h.size)
theorem bel_al {W X : World} (h : Below W.heap.size W X) (o : Obj) : Below W.heap.size W (X.alloc o) := h.alloc h.size o
/-- the journal's new block, behind the calls -/
structure JouNew (W X Y : World) : Prop where
  hX : Below W.heap.size W X
  hY : Below (X.heap.size + 1) (X.alloc (.cells #[.string ⟨#[]⟩] 52)) Y
theorem JouNew.start {W X : World} (h : Below W.heap.size W X) : JouNew W X (X.alloc (.cells #[.string ⟨#[]⟩] 52)) := ⟨h, Below.refl _ _⟩
theorem JouNew.next {W X Y Y' : World} (h : JouNew W X Y) (b : Below Y.heap.size Y Y') : JouNew W X Y' := ⟨h.hX, h.hY.trans (b.mono (by have := h.hY.size; simp at this; omega))⟩
theorem JouNew.bel {W X Y : World} (h : JouNew W X Y) : Below W.heap.size W Y := by
  have h1 := bel_al h.hX (.cells #[.string ⟨#[]⟩] 52)
  exact h1.trans (h.hY.mono (by have := h.hX.size; omega))
theorem JouNew.blk {W X Y : World} (h : JouNew W X Y) : Y.heap[X.heap.size]? = some (.cells #[.string ⟨#[]⟩] 52) := (h.hY.block _ (by omega)).trans (MapKept.heap_alloc X _).1
theorem JouNew.cells {W X Y : World} (h : JouNew W X Y) : Y.cell? ⟨X.heap.size, 0, none⟩ = some (.string ⟨#[]⟩) ∧ Y.frozen? ⟨X.heap.size, 0, none⟩ = false := ⟨Joins.cell_of_block h.blk 0, Joins.unfrozen_of_block h.blk 0⟩
theorem JouNew.fin {W X Y : World} (h : JouNew W X Y) (s : ByteArray) : JouSt (Y.setCell ⟨X.heap.size, 0, none⟩ (.string s)) X.heap.size s ∧ W.heap.size ≤ X.heap.size ∧ Below W.heap.size W (Y.setCell ⟨X.heap.size, 0, none⟩ (.string s)) :=
  ⟨Joins.block_setCell (i := 0) h.blk _, h.hX.size, h.bel.setCell h.hX.size _⟩

theorem jou_alloc {W X : World} (h : Below W.heap.size W X) (s : ByteArray) : JouSt (X.alloc (.cells #[.string s] 52)) X.heap.size s ∧ W.heap.size ≤ X.heap.size ∧ Below W.heap.size W (X.alloc (.cells #[.string s] 52)) := ⟨(MapKept.heap_alloc X _).1, h.size, bel_al h _⟩

set_option maxRecDepth 100000 in
set_option maxHeartbeats 4000000 in
theorem iShowTxn (v : Value) (t : Tx) (w : World) (hl : t.outs.length ≤ 9223372036854775807) (hC : CrcTab w) (hv : TxnAt w v t) :
    Calls Tryd.prog 9 #[v] w fun e w' => e = .returned (.string (showN t)) ∧ Below w.heap.size w w' := by
  have HOK := fun w' (b : Below w.heap.size w w') => txnOk_any v t w' hl (hv.below b)
  obtain ⟨s, rfl, hs⟩ := hv
  have HS : ∀ w', Below w.heap.size w w' → WrsAt w' s t.outs := fun w' b => hs.below b
  obtain ⟨a, ca, rfl, -, -⟩ := hs
  cases htx : txnB t with
  | false =>
    have hr : Hid (showN t = ⟨#[]⟩) := showN_no htx
    rw [htx] at HOK
    generalize showN t = r at hr ⊢
    clear HS
    generalize t.seq = sq at *
    generalize t.outs.length = n at *
    have B0 := below_lit w (.cells #[.int .i64 sq, .slice a n ca] 29)
    have H1 := HOK _ B0
    have S0 : (w.alloc (.cells #[.int .i64 sq, .slice a n ca] 29)).heap.size = w.heap.size + 1 := by simp
    rw [S0] at H1
    go_enter Tryd.func9, Tryd.ntmps9
    go_wp2_with fail
    refine H1.mono ?_
    rintro e w1 ⟨rfl, b1⟩
    rw [← S0] at b1
    go_wp2
    go_ret
    exact ⟨by rw [hr.out]; rfl, B0.trans (b1.mono (by omega))⟩
  | true =>
    rw [htx] at HOK
    obtain ⟨h1, h2, h3⟩ := txnB_parts htx
    have hx := ris_at _ _ h3
    have hT0 : Hid ((⟨#[116]⟩ : ByteArray) ++ varT t.seq ++ varT t.outs.length = thdT t) := rfl
    have hts := thdT_size t
    have HPJ : Hid (∀ w' b, Below w.heap.size w w' → JouSt w' b (thdT t) → Calls Tryd.prog 28 #[.iface 54 (.pointer (some ⟨b, 0, none⟩)), .slice a t.outs.length ca] w' fun e w'' => e = .returned (.tuple #[]) ∧ JouSt w'' b (bodyT t) ∧ w'.grownBy w'' (some b)) := fun w' b hb hj => putJou_any b (thdT t) _ t.outs w' (by omega) h2.2 (fun x hx' => (hx x hx').2.2) hj (HS w' hb)
    have hbs : (bodyT t).size ≤ 8000 := by rw [← txT_all]; exact txT_size t (fun x hx' => (hx x hx').2.2) h2.2 _
    have HWS : Hid (∀ w', Below w.heap.size w w' → Calls Tryd.prog 29 #[.string (bodyT t)] w' fun e w'' => e = .returned (.string (sumT (bodyT t))) ∧ Below w'.heap.size w' w'') := fun w' b => withSum_any (bodyT t) w' (by omega) (hC.below b)
    have HE : Hid (showN t = cutT (sumT (bodyT t))) := showN_yes htx
    have HTL : ∀ (s : ByteArray) (w' : World), Calls Tryd.prog 30 #[.string s] w' fun e w'' => e = .returned (.bool (decide (4000 < s.size))) ∧ w' = w'' := fit_one
    obtain ⟨r, HR⟩ : ∃ r, Hid (r = showN t) := ⟨_, rfl⟩
    rw [← HR.out] at HE ⊢
    generalize sumT (bodyT t) = st at HWS HE
    generalize bodyT t = bt at HPJ HWS hbs
    generalize thdT t = th at hT0 HPJ hts
    clear htx h3 hx HS HR
    generalize t.seq = sq at *
    generalize t.outs.length = n at *
    have B0 := below_lit w (.cells #[.int .i64 sq, .slice a n ca] 29)
    have S0 : (w.alloc (.cells #[.int .i64 sq, .slice a n ca] 29)).heap.size = w.heap.size + 1 := by simp
    have HB0 : Hid ((w.alloc (.cells #[.int .i64 sq, .slice a n ca] 29)).heap[w.heap.size]? = some (.cells #[.int .i64 sq, .slice a n ca] 29)) := (MapKept.heap_alloc w _).1
    have H1 := HOK _ B0
    rw [S0] at H1
    go_enter Tryd.func9, Tryd.ntmps9
    go_wp2_with fail
    refine H1.mono ?_
    rintro e W ⟨rfl, b1⟩
    rw [← S0] at b1
    have HB1 : Hid (W.heap[w.heap.size]? = some (.cells #[.int .i64 sq, .slice a n ca] 29)) := (b1.block _ (by omega)).trans HB0.out
    have BW : Below w.heap.size w W := B0.trans (b1.mono (by omega))
    have HK : Hid (∀ w', Below W.heap.size W w' → w'.cell? ⟨w.heap.size, 0, none⟩ = some (.int .i64 sq) ∧ w'.cell? ⟨w.heap.size, 1, none⟩ = some (.slice a n ca)) := fun w' b => blk2 ((b.block _ (lt_of_block HB1.out)).trans HB1.out)
    obtain ⟨c0, c1⟩ := HK.out W (Below.refl _ _)
    have z1 := varT_size sq
    have z2 := varT_size n
    have q1 : ¬ 9223372036854775807 < 1 + (varT sq).size := by omega
    have q2 : ¬ 9223372036854775807 < 1 + (varT sq).size + (varT n).size := by omega
    have hw0 : w.heap.size < W.heap.size := lt_of_block HB1.out
    have hn0 : ¬ w.heap.size = W.heap.size := by omega
    have hn0' : ¬ W.heap.size = w.heap.size := by omega
    clear B0 S0 HB0 H1 HOK b1
    have bd0 : Below W.heap.size W W.drew := (Below.refl W.heap.size W).drew
    obtain ⟨e0, e1⟩ := HK.out _ (bel_al bd0 (.cells #[.string ⟨#[]⟩] 52))
    go_wp2
    go_cut [3] from 8 to 17 (fun jv wx => ∃ b, jv = .pointer (some ⟨b, 0, none⟩) ∧ Hid (JouSt wx b th ∧ W.heap.size ≤ b ∧ Below W.heap.size W wx))
    case first =>
      go_region_law
        (first
        | (have hbb := jn1; go_simp; go_at_call 27; refine (iVarT (n : Int) _).mono ?_; rintro e w2 ⟨rfl, b2⟩; have jn2 := jn1.next b2; obtain ⟨c0, c1⟩ := HK.out _ jn2.bel; have f0 : w2.cell? ⟨W.heap.size, 0, none⟩ = some (.string ⟨#[]⟩) := jn2.cells.1; have f1 : w2.frozen? ⟨W.heap.size, 0, none⟩ = false := jn2.cells.2; dsimp only)
        | (have hbb := b1'; go_simp; go_at_call 27; refine (iVarT (n : Int) _).mono ?_; rintro e w2 ⟨rfl, b2⟩; (first | (have jn2 := (JouNew.start b1').next b2; obtain ⟨c0, c1⟩ := HK.out _ jn2.bel; obtain ⟨f0, f1⟩ := jn2.cells) | (have b2' := bel_via b1' b2; obtain ⟨c0, c1⟩ := HK.out _ b2'; have jn2 := JouNew.start b2')); dsimp only)
        | (go_simp; go_at_call 27; refine (iVarT sq _).mono ?_; rintro e w1 ⟨rfl, b1⟩; (first | (have jn1 := (JouNew.start bd0).next b1; obtain ⟨c0, c1⟩ := HK.out _ jn1.bel) | (have b1' := bel_via bd0 b1; obtain ⟨c0, c1⟩ := HK.out _ b1'; obtain ⟨e0, e1⟩ := HK.out _ (bel_al b1' (.cells #[.string ⟨#[]⟩] 52)))); dsimp only))
      all_goals (try go_wp2)
      all_goals go_meet
      all_goals (
        rw [hT0.out]
        first | exact ⟨_, rfl, jn2.fin th⟩ | exact ⟨_, rfl, jou_alloc b2' th⟩)
    case rest =>
      obtain ⟨b, rfl, HJ⟩ := hcut
      obtain ⟨hj, hb, bc⟩ := HJ.out
      have BC : Below w.heap.size w wc := BW.trans (bc.mono BW.size)
      obtain ⟨x0, x1⟩ := HK.out wc bc
      have H2 := HPJ.out wc b BC hj
      have hbn : w.heap.size < b := by omega
      clear HK HPJ e0 e1 c0 c1 bd0 hj
      go_wp2_with fail
      refine H2.mono ?_
      rintro e w3 ⟨rfl, hj3, g3⟩
      have B3 : Below w.heap.size w w3 := BC.grown g3 BC.size (fun q hq => by cases hq; omega)
      have y0 : w3.cell? ⟨b, 0, none⟩ = some (.string bt) := Joins.cell_of_block hj3 0
      have H3 := HWS.out w3 B3
      clear H2 x0 x1
      go_wp2_with fail
      refine H3.mono ?_
      rintro e w4 ⟨rfl, b4⟩
      have H4 := HTL st w4
      by_cases hbig : 4000 < st.size
      · have hr : Hid (r = ⟨#[]⟩) := by show _ = _; rw [HE.out]; unfold cutT; rw [if_pos hbig]
        rw [decide_eq_true hbig] at H4
        clear HE
        go_wp2_with (go_at_call 30; refine H4.mono ?_; rintro e w5 ⟨rfl, rfl⟩)
        go_ret
        exact ⟨by rw [hr.out]; rfl, B3.trans (b4.mono B3.size)⟩
      · have hr : Hid (r = st) := by show _ = _; rw [HE.out]; unfold cutT; rw [if_neg hbig]
        rw [decide_eq_false hbig] at H4
        clear HE
        go_wp2_with (go_at_call 30; refine H4.mono ?_; rintro e w5 ⟨rfl, rfl⟩)
        go_ret
        exact ⟨by rw [hr.out]; rfl, B3.trans (b4.mono B3.size)⟩

end Go.Proofs.YtfdahfealibbnaaDoor
