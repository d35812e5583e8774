/- Signs: the source of parts: its table is made when a sign first needs it; impl.Parts at every int: its contract. -/
import Derived.Test.YtkgnlamlmnhleaaDoorRows
import Derived.Test.YtkgnlamlmnhleaaDoorIPar
namespace Go.Proofs.YtkgnlamlmnhleaaDoor
open Go.RowKit

/-- the source of parts lies at B: it has no table yet, or the whole one -/
def SrcAt (B : Nat) (w : World) : Prop :=
  ∃ mo, w.heap[B]? = some (.cells #[.map mo] 65 (0, 0)) ∧ (mo = none ∨ ∃ g L, mo = some g ∧ MapIs g L w ∧ ∀ j, j ∈ L ↔ j < 75)
theorem MapIs.lt {g : Nat} {L : List Nat} {w : World} (h : MapIs g L w) : g < w.heap.size := by
  obtain ⟨es, clk, hb, _⟩ := h
  exact lt_of_block hb
theorem MapIs.kept {g : Nat} {L : List Nat} {w w' : World} (h : MapIs g L w) (e : w'.heap[g]? = w.heap[g]?) : MapIs g L w' := by
  obtain ⟨es, clk, hb, hes⟩ := h
  exact ⟨es, clk, e.trans hb, hes⟩
theorem SrcAt.below {B : Nat} {w w' : World} (h : SrcAt B w) (b : Below w.heap.size w w') : SrcAt B w' := by
  obtain ⟨mo, hb, hm⟩ := h
  refine ⟨mo, (b.block B (lt_of_block hb)).trans hb, ?_⟩
  rcases hm with h | ⟨g, L, h1, h2, h3⟩
  · exact .inl h
  · exact .inr ⟨g, L, h1, h2.kept (b.block g h2.lt), h3⟩
theorem SrcAt.lt {B : Nat} {w : World} (h : SrcAt B w) : B < w.heap.size := by
  obtain ⟨mo, hb, _⟩ := h
  exact lt_of_block hb

/-- the row is laid in its own place, and answered -/
theorem rowOf_end (B : Nat) (w w2 : World) (p0 p1 : Int) (hlt : B < w.heap.size) (hR : w2.heap[w.heap.size]? = some (.cells #[.int .i64 0, .int .i64 0] 83 (0, 0))) (hs : SrcAt B w2) (hg : w.grownBy w2 (some B)) :
    ((w2.setCell ⟨w.heap.size, 0, none⟩ (.int .i64 p0)).setCell ⟨w.heap.size, 1, none⟩ (.int .i64 p1)).heap[w.heap.size]? = some (.cells #[.int .i64 p0, .int .i64 p1] 83 (0, 0)) ∧
    SrcAt B ((w2.setCell ⟨w.heap.size, 0, none⟩ (.int .i64 p0)).setCell ⟨w.heap.size, 1, none⟩ (.int .i64 p1)) ∧ w.grownBy ((w2.setCell ⟨w.heap.size, 0, none⟩ (.int .i64 p0)).setCell ⟨w.heap.size, 1, none⟩ (.int .i64 p1)) (some B) := by
  have hk : ∀ k, k ≠ w.heap.size → ((w2.setCell ⟨w.heap.size, 0, none⟩ (.int .i64 p0)).setCell ⟨w.heap.size, 1, none⟩ (.int .i64 p1)).heap[k]? = w2.heap[k]? := fun k h =>
    (Below.heap_setCell _ _ _ _ h).trans (Below.heap_setCell _ _ _ _ h)
  obtain ⟨mo, hb, hm⟩ := hs
  refine ⟨heap_setCell_same _ _ 1 _ _ _ (heap_setCell_same _ _ 0 _ _ _ hR), ⟨mo, (hk B (by omega)).trans hb, ?_⟩, ⟨hg.os, hg.tape, hg.output, by simpa [World.setCell] using hg.size, fun k h1 h2 => (hk k (by omega)).trans (hg.block k h1 h2)⟩⟩
  rcases hm with h | ⟨g, L, h1, h2, h3⟩
  · exact .inl h
  · refine .inr ⟨g, L, h1, h2.kept (hk g ?_), h3⟩
    intro e
    obtain ⟨es, clk, hmb, _⟩ := h2
    rw [e, hR] at hmb
    cases hmb

set_option maxRecDepth 100000 in
set_option maxHeartbeats 2000000 in
theorem rowOf_any (B : Nat) (c p0 p1 : Int) (h0 : Hid ((pFind c pTab).1 = p0)) (h1 : Hid ((pFind c pTab).2 = p1)) (w : World) (hs : SrcAt B w) :
    Calls Tryd.prog 55 #[.pointer (some ⟨B, 0, none⟩), .int .i64 c] w fun e w' => e = .returned (.agg #[.int .i64 p0, .int .i64 p1]) ∧ SrcAt B w' ∧ w.grownBy w' (some B) := by
  have HT : ∀ g L w' (hM : MapIs g L w') (hL : ∀ j, j ∈ L ↔ j < 75), (Instr.lookup 63 (.map (some g)) (.agg #[.int .i64 c]) false).run Tryd.prog w' = .ok (.agg #[.int .i64 p0, .int .i64 p1]) w' := fun g L w' hM hL => by
    rw [← h0.out, ← h1.out]; exact hM.lookup hL c
  clear h0 h1
  obtain ⟨mo, hB, hm⟩ := hs
  have hlt := lt_of_block hB
  have HA : ∀ o, (w.alloc o).heap[B]? = some (.cells #[.map mo] 65 (0, 0)) := fun o => (Below.heap_alloc _ _ _ hlt).trans hB
  have hc0 : ∀ o, (w.alloc o).cell? ⟨B, 0, none⟩ = some (.map mo) := fun o => cell_of_row _ B 0 _ _ (0, 0) (HA o)
  have hE0 : ∀ w, Sem.run Tryd.prog (binOp BinOp.eql 63 (.map none) (.map none)) w = .ok (.bool true) w := fun w => by kernel_rfl
  have hE1 : ∀ g w, Sem.run Tryd.prog (binOp BinOp.eql 63 (.map (some g)) (.map none)) w = .ok (.bool false) w := fun g w => by kernel_rfl
  rcases hm with rfl | ⟨g, L, rfl, hM, hL⟩
  · go_enter Tryd.func55, Tryd.ntmps55
    go_wp2_with fail
    refine (partTable_any _).mono ?_
    rintro e w1 ⟨rfl, ⟨L, hM, hL⟩, hb1⟩
    rw [hs_alloc] at hM hb1 ⊢
    have hB1 : w1.heap[B]? = some (.cells #[.map none] 65 (0, 0)) := (hb1.block B (by omega)).trans (HA _)
    have hR1 : w1.heap[w.heap.size]? = some (.cells #[.int .i64 0, .int .i64 0] 83 (0, 0)) := (hb1.block _ (by omega)).trans (by show (w.heap.push _)[w.heap.size]? = _; simp)
    have hs1 := hb1.size
    rw [hs_alloc] at hs1
    have hg1 : w.grownBy w1 (some B) := ⟨hb1.os, hb1.tape, hb1.output, by omega, fun k hk _ => (hb1.block k (by omega)).trans (Below.heap_alloc _ _ _ hk)⟩
    have hM2 : MapIs (w.heap.size + 1) L (w1.setCell ⟨B, 0, none⟩ (.map (some (w.heap.size + 1)))) := hM.kept (Below.heap_setCell _ _ _ _ (by show w.heap.size + 1 ≠ B; omega))
    have hB2 : (w1.setCell ⟨B, 0, none⟩ (.map (some (w.heap.size + 1)))).heap[B]? = some (.cells #[.map (some (w.heap.size + 1))] 65 (0, 0)) := heap_setCell_same w1 B 0 _ _ _ hB1
    have hR2 : (w1.setCell ⟨B, 0, none⟩ (.map (some (w.heap.size + 1)))).heap[w.heap.size]? = some (.cells #[.int .i64 0, .int .i64 0] 83 (0, 0)) := (Below.heap_setCell _ _ _ _ (by show w.heap.size ≠ B; omega)).trans hR1
    have hg2 : w.grownBy (w1.setCell ⟨B, 0, none⟩ (.map (some (w.heap.size + 1)))) (some B) := gbi_trans hg1 (gbi_set w1 B 0 _)
    have c1 := cell_of_row w1 B 0 _ _ (0, 0) hB1
    have f1 := frozen_of_row w1 B 0 _ _ hB1
    have hlk := HT _ _ _ hM2 hL
    have c2 := cell_of_row _ B 0 _ _ (0, 0) hB2
    obtain ⟨w2, HW2⟩ : ∃ w2, Hid (w1.setCell ⟨B, 0, none⟩ (.map (some (w.heap.size + 1))) = w2) := ⟨_, rfl⟩
    have hst : ∀ v, v = Value.map (some (w.heap.size + 1)) → w1.setCell ⟨B, 0, none⟩ v = w2 := fun v hv => by rw [hv]; exact HW2.out
    have hst := hst _ rfl
    rw [HW2.out] at hM2 hB2 hR2 hg2 hlk c2
    have d0 := cell_of_row w2 _ 0 _ _ (0, 0) hR2
    have d1 := cell_of_row w2 _ 1 _ _ (0, 0) hR2
    have g0 := frozen_of_row w2 _ 0 _ _ hR2
    have g1 := frozen_of_row w2 _ 1 _ _ hR2
    have HS : Hid (SrcAt B w2) := ⟨_, hB2, .inr ⟨_, L, rfl, hM2, hL⟩⟩
    have HG : Hid (w.grownBy w2 (some B)) := hg2
    have HR : Hid (w2.heap[w.heap.size]? = _) := hR2
    clear hM hM2 hB1 hB2 hR1 hR2 hg1 hg2 hb1 HT hc0 HA hB
    go_wp2
    obtain ⟨he, hs3, hg3⟩ := rowOf_end B w w2 p0 p1 hlt HR.out HS.out HG.out
    (try simp only [Exit.inBlock, Exit.then])
    exact bodyPost_ret (results_cell_row rfl _ _ w.heap.size 83 #[.int .i64 p0, .int .i64 p1] (0, 0) _ rfl he Tryd.underlying83 rfl (by kernel_rfl)) rfl ⟨rfl, hs3, hg3⟩
  · go_enter Tryd.func55, Tryd.ntmps55
    have hM1 : ∀ o, MapIs g L (w.alloc o) := fun o => hM.kept (Below.heap_alloc _ _ _ hM.lt)
    have hlk := fun o => HT g L _ (hM1 o) hL
    have HS : Hid (∀ o, SrcAt B (w.alloc o)) := fun o => ⟨_, HA o, .inr ⟨_, L, rfl, hM1 o, hL⟩⟩
    clear hM1 hM HT hB
    go_wp2
    (try simp only [Exit.inBlock, Exit.then])
    exact bodyPost_ret (results_cell_row rfl _ _ w.heap.size 83 #[.int .i64 p0, .int .i64 p1] (0, 0) _ rfl (heap_alloc_new _ _) Tryd.underlying83 rfl (by kernel_rfl)) rfl ⟨rfl, HS.out _, ⟨rfl, rfl, rfl, by simp, fun k hk _ => Below.heap_alloc _ _ _ hk⟩⟩

set_option maxRecDepth 100000 in
set_option maxHeartbeats 2000000 in
theorem partsOf_any (B : Nat) (c : Int) (w : World) (hs : SrcAt B w) :
    Calls Tryd.prog 40 #[.pointer (some ⟨B, 0, none⟩), .int .i64 c] w fun e w' => ∃ v, e = .returned v ∧ IntRow w' w.heap.size v (partsN c) ∧ SrcAt B w' ∧ w.grownBy w' (some B) := by
  have hlt := hs.lt
  cases h1 : inB c 44032 55203
  · cases h2 : inB c 192 8491
    · have HR : Hid (partsN c = []) := partsN_out c h2 h1
      generalize partsN c = l at HR ⊢
      go_enter Tryd.func40, Tryd.ntmps40
      go_wp2_with (go_at_call 35; refine (btw_any _ _ _ _).mono ?_; rintro e w' ⟨rfl, rfl⟩)
      go_ret
      rw [HR.out]
      exact ⟨_, rfl, World.ownsRow_nil _ _ _ _, hs, ⟨rfl, rfl, rfl, Nat.le_refl _, fun _ _ _ => rfl⟩⟩
    · have HR : Hid (partsN c = partsOf [(pFind c pTab).1, (pFind c pTab).2]) := partsN_tabl c h2
      obtain ⟨p0, H0⟩ : ∃ p0, Hid ((pFind c pTab).1 = p0) := ⟨_, rfl⟩
      obtain ⟨p1, H1⟩ : ∃ p1, Hid ((pFind c pTab).2 = p1) := ⟨_, rfl⟩
      have HRow := rowOf_any B c p0 p1 H0 H1 w hs
      rw [H0.out, H1.out] at HR
      have HS := fun g w' h => readRow_any g p0 p1 w' h
      generalize partsOf [p0, p1] = q at HR HS
      rw [HR.out]
      clear HR H0 H1
      have hmf : ∀ (fn : Fn) (first cap : Array Value) (w : World), (Instr.makeFunc fn first cap).run Tryd.prog w = .ok (.func fn first cap) w := fun _ _ _ _ => rfl
      go_enter Tryd.func40, Tryd.ntmps40
      go_wp2_with (first | (go_at_call 35; refine (btw_any _ _ _ _).mono ?_; rintro e w' ⟨rfl, rfl⟩) | (go_at_call 55; refine HRow.mono ?_; rintro e w1 ⟨rfl, hs1, hg1⟩))
      refine (HS (w1.heap.size + 1) _ (row_new _ _ ?_ _ _ _)).mono ?_
      · rw [hs_alloc]
      rintro e w2 ⟨v, rfl, hrow, hb2⟩
      have hz := hg1.size
      have hb3 : Below w1.heap.size w1 w2 := (((Below.refl w1.heap.size w1).alloc (Nat.le_refl _) _).alloc (by rw [hs_alloc]; omega) _).trans (hb2.mono (by rw [hs_alloc, hs_alloc]; omega))
      have hs2 := hs1.below hb3
      go_wp2
      go_ret
      exact ⟨v, rfl, hrow.mono (by rw [hs_alloc, hs_alloc]; omega), hs2, ⟨hb3.os.trans hg1.os, hb3.tape.trans hg1.tape, hb3.output.trans hg1.output, Nat.le_trans hg1.size hb3.size, fun k hk hn => (hb3.block k (by omega)).trans (hg1.block k hk hn)⟩⟩
  · have hb := inB_le h1
    have HR : Hid (partsN c = partsOf [leadP (c - 44032), vowP (c - 44032), tailP (c - 44032)]) := by
      show _ = _
      rw [partsN_rest c (fun hc => by have := keys_bd c hc; omega), h1, han_parts c hb.1]; rfl
    rw [HR.out]
    refine (partsOfH _ c h1 w).mono ?_
    rintro e w' ⟨v, rfl, hrow, hb⟩
    exact ⟨v, rfl, hrow, hs.below hb, ⟨hb.os, hb.tape, hb.output, hb.size, fun k hk _ => hb.block k hk⟩⟩

/-- a new source -/
theorem src_new (w : World) : SrcAt w.heap.size (w.alloc (.cells #[.map none] 65)) :=
  ⟨none, by show (w.heap.push _)[w.heap.size]? = _; simp, .inl rfl⟩

end Go.Proofs.YtkgnlamlmnhleaaDoor
