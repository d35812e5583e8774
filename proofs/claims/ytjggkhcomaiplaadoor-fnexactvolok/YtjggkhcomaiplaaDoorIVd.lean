/- Volumes, impl: treeOf. -/
import Derived.Test.YtjggkhcomaiplaaDoorRows
import Derived.Test.YtjggkhcomaiplaaDoorIVc
import Derived.Test.YtjggkhcomaiplaaDoorMu
import Derived.RegionTactic
import Derived.BigRegion
namespace Go.Proofs.YtjggkhcomaiplaaDoor
open Go.RowKit Go.Maps

theorem run_makeMapN (n : Int) (w : World) : (Instr.makeMap 46 (some (.int .i64 n))).run Tryd.prog w = .ok (.map (some w.heap.size)) (w.alloc (.map #[] 0)) := by kernel_rfl

set_option maxRecDepth 100000 in
set_option maxHeartbeats 1000000 in
theorem treeOf_any (v : Value) (x : Vo) (w : World) (hl : x.ins.length ≤ 1000) (hsh : EntsShort x.ins) (hr : x.ins.Pairwise fun a b => a.id < b.id) (hid : ∀ y ∈ x.ins, InI y.id) (hv : VolAt w v x) :
    Calls Tryd.prog 16 #[v] w fun e w' => ∃ p m ps, e = .returned (.pointer (some ⟨p, 0, none⟩)) ∧ TreeAt w' w.heap.size p m x ps ∧ Below w.heap.size w w' := by
  obtain ⟨nx, l⟩ := x
  obtain ⟨u, rfl, aa, ca, rfl, -, hva⟩ := hv
  dsimp only at *
  obtain ⟨n, HN⟩ : ∃ n, Hid (n = l.length) := ⟨_, rfl⟩
  rw [← HN.out] at hl hva ⊢
  have hMM := fun W => run_makeMapN (n : Int) W
  go_enter Tryd.func16, Tryd.ntmps16
  go_wp2
  go_region
  have hT0 : TreeAt ((((w.alloc (.cells #[.int .i64 nx, .slice aa n ca] 29)).alloc (.map #[] 0)).alloc (.cells #[.int .i64 nx, .map (some (w.heap.size + 1))] 50)).drew) w.heap.size (w.heap.size + 1 + 1) (w.heap.size + 1) ⟨nx, l.take 0⟩ [] := by
    have hm := MapP.made (w.alloc (.cells #[.int .i64 nx, .slice aa n ca] 29))
    have e1 : (w.alloc (.cells #[.int .i64 nx, .slice aa n ca] 29)).heap.size = w.heap.size + 1 := by simp
    have e2 : ((w.alloc (.cells #[.int .i64 nx, .slice aa n ca] 29)).alloc (.map #[] 0)).heap.size = w.heap.size + 1 + 1 := by simp
    rw [e1] at hm
    refine ⟨by simp, ?_, ?_, fun t ht => by simp at ht, fun t ht => by simp at ht, ⟨by omega, by omega, fun t ht => by simp at ht⟩, fun t u _ hu => by simp at hu⟩
    · have := (MapKept.heap_alloc ((w.alloc (.cells #[.int .i64 nx, .slice aa n ca] 29)).alloc (.map #[] 0)) (.cells #[.int .i64 nx, .map (some (w.heap.size + 1))] 50)).1
      rw [e2] at this; exact this
    · have h2 := hm.below (below_lit _ (.cells #[.int .i64 nx, .map (some (w.heap.size + 1))] 50))
      have h3 := h2.below (Below.refl _ _).drew
      have ef : fofP (l.take 0) [] = fun _ => none := by funext i; simp [fofP, plN]
      rw [ef]; simpa using h3
  have hB0 : Below (w.heap.size + 1) (w.alloc (.cells #[.int .i64 nx, .slice aa n ca] 29)) ((((w.alloc (.cells #[.int .i64 nx, .slice aa n ca] 29)).alloc (.map #[] 0)).alloc (.cells #[.int .i64 nx, .map (some (w.heap.size + 1))] 50)).drew) :=
    (((Below.refl _ _).alloc (by simp) _).alloc (by simp) _).drew
  generalize ((((w.alloc (.cells #[.int .i64 nx, .slice aa n ca] 29)).alloc (.map #[] 0)).alloc (.cells #[.int .i64 nx, .map (some (w.heap.size + 1))] 50)).drew) = w0 at hT0 hB0 ⊢
  obtain ⟨x0, x1, -⟩ := box_cells hB0
  obtain ⟨p, hp⟩ : ∃ p, Hid (p = w.heap.size + 1 + 1) := ⟨_, rfl⟩
  obtain ⟨m, hm⟩ : ∃ m, Hid (m = w.heap.size + 1) := ⟨_, rfl⟩
  rw [← hp.out, ← hm.out] at hT0 ⊢
  go_wp2
  go_loopw [17] (fun i wr => ∃ (k : Nat) (ps : List (Nat × Value)), k ≤ n ∧ i = .int .i64 k ∧ Hid (TreeAt wr w.heap.size p m ⟨nx, l.take k⟩ ps) ∧ Below (w.heap.size + 1) (w.alloc (.cells #[.int .i64 nx, .slice aa n ca] 29)) wr) (fun i _ => n - (intOf i).toNat)
  case atStart => exact ⟨0, [], Nat.zero_le _, rfl, hT0, hB0⟩
  case round =>
    obtain ⟨k, ps, hk, rfl, hTr, hbel⟩ := hrel
    obtain ⟨p0, p1, HB⟩ := box_cells hbel
    by_cases hlt : k < n
    · obtain ⟨b1, o1, s1, rfl, hb1, hc1, hen⟩ := hva k hlt
      have hkl : k < l.length := by rw [← HN.out]; exact hlt
      have hc1 := hc1.below hb1 HB
      have hen' := hen.below HB
      have hel : l[k]!.ents.length ≤ 1048576 := hsh _ (place_mem hkl)
      have hIk : InI l[k]!.id := hid _ (place_mem hkl)
      have hCL : ∀ w', Below wr.heap.size wr w' → _ := fun w' b => clone_any s1 l[k]!.ents w' (hen'.below b) hel
      have HST : Hid (∀ u w2, EntRow w2 (wr.heap.size + 1) u l[k]!.ents → Below (wr.heap.size + 1) (wr.alloc (.cells (inoC l[k]! s1) 37)) w2 →
          (w2.cell? ⟨wr.heap.size, 0, none⟩ = some (.int .i64 l[k]!.id) ∧ w2.cell? ⟨wr.heap.size, 4, none⟩ = some s1 ∧ w2.frozen? ⟨wr.heap.size, 4, none⟩ = false ∧ w2.cell? ⟨p, 1, none⟩ = some (.map (some m))) ∧
          ∃ w4, (Instr.mapUpdate 46 (.map (some m)) (.int .i64 l[k]!.id) (.pointer (some ⟨wr.heap.size, 0, none⟩))).run Tryd.prog (w2.setCell ⟨wr.heap.size, 4, none⟩ u).drew = .ok () w4 ∧ TreeAt w4 w.heap.size p m ⟨nx, l.take (k + 1)⟩ (ps ++ [(wr.heap.size, u)]) ∧ Below (w.heap.size + 1) (w.alloc (.cells #[.int .i64 nx, .slice (some ⟨b1, o1, none⟩) n ca] 29)) w4) := fun u w2 r2 b2 => by
        have hs : (wr.alloc (.cells (inoC l[k]! s1) 37)).heap.size = wr.heap.size + 1 := by simp
        have hq0 := (MapKept.heap_alloc wr (.cells (inoC l[k]! s1) 37)).1
        have hq2 : w2.heap[wr.heap.size]? = some (.cells (inoC l[k]! s1) 37) := (b2.block _ (by omega)).trans hq0
        have bA : Below wr.heap.size wr w2 := (below_lit wr _).trans (b2.mono (by omega))
        have hT2 := hTr.out.below bA
        have hpl : p < wr.heap.size := lt_of_block hTr.out.tree
        have hml : m < wr.heap.size := hTr.out.map.lt
        refine ⟨⟨Joins.cell_of_block hq2 0, Joins.cell_of_block hq2 4, Joins.unfrozen_of_block hq2 4, Joins.cell_of_block hT2.tree 1⟩, ?_⟩
        have hq3 := Joins.block_setCell (i := 4) hq2 u
        have hg3 : w2.grownBy (w2.setCell ⟨wr.heap.size, 4, none⟩ u).drew (some wr.heap.size) := ⟨rfl, rfl, rfl, by simp [World.drew, World.setCell], fun i _ hi => Below.heap_setCell w2 _ _ i (fun e => hi (by rw [e]))⟩
        have hm3 := hT2.map.kept hg3 (by simp; omega)
        obtain ⟨w4, hrun, hm4, hg4⟩ := hm3.store (by simp; omega) hIk wr.heap.size
        have hnone : fofP (l.take k) ps l[k]!.id = none := by
          unfold fofP
          rw [plN_none fun j hj => ?_]
          · rfl
          · simp at hj
            rw [getElem!_pos _ j (by simp; omega), List.getElem_take]
            have := List.pairwise_iff_getElem.1 hr j k (by omega) hkl (by omega)
            rw [getElem!_pos l k hkl]; omega
        refine ⟨w4, hrun, ?_, ?_⟩
        · rw [List.take_succ_eq_append_getElem hkl, ← getElem!_pos l k hkl]
          refine hTr.out.push (b2 := wr.heap.size + 1) (fun z hz => ?_) ?_ (Nat.le_refl _) ?_ ?_ (by omega) ?_
          · obtain ⟨j, hj, rfl⟩ := List.getElem_of_mem hz
            simp at hj
            rw [List.getElem_take]
            have := List.pairwise_iff_getElem.1 hr j k (by omega) hkl (by omega)
            rw [getElem!_pos l k hkl]; omega
          · have h1 : wr.grownBy (w2.setCell ⟨wr.heap.size, 4, none⟩ u).drew (some m) := ⟨(hg3.os).trans bA.os, hg3.tape.trans bA.tape, hg3.output.trans bA.output, Nat.le_trans bA.size hg3.size, fun i hi _ => (hg3.block i (Nat.lt_of_lt_of_le hi bA.size) (by simp; omega)).trans (bA.block i hi)⟩
            exact ⟨hg4.os.trans h1.os, hg4.tape.trans h1.tape, hg4.output.trans h1.output, Nat.le_trans h1.size hg4.size, fun i hi hne => (hg4.block i (Nat.lt_of_lt_of_le hi h1.size) hne).trans (h1.block i hi hne)⟩
          · have h1 : (w2.setCell ⟨wr.heap.size, 4, none⟩ u).drew.heap[wr.heap.size]? = some (.cells ((inoC l[k]! s1).setIfInBounds 4 u) 37) := hq3
            rw [hg4.block _ (lt_of_block h1) (by simp; omega), h1]
            rfl
          · have h1 := r2.kept hg3 (.inr fun e => by
              have := r2.blk _ e; omega)
            exact h1.kept hg4 (.inr fun e => by have := r2.blk _ e; omega)
          · rw [hnone] at hm4
            simpa [Nat.min_eq_left (Nat.le_of_lt hkl)] using hm4
        · have h1 : Below (w.heap.size + 1) (w.alloc (.cells #[.int .i64 nx, .slice (some ⟨b1, o1, none⟩) n ca] 29)) (w2.setCell ⟨wr.heap.size, 4, none⟩ u).drew := ((hbel.trans (bA.mono (by have := hbel.size; simp at this; omega))).setCell (by show w.heap.size + 1 ≤ wr.heap.size; have := hbel.size; simp at this; omega) _).drew
          have hsz := h1.size
          exact h1.grown hg4 (by simpa using hsz) (fun q hq => by cases hq; exact Nat.le_of_eq hm.out.symm)
      obtain ⟨ea, ec, rfl, -, -⟩ := hen
      generalize l[k]! = y at hc1 hCL HST
      obtain ⟨yi, yk, yl, yd, ye⟩ := y
      unfold inoC at HST
      dsimp only at hc1 hCL HST
      have k0 := hc1.c0
      have k1 := hc1.c1
      have k2 := hc1.c2
      have k3 := hc1.c3
      have k4 := hc1.c4
      have hbA := below_lit wr (.cells #[.int .i64 yi, .int .i64 yk, .int .i64 yl, .string yd, .slice ea ye.length ec] 37)
      have hsA : (wr.alloc (.cells #[.int .i64 yi, .int .i64 yk, .int .i64 yl, .string yd, .slice ea ye.length ec] 37)).heap.size = wr.heap.size + 1 := by simp
      have hCL := hCL _ hbA
      have hpq : ¬ wr.heap.size = p := by have := lt_of_block hTr.out.tree; omega
      have hpq' : ¬ p = wr.heap.size := by have := lt_of_block hTr.out.tree; omega
      clear hc1 hva
      go_wp2_with (go_at_call 27; refine hCL.mono ?_; rintro e w2 ⟨u, rfl, r2, b2⟩; rw [hsA] at r2 b2; obtain ⟨⟨c0, c4, cf, cp⟩, w4, hrun, hT4, hB4⟩ := HST.out u w2 r2 b2; obtain ⟨ua, uc, rfl, -, -⟩ := r2.at; have hT4 : Hid _ := hT4)
      go_region
      go_wp2
      go_roundw
      case rel => exact ⟨k + 1, _, by omega, by go_num, hT4, hB4⟩
      case measure => simp [intOf]; omega
    · obtain rfl : k = n := by omega
      have hTE := hTr.out
      rw [HN.out, List.take_length] at hTE
      go_wp2
      go_ret
      exact ⟨p, m, ps, rfl, hTE, HB⟩

end Go.Proofs.YtjggkhcomaiplaaDoor
