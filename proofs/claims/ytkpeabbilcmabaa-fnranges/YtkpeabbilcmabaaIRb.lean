/- Ranges of signs: impl.addLast. -/
import Derived.Test.YtkpeabbilcmabaaRows
import Derived.Test.YtkpeabbilcmabaaRgU
import Derived.Test.YtkpeabbilcmabaaIRa
import Derived.Lib.MinMax
namespace Go.Proofs.Ytkpeabbilcmabaa
open Go.RowKit Go.Sort

set_option maxRecDepth 100000 in
set_option maxHeartbeats 1000000 in
theorem addLast_any (v : Value) (l : List Rg) (x0 x1 : Int) (base : Nat) (w : World) (hown : RgRow w base v l) (hR : RgR l) (hbase : base ≤ w.heap.size) :
    Calls Try.prog 28 #[v, .agg #[.int .i64 x0, .int .i64 x1]] w fun e w' => ∃ u, e = .returned u ∧ RgRow w' base u (rgPut l ⟨x0, x1⟩) ∧ Below base w w' := by
  have hln := hR.len
  obtain ⟨w1, HW1⟩ : ∃ w1, Hid (w1 = w.alloc (.cells #[.int .i64 x0, .int .i64 x1] 43)) := ⟨_, rfl⟩
  have B0 := below_lit w (.cells #[.int .i64 x0, .int .i64 x1] 43)
  obtain ⟨k0, k1⟩ := box_rg w x0 x1
  have hG : w.heap.size < (w.alloc (.cells #[.int .i64 x0, .int .i64 x1] 43)).heap.size := by simp
  rw [← HW1.out] at B0 k0 k1 hG
  have hown1 := hown.below B0
  have hs1 : base ≤ w1.heap.size := by omega
  have hbel1 := B0.mono hbase
  obtain ⟨G, HG⟩ : ∃ G, Hid (G = w.heap.size) := ⟨_, rfl⟩
  rw [← HG.out] at k0 k1 hG
  have q0 := cell_regrown k0
  have q1 := cell_regrown k1
  by_cases hl0 : l = []
  · have HPUT : Hid (rgPut l ⟨x0, x1⟩ = l ++ [⟨x0, x1⟩]) := by show _ = _; subst hl0; rfl
    obtain ⟨a, cap, hv, -, -⟩ := hown.at
    have hn : l.length = 0 := by rw [hl0]; rfl
    rw [hn] at hv
    subst hv
    generalize rgPut l ⟨x0, x1⟩ = res at HPUT ⊢
    clear B0 hown
    go_enter Try.func28, Try.ntmps28
    go_wp2
    rw [← HW1.out, ← HG.out]
    refine wp_region_quiet_below (by kernel_rfl) (by kernel_rfl) ?_
    repeat (go_big_quiet_step (fail))
    refine wpQuiet_nil ?_
    rintro w' ⟨⟨dq, osq⟩, rfl⟩
    have hbq := below_regrown w1 dq osq
    have row6 := hown1.below hbq
    have hs6 := Nat.le_trans hs1 hbq.size
    have hbel6 := hbel1.trans (hbq.mono hs1)
    have g0 := (hbq.cell (p := ⟨G, 0, none⟩) hG).trans k0
    have g1 := (hbq.cell (p := ⟨G, 1, none⟩) hG).trans k1
    generalize grow (redrawn w1 dq) osq = w6 at *
    go_wp2_with (at_builtin; refine append_Rgs _ rfl (.tmp 22) (.tmp 24) rfl base _ _ l [⟨x0, x1⟩] (by simp; omega) (row6.below (below_lit _ _)) (one_Rg _ ⟨x0, x1⟩) rfl rfl (Nat.le_trans hs6 (below_lit _ _).size) ?_; intro v8 w8 row8 b8)
    go_ret
    exact ⟨_, rfl, by rw [HPUT.out]; exact row8, (hbel6.trans ((below_lit _ _).mono hs6)).trans b8⟩
  · have hpos : 0 < l.length := List.length_pos_iff.2 hl0
    rcases hown.2 with ⟨_, h0⟩ | ⟨g, cap, cur, rfl, hg, hh, hnc, hcp, hcs, htake⟩
    · omega
    obtain ⟨m, HM⟩ : ∃ m, Hid (m = l.length - 1) := ⟨_, rfl⟩
    have HP : Hid (rgPut l ⟨x0, x1⟩ = if l[m]!.b + 1 < x0 then l ++ [⟨x0, x1⟩] else if l[m]!.b < x1 then l.set m ⟨l[m]!.a, x1⟩ else l) := by
      show _ = _; unfold rgPut; rw [if_neg hl0, ← HM.out]
    generalize rgPut l ⟨x0, x1⟩ = res at HP ⊢
    have hml : m < l.length := by have := HM.out; omega
    have hy := hR.one l[m]! (by rw [getElem!_pos l m hml]; exact List.getElem_mem hml)
    have hcy : ∀ w', RgRow w' base (.slice (some ⟨g, 0, none⟩) l.length cap) l → w'.cell? ⟨g, m * 2 + 1, none⟩ = some (.int .i64 l[m]!.b) := fun w' h => by
      have := World.ownsRow.cellAt h (m * 2 + 1) (by omega)
      rw [this, flatRg_at l m hml 1 (by omega)]; rfl
    have HST : Hid (∀ w', RgRow w' base (.slice (some ⟨g, 0, none⟩) l.length cap) l → RgRow (w'.setCell ⟨g, m * 2 + 1, none⟩ (.int .i64 (max l[m]!.b x1))) base (.slice (some ⟨g, 0, none⟩) l.length cap) (l.set m ⟨l[m]!.a, max l[m]!.b x1⟩)) := fun w' h => by
      unfold RgRow
      rw [List.length_set]
      exact rowRg_set h m ⟨l[m]!.a, max l[m]!.b x1⟩ 1 (.int .i64 (max l[m]!.b x1)) hml (by omega) rfl
    have HSE : Hid ((if l[m]!.b < x1 then l.set m ⟨l[m]!.a, x1⟩ else l) = l.set m ⟨l[m]!.a, max l[m]!.b x1⟩) := by
      show _ = _
      by_cases e : l[m]!.b < x1
      · rw [if_pos e, Int.max_eq_right (by omega)]
      · rw [if_neg e, Int.max_eq_left (by omega)]
        have : (⟨l[m]!.a, l[m]!.b⟩ : Rg) = l[m]! := rfl
        rw [this, getElem!_pos l m hml, List.set_getElem_self]
    have hc1 := hcy _ hown1
    have p1 := cell_regrown hc1
    have hfz : ∀ w', RgRow w' base (.slice (some ⟨g, 0, none⟩) l.length cap) l → w'.frozen? ⟨g, m * 2 + 1, none⟩ = false := fun w' h => World.ownsRow.frozenAt h _
    have HCY : Hid _ := hcy
    have HFZ : Hid _ := hfz
    generalize l[m]! = y at *
    obtain ⟨y0, y1⟩ := y
    dsimp only at *
    have HCY := HCY.out
    have HFZ := HFZ.out
    obtain ⟨n, HL⟩ : ∃ n, Hid (n = l.length) := ⟨_, rfl⟩
    rw [← HL.out] at hln hpos hnc HM hml HST HCY HFZ hown1 ⊢
    have zm : IntKind.i64.wrap ((n : Int) - 1) = (m : Int) := by rw [IntKind.wrap_i64, HM.out]; omega
    have hmn : (m : Int) < (n : Int) := by omega
    have hm0 : (0 : Int) ≤ (m : Int) := by omega
    have hn0 : decide ((m : Int) < 0) = false := decide_eq_false (by omega)
    have hn1 : ¬ (m : Int) < 0 := by omega
    have hwy : IntKind.i64.wrap (y1 + 1) = y1 + 1 := by rw [IntKind.wrap_i64]; omega
    have HMM : Hid (m < n) := hml
    clear B0 hown hh hcs htake hcy hfz hc1 hl0 hml
    by_cases h1 : y1 + 1 < x0
    · have hd1 : decide (y1 + 1 < x0) = true := decide_eq_true h1
      rw [if_pos h1] at HP
      clear h1
      go_enter Try.func28, Try.ntmps28
      go_wp2
      rw [← HW1.out, ← HG.out]
      refine wp_region_quiet_below (by kernel_rfl) (by kernel_rfl) ?_
      repeat (go_big_quiet_step (fail))
      refine wpQuiet_nil ?_
      rintro w' ⟨⟨dq, osq⟩, rfl⟩
      have hbq := below_regrown w1 dq osq
      have row6 := hown1.below hbq
      have hs6 := Nat.le_trans hs1 hbq.size
      have hbel6 := hbel1.trans (hbq.mono hs1)
      have g0 := (hbq.cell (p := ⟨G, 0, none⟩) hG).trans k0
      have g1 := (hbq.cell (p := ⟨G, 1, none⟩) hG).trans k1
      generalize grow (redrawn w1 dq) osq = w6 at *
      go_wp2_with (at_builtin; refine append_Rgs _ rfl (.tmp 22) (.tmp 24) rfl base _ _ l [⟨x0, x1⟩] (by have := HL.out; simp; omega) (row6.below (below_lit _ _)) (one_Rg _ ⟨x0, x1⟩) rfl rfl (Nat.le_trans hs6 (below_lit _ _).size) ?_; intro v8 w8 row8 b8)
      go_ret
      exact ⟨_, rfl, by rw [HP.out]; exact row8, (hbel6.trans ((below_lit _ _).mono hs6)).trans b8⟩
    · have hd1 : decide (y1 + 1 < x0) = false := decide_eq_false h1
      rw [if_neg h1] at HP
      clear h1
      have HMX : Hid (res = l.set m ⟨y0, max y1 x1⟩) := HP.out.trans HSE.out
      generalize l.set m ⟨y0, max y1 x1⟩ = l2 at HST HMX
      clear HP HSE
      go_enter Try.func28, Try.ntmps28
      go_wp2
      rw [← HW1.out, ← HG.out]
      refine wp_region_quiet_below (by kernel_rfl) (by kernel_rfl) ?_
      repeat (go_big_quiet_step (fail))
      refine wpQuiet_nil ?_
      rintro w' ⟨⟨dq, osq⟩, rfl⟩
      have hbq := below_regrown w1 dq osq
      have row6 := hown1.below hbq
      have hs6 := Nat.le_trans hs1 hbq.size
      have hbel6 := hbel1.trans (hbq.mono hs1)
      have g0 := (hbq.cell (p := ⟨G, 0, none⟩) hG).trans k0
      have g1 := (hbq.cell (p := ⟨G, 1, none⟩) hG).trans k1
      generalize grow (redrawn w1 dq) osq = w6 at *
      have d1 := HCY _ row6
      have d2 := HFZ _ row6
      have row7 := HST.out _ row6
      have hbel7 := hbel6.setCell (p := ⟨g, m * 2 + 1, none⟩) hg (.int .i64 (max y1 x1))
      clear q0 q1 p1 hbq row6 HST HCY HFZ
      go_wp2
      go_region
      go_wp2
      go_ret
      exact ⟨_, rfl, by rw [HMX.out]; exact row7, ⟨hbel7.os, hbel7.tape, hbel7.output, hbel7.size, hbel7.block⟩⟩

end Go.Proofs.Ytkpeabbilcmabaa
