/- Patterns: spec.l14Fits. -/
import Derived.Test.YtlkemmdcjnaepaaDoorRows
import Derived.Test.YtlkemmdcjnaepaaDoorG20
import Derived.Test.YtlkemmdcjnaepaaDoorG21
import Derived.Test.YtlkemmdcjnaepaaDoorG22
import Derived.Deep.Cut
import Derived.Deep.CutRange
import Derived.Deep.RegionWith
namespace Go.Proofs.YtlkemmdcjnaepaaDoor

section
open Go.RowKit Go.Sort

theorem bo_cell {w : World} {base g n cap : Nat} {l : List Bool} (h : w.ownsRow base 4 1 (.slice (some ⟨g, 0, none⟩) n cap) n (flatBo l)) (hn : l.length = n) (t : Nat) (ht : t < n) : w.cell? ⟨g, t, none⟩ = some (.bool l[t]!) := by
  rw [World.ownsRow.cellAt h t (by omega)]
  have := flatBo_at l t (by omega) 0 (by omega)
  rw [Nat.mul_one, Nat.add_zero] at this
  rw [this]; rfl
/-- rows P and N, as they are read in every world behind w -/
structure PtSt (w : World) (ap : Option Addr) (vp : Nat → Value) (P : List (List Int)) (p : Nat) : Prop where
  cell : ∀ W, Below w.heap.size w W → ∀ t, t < p → ∃ b off, ap = some ⟨b, off, none⟩ ∧ b < w.heap.size ∧ W.cell? ⟨b, off + t, none⟩ = some (vp t)
  row : ∀ W, Below w.heap.size w W → ∀ t, t < p → IntsAt W (vp t) (lD P t)
theorem RwsAt.pt {w : World} {v : Value} {P : List (List Int)} (h : RwsAt w v P) : ∃ a cap vp, v = .slice a P.length cap ∧ PtSt w a vp P P.length := by
  obtain ⟨us, a, cap, e, hc⟩ := h
  refine ⟨a, cap, vD us, e, fun W hW t ht => ?_, fun W hW t ht => (hc t ht).2.below hW⟩
  obtain ⟨⟨b, off, e1, hb, hcell⟩, _⟩ := hc t ht
  exact ⟨b, off, e1, hb, (hW.cell (p := ⟨b, off + t, none⟩) hb).trans hcell⟩

set_option maxRecDepth 100000 in
set_option maxHeartbeats 2000000 in
theorem l14Fits_any (v u : Value) (P N : List (List Int)) (w : World) (hv : RwsAt w v P) (hu : RwsAt w u N) (lP : P.length ≤ 1048576) (lN : N.length ≤ 1048576) (lP2 : ∀ t, t < P.length → (lD P t).length ≤ 1048576) :
    Calls Tryd.prog 47 #[v, u] w fun e w' => e = .returned (.bool (fitsN P N)) ∧ Below w.heap.size w w' := by
  obtain ⟨ap, cp, vp, rfl, SP⟩ := hv.pt
  obtain ⟨an, cn, vn, rfl, SN⟩ := hu.pt
  have HEND : Hid (canB P N P.length N.length = fitsN P N) := can_end P N
  have HST : Hid (∀ i k, i < P.length → k ≤ N.length → lD P i = [42] → canB P N (i + 1) k = (canB P N i k || (decide (0 < k) && canB P N (i + 1) (k - 1)))) := fun i k h1 h2 h => can_star h1 h2 h
  have HNO : Hid (∀ i, i < P.length → lD P i ≠ [42] → canB P N (i + 1) 0 = false) := fun i h1 h => can_none h1 h
  have HON : Hid (∀ i k, i < P.length → k < N.length → lD P i ≠ [42] → canB P N (i + 1) (k + 1) = (canB P N i k && (decide (lD P i = [63]) || decide (lD P i = lD N k)))) := fun i k h1 h2 h => can_one h1 h2 h
  have HSE : Hid (∀ i k, (rowC P N i k).set k (canB P N i k) = rowC P N i (k + 1)) := fun i k => rowC_set P N i k
  have HGE : Hid (∀ i k t, t < N.length + 1 → (rowC P N i k)[t]! = if t < k then canB P N i t else false) := fun i k t h => rowC_get h
  have HLE : Hid (∀ i k, (rowC P N i k).length = N.length + 1) := fun i k => rowC_len P N i k
  have HZE : Hid (∀ i, rowC P N i 0 = List.replicate (N.length + 1) false) := fun i => rowC_zero P N i
  have HSA : Hid ((List.replicate (N.length + 1) false).set 0 true = rowC P N 0 (N.length + 1)) := rowC_start P N
  generalize fitsN P N = r at HEND ⊢
  obtain ⟨p, HP⟩ : ∃ p, Hid (p = P.length) := ⟨_, rfl⟩
  obtain ⟨n, HN⟩ : ∃ n, Hid (n = N.length) := ⟨_, rfl⟩
  rw [← HP.out] at SP HEND HST HNO HON lP lP2 ⊢
  rw [← HN.out] at SN HEND HST HON HGE HLE HZE HSA lN ⊢
  clear hv hu
  obtain ⟨i0, hi, hz0, hz1, hz2⟩ := info_parts Tryd.infoBo
  have hnw : IntKind.i64.wrap ((n : Int) + 1) = (((n + 1 : Nat)) : Int) := by rw [IntKind.wrap_i64]; omega
  go_enter Tryd.func47, Tryd.ntmps47
  go_upto_region 2 with (at_make; refine wpList_make_full _ rfl _ _ 78 rfl w.heap.size 4 i0 (.bool false) 1 Tryd.underlying78 hi hz0 hz1 .i64 .i64 _ _ (n + 1) rfl rfl rfl rfl (by rw [hz2]; omega) (by unfold maxLen; omega) (Nat.le_refl _) ?_; intro w1 hown1 hgrow1)
  have hown2 : w1.ownsRow w.heap.size 4 1 (.slice (some ⟨w.heap.size, 0, none⟩) (n + 1) (n + 1)) (n + 1) (flatBo (List.replicate (n + 1) false)) := by
    rw [flatBo_rep, ← toList_madeCells_one]; simpa [Value.cells] using hown1
  have hbel1 : Below w.heap.size w w1 := (Below.refl _ _).grown hgrow1 (Nat.le_refl _) (fun _ h => by cases h)
  obtain ⟨⟨u0, d0⟩, f0⟩ := rowBo_cells hown2 0 (by omega)
  have hst := (hown2.stored 0 (.bool true)).1
  have e0 := flatBo_put (List.replicate (n + 1) false) 0 true (by simp)
  rw [Nat.zero_mul] at e0
  rw [e0, HSA.out] at hst
  have HS0 : Hid ((w1.setCell ⟨w.heap.size, 0, none⟩ (.bool true)).ownsRow w.heap.size 4 1 (.slice (some ⟨w.heap.size, 0, none⟩) (n + 1) (n + 1)) (n + 1) (flatBo (rowC P N 0 (n + 1)))) := hst
  have HB0 : Hid (Below w.heap.size w (w1.setCell ⟨w.heap.size, 0, none⟩ (.bool true))) := hbel1.setCell (Nat.le_refl _) _
  clear hown1 hgrow1 hown2 hbel1 hst e0 HSA
  go_wp2
  go_loopw [5, 6] (fun cv iv wr => ∃ (i g : Nat), i ≤ p ∧ iv = .int .i64 i ∧ cv = .slice (some ⟨g, 0, none⟩) (n + 1) (n + 1) ∧ wr.ownsRow w.heap.size 4 1 (.slice (some ⟨g, 0, none⟩) (n + 1) (n + 1)) (n + 1) (flatBo (rowC P N i (n + 1))) ∧ Below w.heap.size w wr) (fun _ iv _ => p - (intOf iv).toNat)
  case atStart => exact ⟨0, w.heap.size, Nat.zero_le _, rfl, rfl, HS0.out, HB0.out⟩
  case round =>
    obtain ⟨i, g, hi', rfl, rfl, hcan, hbel⟩ := hrel
    clear HS0 HB0 d0 f0
    by_cases hlt : i < p
    · have hlt' : (i : Int) < (p : Int) := by omega
      go_upto_region 7 with (at_make; refine wpList_make_full _ rfl _ _ 78 rfl wr.heap.size 4 i0 (.bool false) 1 Tryd.underlying78 hi hz0 hz1 .i64 .i64 _ _ (n + 1) rfl rfl rfl rfl (by rw [hz2]; omega) (by unfold maxLen; omega) (Nat.le_refl _) ?_; intro w2 hown2 hgrow2)
      have hown3 : w2.ownsRow wr.heap.size 4 1 (.slice (some ⟨wr.heap.size, 0, none⟩) (n + 1) (n + 1)) (n + 1) (flatBo (rowC P N (i + 1) 0)) := by
        rw [HZE.out, flatBo_rep, ← toList_madeCells_one]; simpa [Value.cells] using hown2
      have hbel2 : Below wr.heap.size wr w2 := (Below.refl _ _).grown hgrow2 (Nat.le_refl _) (fun _ h => by cases h)
      clear hown2 hgrow2
      obtain ⟨b1, o1, rfl, hb1, -⟩ := SP.cell wr hbel i hlt
      have HPC : Hid (∀ W, Below wr.heap.size wr W → W.cell? ⟨b1, o1 + i, none⟩ = some (vp i) ∧ IntsAt W (vp i) (lD P i)) := fun W h => by
        have hB := hbel.trans (h.mono hbel.size)
        obtain ⟨b2, o2, e2, _, h2⟩ := SP.cell W hB i hlt
        cases e2
        exact ⟨h2, SP.row W hB i hlt⟩
      obtain ⟨pa, pc, hvp, -⟩ := (HPC.out wr (Below.refl _ _)).2
      have HNC : Hid (∀ W, Below wr.heap.size wr W → ∀ k, k < n → ∃ b off, an = some ⟨b, off, none⟩ ∧ W.cell? ⟨b, off + k, none⟩ = some (vn k) ∧ IntsAt W (vn k) (lD N k)) := fun W h k hk => by
        have hB := hbel.trans (h.mono hbel.size)
        obtain ⟨b2, o2, e2, _, h2⟩ := SN.cell W hB k hk
        exact ⟨b2, o2, e2, h2, SN.row W hB k hk⟩
      have HCN : Hid (∀ W, Below wr.heap.size wr W → ∀ k, k ≤ n → W.cell? ⟨g, k, none⟩ = some (.bool (canB P N i k))) := fun W h k hk => by
        have hg : g < wr.heap.size := by
          rcases hcan.2 with ⟨e, _⟩ | ⟨g', cap', cur, e, _, hh, _⟩
          · cases e
          · cases e; exact lt_of_block hh
        have h1 := bo_cell hcan (HLE.out _ _) k (by omega)
        rw [HGE.out i (n + 1) k (by omega), if_pos (by omega)] at h1
        exact (h.cell (p := ⟨g, k, none⟩) hg).trans h1
      have HIS := fun W c h => l14Is_any (vp i) (lD P i) c W h
      have lPi := lP2 i hlt
      have HSTi : Hid (∀ k, k ≤ n → lD P i = [42] → canB P N (i + 1) k = (canB P N i k || (decide (0 < k) && canB P N (i + 1) (k - 1)))) := fun k h1 h => HST.out i k hlt h1 h
      have HNOi : Hid (lD P i ≠ [42] → canB P N (i + 1) 0 = false) := HNO.out i hlt
      have HONi : Hid (∀ k, k < n → lD P i ≠ [42] → canB P N (i + 1) (k + 1) = (canB P N i k && (decide (lD P i = [63]) || decide (lD P i = lD N k)))) := fun k h1 h => HON.out i k hlt h1 h
      rw [hvp] at HPC HIS
      clear SP SN HST HNO HON
      have HSEi : Hid (∀ k, (rowC P N (i + 1) k).set k (canB P N (i + 1) k) = rowC P N (i + 1) (k + 1)) := fun k => HSE.out (i + 1) k
      have HGEi : Hid (∀ k t, t < n + 1 → (rowC P N (i + 1) k)[t]! = if t < k then canB P N (i + 1) t else false) := fun k t h => HGE.out (i + 1) k t h
      have HLEi : Hid (∀ k, (rowC P N (i + 1) k).length = n + 1) := fun k => HLE.out (i + 1) k
      have HSKi : Hid (canB P N (i + 1) 0 = false → rowC P N (i + 1) 1 = rowC P N (i + 1) 0) := fun h => rowC_skip h
      obtain ⟨f, HF⟩ : ∃ f, Hid (f = canB P N (i + 1)) := ⟨_, rfl⟩
      obtain ⟨f0, HF0⟩ : ∃ f0, Hid (f0 = canB P N i) := ⟨_, rfl⟩
      obtain ⟨R, HR⟩ : ∃ R, Hid (R = rowC P N (i + 1)) := ⟨_, rfl⟩
      rw [← HF.out] at HSTi HNOi HONi HSEi HGEi HSKi
      rw [← HF0.out] at HSTi HONi HCN
      rw [← HR.out] at HSEi HGEi HLEi HSKi hown3
      obtain ⟨L, HL⟩ : ∃ L, Hid (L = lD P i) := ⟨_, rfl⟩
      rw [← HL.out] at HPC HIS HSTi HNOi HONi lPi
      obtain ⟨G, HG⟩ : ∃ G, Hid (G = wr.heap.size) := ⟨_, rfl⟩
      have HSW : Hid (w.heap.size ≤ wr.heap.size) := hbel.size
      have HBW : Hid (Below w.heap.size w wr) := hbel
      have HCAN : Hid (wr.ownsRow w.heap.size 4 1 (.slice (some ⟨g, 0, none⟩) (n + 1) (n + 1)) (n + 1) (flatBo (rowC P N i (n + 1)))) := hcan
      have HEND2 : Hid (∀ W : World, W.ownsRow wr.heap.size 4 1 (.slice (some ⟨wr.heap.size, 0, none⟩) (n + 1) (n + 1)) (n + 1) (flatBo (R (n + 1))) → W.ownsRow w.heap.size 4 1 (.slice (some ⟨wr.heap.size, 0, none⟩) (n + 1) (n + 1)) (n + 1) (flatBo (rowC P N (i + 1) (n + 1)))) := fun W h => by rw [← HR.out]; exact World.ownsRow.mono h HSW.out
      rw [← HG.out] at hown3 HEND2 ⊢
      clear hcan hbel HSE HGE HLE HZE HEND lP2
      go_wp2
      go_loopw [8] (fun kv wx => ∃ k : Nat, k ≤ n + 1 ∧ kv = .int .i64 k ∧ wx.ownsRow G 4 1 (.slice (some ⟨G, 0, none⟩) (n + 1) (n + 1)) (n + 1) (flatBo (R k)) ∧ Below wr.heap.size wr wx) (fun kv _ => n + 1 - (intOf kv).toNat)
      case atStart => exact ⟨0, Nat.zero_le _, rfl, hown3, hbel2⟩
      case round =>
        obtain ⟨k, hk, rfl, hnx, hbx⟩ := hrel
        clear hown3 hbel2
        by_cases hkn : k ≤ n
        · have hkn' : (k : Int) ≤ (n : Int) := by omega
          obtain ⟨hpc, hpr⟩ := HPC.out _ hbx
          have hcc := HCN.out _ hbx k hkn
          have hcall := HIS wr 42 hpr
          have HPUT : Hid (∀ W, Below wr.heap.size wr W → (∃ u, W.cell? ⟨G, k, none⟩ = some u) ∧ W.frozen? ⟨G, k, none⟩ = false ∧ ∀ x, x = f k → (W.setCell ⟨G, k, none⟩ (.bool x)).ownsRow G 4 1 (.slice (some ⟨G, 0, none⟩) (n + 1) (n + 1)) (n + 1) (flatBo (R (k + 1)))) := fun W hW => by
            have h1 : W.ownsRow G 4 1 (.slice (some ⟨G, 0, none⟩) (n + 1) (n + 1)) (n + 1) (flatBo (R k)) := ownBo_below hnx hW
            obtain ⟨h2, h3⟩ := rowBo_cells h1 k (by omega)
            refine ⟨h2, h3, fun x hx => ?_⟩
            have h4 := (h1.stored k (.bool x)).1
            have h5 := flatBo_put (R k) k x (by rw [HLEi.out]; omega)
            rw [Nat.mul_one] at h5
            rw [h5, hx, HSEi.out k] at h4
            rw [hx]; exact h4
          obtain ⟨⟨u0, d0⟩, fz0, HS0⟩ := HPUT.out wr (Below.refl _ _)
          have HS1 : Hid (∀ x, x = f k → (wr.setCell ⟨G, k, none⟩ (.bool x)).ownsRow G 4 1 (.slice (some ⟨G, 0, none⟩) (n + 1) (n + 1)) (n + 1) (flatBo (R (k + 1)))) := HS0
          clear HS0
          by_cases hs : L = [42]
          · have HV : Hid (f k = (f0 k || (decide (0 < k) && f (k - 1)))) := HSTi.out k hkn hs
            rw [decide_eq_true hs] at hcall
            clear hs HIS HPUT HPC HNC HCN HSTi HNOi HONi HSKi HSEi
            cases hf0 : f0 k
            · rw [hf0] at hcc
              cases k with
              | zero =>
                have HX := HS1.out false (by rw [HV.out, hf0]; rfl)
                have HX2 : Hid _ := HX
                clear HX HGEi HLEi hnx
                go_wp2_with fail
                refine hcall.mono ?_
                rintro e w5 ⟨rfl, rfl⟩
                go_wp2
                go_roundw
                case rel => exact ⟨1, by omega, by go_num, HX2.out, hbx.setCell (by rw [HG.out]; exact Nat.le_refl _) _⟩
                case measure => simp [intOf]
              | succ j =>
                have hcj := bo_cell hnx (HLEi.out _) j (by omega)
                rw [HGEi.out (j + 1) j (by omega), if_pos (by omega)] at hcj
                have HX := HS1.out (f j) (by rw [HV.out, hf0]; simp)
                have HX2 : Hid _ := HX
                generalize f j = x at hcj HX2
                clear HX HGEi HLEi hnx
                go_wp2_with fail
                refine hcall.mono ?_
                rintro e w5 ⟨rfl, rfl⟩
                go_wp2
                go_roundw
                case rel => exact ⟨j + 1 + 1, by omega, by go_num, HX2.out, hbx.setCell (by rw [HG.out]; exact Nat.le_refl _) _⟩
                case measure => simp [intOf]; omega
            · rw [hf0] at hcc
              have HX := HS1.out true (by rw [HV.out, hf0]; rfl)
              have HX2 : Hid _ := HX
              clear HX HGEi HLEi hnx
              go_wp2_with fail
              refine hcall.mono ?_
              rintro e w5 ⟨rfl, rfl⟩
              go_wp2
              go_roundw
              case rel => exact ⟨k + 1, by omega, by go_num, HX2.out, hbx.setCell (by rw [HG.out]; exact Nat.le_refl _) _⟩
              case measure => simp [intOf]; omega
          · rw [decide_eq_false hs] at hcall
            cases k with
            | zero =>
              have HX : Hid (R 1 = R 0) := HSKi.out (HNOi.out hs)
              clear HIS HPUT HPC HNC HCN HSTi HNOi HONi HSKi HSEi HGEi HLEi HS1 hcc d0 fz0
              go_wp2_with fail
              refine hcall.mono ?_
              rintro e w5 ⟨rfl, rfl⟩
              go_wp2
              go_roundw
              case rel => exact ⟨1, by omega, by go_num, by rw [HX.out]; exact hnx, hbx⟩
              case measure => simp [intOf]
            | succ j =>
              have HV : Hid (f (j + 1) = (f0 j && (decide (L = [63]) || decide (L = lD N j)))) := HONi.out j (by omega) hs
              have hcj := HCN.out _ hbx j (by omega)
              obtain ⟨b3, o3, rfl, hc3, hpn⟩ := HNC.out _ hbx j (by omega)
              obtain ⟨na, nc, hvn, -⟩ := id hpn
              rw [hvn] at hc3 hpn
              have hjn : (j : Int) < (n : Int) := by omega
              have hisR := fun dd os => Calls.regrown_of (d := dd) (os := os) (w := wr) ((HIS (grow (redrawn wr dd) os) 63 (hpr.below (below_regrown wr dd os))).mono fun e w'' h => ⟨h.1, h.2 ▸ Below.refl _ _⟩)
              have HSM : Hid (∀ W, Below wr.heap.size wr W → Calls Tryd.prog 51 #[.slice pa L.length pc, .slice na (lD N j).length nc] W fun e w' => e = .returned (.bool (decide (L = lD N j))) ∧ Below W.heap.size W w') := fun W h => same14_any _ _ L (lD N j) W (by omega) (hpr.below h) (hpn.below h)
              generalize decide (L = lD N j) = q3 at HSM HV
              generalize decide (L = [63]) = q2 at hisR HV
              generalize (lD N j).length = nl at hc3 HSM
              generalize L.length = ll at hpc hisR HSM hcall
              have hsmR := fun dd os => Calls.regrown_of (d := dd) (os := os) (w := wr) (HSM.out (grow (redrawn wr dd) os) (below_regrown wr dd os))
              have hGw : G ≤ wr.heap.size := by rw [HG.out]; exact hbx.size
              have hw0 : IntKind.i64.wrap (j : Int) = (j : Int) := by rw [IntKind.wrap_i64]; omega
              have hw1 : IntKind.i64.wrap ((j : Int) + 1 - 1) = (j : Int) := by rw [IntKind.wrap_i64]; omega
              have hw2 : IntKind.i64.wrap (((j + 1 : Nat) : Int) - 1) = (j : Int) := by rw [IntKind.wrap_i64]; omega
              have hj0 : (0 : Int) ≤ (j : Int) := by omega
              have hj1 : (j : Int) < ((n + 1 : Nat) : Int) := by omega
              have hj2 : (j : Int) < (n : Int) + 1 := by omega
              have hj3 : (j : Int) + 1 < (n : Int) + 1 := by omega
              have hj4 : ((j + 1 : Nat) : Int) < ((n + 1 : Nat) : Int) := by omega
              have hj5 : (0 : Int) ≤ (j : Int) + 1 := by omega
              have hi5 : (0 : Int) ≤ (i : Int) := by omega
              have hbd : Below wr.heap.size wr wr.drew := ⟨rfl, rfl, rfl, Nat.le_refl _, fun _ _ => rfl⟩
              have HG2 : Hid (∀ (W : World) x, (W.setCell ⟨G, j + 1, none⟩ (.bool x)).ownsRow G 4 1 (.slice (some ⟨G, 0, none⟩) (n + 1) (n + 1)) (n + 1) (flatBo (R (j + 1 + 1))) → Below wr.heap.size wr W → Below G wr (W.setCell ⟨G, j + 1, none⟩ (.bool x))) := fun W x _ h => by
                have hh : Below G wr W := h.mono hGw
                exact hh.setCell (Nat.le_refl _) _
              clear HIS HPC HNC HCN HSTi HNOi HONi HSKi HSEi HGEi HLEi hcc hvn hpn hpr hs
              go_wp2_with fail
              refine hcall.mono ?_
              rintro e w5 ⟨rfl, rfl⟩
              go_upto_region 13 with fail
              have kc := cell_regrown hcj
              have kp := cell_regrown hpc
              have kn := cell_regrown hc3
              clear HS1
              cases hq1 : f0 j
              · rw [hq1] at hcj HV kc
                refine wp_region_quiet_store (by kernel_rfl) (by simp) (by kernel_rfl) (by kernel_rfl) (by kernel_rfl) (by kernel_rfl) (by kernel_rfl) rfl ?_
                simp only [List.dropLast, List.getLast]
                repeat (go_big_quiet_step (first | exact hisR _ _ | exact hsmR _ _))
                refine wpQuiet_nil ?_
                rintro w' ⟨⟨dq, osq⟩, rfl⟩
                have hbq := below_regrown wr dq osq
                generalize grow (redrawn wr dq) osq = w4 at hbq ⊢
                obtain ⟨⟨u6, d6⟩, f6, h6⟩ := HPUT.out w4 hbq
                have HX1 : Hid ((w4.setCell ⟨G, j + 1, none⟩ (.bool false)).ownsRow G 4 1 (.slice (some ⟨G, 0, none⟩) (n + 1) (n + 1)) (n + 1) (flatBo (R (j + 1 + 1)))) := h6 false (by rw [HV.out]; simp)
                have HX2 := HG2.out w4 false HX1.out hbq
                clear h6
                go_wp2
                go_roundw
                case rel => exact ⟨j + 1 + 1, by omega, by go_num, HX1.out, hbx.trans (by rw [← HG.out]; exact ⟨HX2.os, HX2.tape, HX2.output, HX2.size, HX2.block⟩)⟩
                case measure => simp [intOf]; omega
              · rw [hq1] at hcj HV kc
                cases q2
                · skip
                  refine wp_region_quiet_store (by kernel_rfl) (by simp) (by kernel_rfl) (by kernel_rfl) (by kernel_rfl) (by kernel_rfl) (by kernel_rfl) rfl ?_
                  simp only [List.dropLast, List.getLast]
                  repeat (go_big_quiet_step (first | exact hisR _ _ | exact hsmR _ _))
                  refine wpQuiet_nil ?_
                  rintro w' ⟨⟨dq, osq⟩, rfl⟩
                  have hbq := below_regrown wr dq osq
                  generalize grow (redrawn wr dq) osq = w4 at hbq ⊢
                  obtain ⟨⟨u6, d6⟩, f6, h6⟩ := HPUT.out w4 hbq
                  have HX1 : Hid ((w4.setCell ⟨G, j + 1, none⟩ (.bool q3)).ownsRow G 4 1 (.slice (some ⟨G, 0, none⟩) (n + 1) (n + 1)) (n + 1) (flatBo (R (j + 1 + 1)))) := h6 q3 (by rw [HV.out]; simp)
                  have HX2 := HG2.out w4 q3 HX1.out hbq
                  clear h6
                  go_wp2
                  go_roundw
                  case rel => exact ⟨j + 1 + 1, by omega, by go_num, HX1.out, hbx.trans (by rw [← HG.out]; exact ⟨HX2.os, HX2.tape, HX2.output, HX2.size, HX2.block⟩)⟩
                  case measure => simp [intOf]; omega
                · skip
                  refine wp_region_quiet_store (by kernel_rfl) (by simp) (by kernel_rfl) (by kernel_rfl) (by kernel_rfl) (by kernel_rfl) (by kernel_rfl) rfl ?_
                  simp only [List.dropLast, List.getLast]
                  repeat (go_big_quiet_step (first | exact hisR _ _ | exact hsmR _ _))
                  refine wpQuiet_nil ?_
                  rintro w' ⟨⟨dq, osq⟩, rfl⟩
                  have hbq := below_regrown wr dq osq
                  generalize grow (redrawn wr dq) osq = w4 at hbq ⊢
                  obtain ⟨⟨u6, d6⟩, f6, h6⟩ := HPUT.out w4 hbq
                  have HX1 : Hid ((w4.setCell ⟨G, j + 1, none⟩ (.bool true)).ownsRow G 4 1 (.slice (some ⟨G, 0, none⟩) (n + 1) (n + 1)) (n + 1) (flatBo (R (j + 1 + 1)))) := h6 true (by rw [HV.out]; simp)
                  have HX2 := HG2.out w4 true HX1.out hbq
                  clear h6
                  go_wp2
                  go_roundw
                  case rel => exact ⟨j + 1 + 1, by omega, by go_num, HX1.out, hbx.trans (by rw [← HG.out]; exact ⟨HX2.os, HX2.tape, HX2.output, HX2.size, HX2.block⟩)⟩
                  case measure => simp [intOf]; omega
        · obtain rfl : k = n + 1 := by omega
          have hE := HEND2.out wr hnx
          go_wp2
          go_roundw
          case rel => exact ⟨i + 1, G, by omega, by go_num, rfl, hE, HBW.out.trans (hbx.mono HSW.out)⟩
          case measure => simp [intOf]; omega
    · obtain rfl : i = p := by omega
      have hr := bo_cell hcan (HLE.out _ _) n (by omega)
      rw [HGE.out i (n + 1) n (by omega), if_pos (by omega), HEND.out] at hr
      have hnl : (n : Int) < ((n + 1 : Nat) : Int) := by omega
      clear hcan
      go_wp2
      go_ret
      exact ⟨rfl, hbel⟩
end

end Go.Proofs.YtlkemmdcjnaepaaDoor
