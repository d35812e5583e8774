/- Extents, specification's side: the map of right extents. -/
import Derived.Test.YtkbkanmmpdeokaaRows
import Derived.Test.YtkbkanmmpdeokaaSEa
import Derived.Deep.Cut
import Derived.Deep.CutRange
import Derived.Deep.RegionWith
import Derived.Shelf.RegionOpenPlain
namespace Go.Proofs.Ytkbkanmmpdeokaa
open Go.RowKit Go.Sort

theorem exLen : ∀ (l : List Ex) (lo : Int), ExG l → lo ≤ 12 → (∀ r ∈ l, lo ≤ r.p ∧ r.p + r.n ≤ 12) → (l.length : Int) ≤ 12 - lo
  | [], lo, _, h, _ => by simp; omega
  | r :: t, lo, hg, _, hb => by
    have h1 := hb r (by simp)
    have h2 := hg.one r (by simp)
    have ih := exLen t (r.p + r.n) hg.tail (by omega) fun s hs => ⟨((List.pairwise_cons.1 hg.gap).1 s hs).1, (hb s (List.mem_cons_of_mem _ hs)).2⟩
    rw [List.length_cons]
    omega
theorem ExR.len {l : List Ex} (h : ExR l) : l.length ≤ 12 := by
  have := exLen l 0 h.g (by omega) fun r hr => by have := h.one r hr; omega
  omega
theorem ex_take (l : List Ex) (k : Nat) (h : k < l.length) : l.take (k + 1) = l.take k ++ [l[k]!] := by
  rw [List.take_add_one, List.getElem?_eq_getElem h, getElem!_pos l k h]
  rfl

set_option maxRecDepth 100000 in
set_option maxHeartbeats 4000000 in
theorem l16Map_any (v : Value) (l : List Ex) (w : World) (h : ExR l) (hv : ExsAt w v l) :
    Calls Try.prog 41 #[v] w fun e w' => ∃ u, e = .returned u ∧ IntRow w' w.heap.size u (exM l) ∧ Below w.heap.size w w' := by
  have mixed : Try.prog.follows .mixedOrders = true := by kernel_rfl
  obtain ⟨a, ca, rfl, -, hva⟩ := hv
  have hlen := h.len
  have HM : Hid (∀ j, j < 12 → (intsV (filld j (List.replicate 12 (-1)))).set j (.int .i64 (-1)) = intsV (filld (j + 1) (List.replicate 12 (-1)))) := fun j hj => by
    have := filld_step j (List.replicate 12 (-1)) (by simpa using hj)
    have e : (List.replicate 12 (-1 : Int)).getD j 0 = -1 := by rw [List.getD_eq_getElem?_getD, List.getElem?_replicate, if_pos hj]; rfl
    rwa [e] at this
  have HZ : Hid (intsV (filld 0 (List.replicate 12 (-1))) = List.replicate 12 (.int .i64 0)) := by show _ = _; simp [filld, intsV]
  have HE : Hid (intsV (filld 12 (List.replicate 12 (-1))) = intsV (exM (l.take 0))) := by show _ = _; rw [List.take_zero, exM_nil]; simp [filld]
  have HL : Hid (exM (l.take l.length) = exM l) := by show _ = _; rw [List.take_length]
  have HST : Hid (∀ k, k < l.length → (∃ xp xn : Nat, l[k]!.p = xp ∧ l[k]!.n = xn ∧ xp + xn ≤ 12) ∧ (0 ≤ l[k]!.b ∧ l[k]!.b + l[k]!.n ≤ 24) ∧ (∀ q p : Nat, (p : Int) = l[k]!.p + q → p < 12 → (intsV (mapK (exM (l.take k)) l[k]! q)).set p (.int .i64 (l[k]!.b + q)) = intsV (mapK (exM (l.take k)) l[k]! (q + 1))) ∧ intsV (exM (l.take k)) = intsV (mapK (exM (l.take k)) l[k]! 0) ∧ ∀ xn : Nat, l[k]!.n = xn → intsV (mapK (exM (l.take k)) l[k]! xn) = intsV (exM (l.take (k + 1)))) := fun k hk => by
    have hone := h.one l[k]! (by rw [getElem!_pos l k hk]; exact List.getElem_mem hk)
    refine ⟨⟨l[k]!.p.toNat, l[k]!.n.toNat, by omega, by omega, by omega⟩, ⟨by omega, by omega⟩, fun q p hp hp2 => ?_, ?_, fun xn hxn => ?_⟩
    · rw [← mapK_step (exM (l.take k)) l[k]! q p hp hp2]
      unfold intsV
      rw [List.map_set]
    · rw [mapK_zero _ _ (exM_len _)]
    · have ht := h.take (k + 1)
      rw [ex_take l k hk] at ht ⊢
      rw [exM_snoc ht xn hxn]
  obtain ⟨n, HN⟩ : ∃ n, Hid (n = l.length) := ⟨_, rfl⟩
  have HR : Hid (∀ w' u, IntRow w' w.heap.size u (exM l) = w'.ownsRow w.heap.size 3 1 u 12 (intsV (exM l))) := fun _ _ => by unfold IntRow; rw [exM_len]
  rw [← HN.out] at hva hlen HL HST ⊢
  obtain ⟨i0, hi, hz0, hz1, hz2⟩ := info_parts Try.infoInt
  clear h
  go_enter Try.func41, Try.ntmps41
  go_wp2_with (at_make; refine wpList_make_full _ rfl _ _ 31 rfl w.heap.size 3 i0 (.int .i64 0) 1 Try.underlying31 hi hz0 hz1 .i64 .i64 _ _ 12 rfl rfl rfl rfl (by rw [hz2]; omega) (by unfold maxLen; omega) (Nat.le_refl _) ?_; intro w1 hown1 hgrow1)
  have hown2 : w1.ownsRow w.heap.size 3 1 (.slice (some ⟨w.heap.size, 0, none⟩) 12 12) 12 (intsV (filld 0 (List.replicate 12 (-1)))) := by
    rw [HZ.out, ← toList_madeCells_one]; simpa [Value.cells] using hown1
  have hbel2 : Below w.heap.size w w1 := (Below.refl _ _).grown hgrow1 (Nat.le_refl _) (fun _ h => by cases h)
  clear hown1 hgrow1
  go_wp2
  go_loopw [4] (fun i wr => ∃ k : Nat, k ≤ 12 ∧ i = .int .i64 k ∧ wr.ownsRow w.heap.size 3 1 (.slice (some ⟨w.heap.size, 0, none⟩) 12 12) 12 (intsV (filld k (List.replicate 12 (-1)))) ∧ Below w.heap.size w wr) (fun i _ => 12 - (intOf i).toNat)
  case atStart => exact ⟨0, Nat.zero_le _, rfl, hown2, hbel2⟩
  case round =>
    clear hown2 hbel2
    obtain ⟨k, hk, rfl, hown, hbel⟩ := hrel
    by_cases hlt : k < 12
    · have hltz : (k : Int) < 12 := by omega
      have hfz := hown.frozenAt k
      obtain ⟨u, hcl⟩ : ∃ u, wr.cell? ⟨w.heap.size, k, none⟩ = some u := ⟨_, (hown.cellAt k (by omega)).trans (List.getElem?_eq_getElem (by have := hown.1; omega))⟩
      have hst := (hown.stored k (.int .i64 (-1))).1
      rw [HM.out k hlt] at hst
      have HS : Hid ((wr.setCell ⟨w.heap.size, k, none⟩ (.int .i64 (-1))).ownsRow w.heap.size 3 1 (.slice (some ⟨w.heap.size, 0, none⟩) 12 12) 12 (intsV (filld (k + 1) (List.replicate 12 (-1))))) := hst
      clear hst hown HM HZ HE HL HST HR
      go_wp2
      go_roundw
      case rel => exact ⟨k + 1, by omega, by go_num, HS.out, hbel.setCell (Nat.le_refl _) _⟩
      case measure => simp [intOf]; omega
    · have hltz : ¬ (k : Int) < 12 := by omega
      have hk12 : k = 12 := by omega
      rw [hk12, HE.out] at hown
      have hown3 := hown
      clear hown HM HZ HE hk12
      go_wp2
      go_loopw [5] (fun iv wx => ∃ t : Nat, t ≤ n ∧ iv = .int .i64 t ∧ wx.ownsRow w.heap.size 3 1 (.slice (some ⟨w.heap.size, 0, none⟩) 12 12) 12 (intsV (exM (l.take t))) ∧ Below w.heap.size w wx) (fun iv _ => n - (intOf iv).toNat)
      case atStart => exact ⟨0, Nat.zero_le _, rfl, hown3, hbel⟩
      case round =>
        clear hown3 hbel
        obtain ⟨t, ht, rfl, hown, hbel⟩ := hrel
        by_cases htn : t < n
        · have htz : (t : Int) < (n : Int) := by omega
          obtain ⟨b1, o1, rfl, hb1, hc1⟩ := hva t htn
          obtain ⟨⟨xp, xn, exp, exn, hpn⟩, ⟨hxb0, hxb1⟩, HS0, HI0, HF0⟩ := HST.out t htn
          have HS1 : Hid _ := HS0
          have HF1 : Hid _ := HF0 xn exn
          rw [HI0] at hown
          have c0 := hc1.c0
          have c1 := hc1.c1
          have c2 := hc1.c2
          rw [exp] at c0
          rw [exn] at c2
          rw [exp] at HS1
          rw [exn] at hxb1
          have HC : Hid (∀ W, Below w.heap.size w W → W.cell? ⟨b1, o1 + t * 3, none⟩ = some (.int .i64 xp) ∧ W.cell? ⟨b1, o1 + t * 3 + 1, none⟩ = some (.int .i64 l[t]!.b) ∧ W.cell? ⟨b1, o1 + t * 3 + 2, none⟩ = some (.int .i64 xn)) := fun W hW => ⟨(hW.cell (p := ⟨b1, o1 + t * 3, none⟩) hb1).trans c0, (hW.cell (p := ⟨b1, o1 + t * 3 + 1, none⟩) hb1).trans c1, (hW.cell (p := ⟨b1, o1 + t * 3 + 2, none⟩) hb1).trans c2⟩
          clear hc1 c0 c1 c2 HST HL HS0 HF0 HI0 exp exn
          generalize l[t]! = x at *
          generalize x.b = xb at *
          generalize exM (l.take t) = m0 at *
          go_wp2
          go_loopw [6] (fun qv wx => ∃ q : Nat, q ≤ xn ∧ qv = .int .i64 q ∧ wx.ownsRow w.heap.size 3 1 (.slice (some ⟨w.heap.size, 0, none⟩) 12 12) 12 (intsV (mapK m0 x q)) ∧ Below w.heap.size w wx) (fun qv _ => xn - (intOf qv).toNat)
          case atStart => exact ⟨0, Nat.zero_le _, rfl, hown, hbel⟩
          case round =>
            clear hown hbel
            obtain ⟨q, hq, rfl, hown, hbel⟩ := hrel
            obtain ⟨d0, d1, d2⟩ := HC.out _ hbel
            by_cases hqn : q < xn
            · have hqz : (q : Int) < (xn : Int) := by omega
              obtain ⟨pn, hpq⟩ : ∃ pn, pn = xp + q := ⟨_, rfl⟩
              obtain ⟨z, hz⟩ : ∃ z, z = xb + (q : Int) := ⟨_, rfl⟩
              have vp : IntKind.i64.wrap ((xp : Int) + (q : Int)) = (pn : Int) := by rw [IntKind.wrap_i64]; omega
              have vz : IntKind.i64.wrap (xb + (q : Int)) = z := by rw [IntKind.wrap_i64]; omega
              have hp12 : (pn : Int) < 12 := by omega
              have hfz := hown.frozenAt pn
              obtain ⟨u, hcl⟩ : ∃ u, wr.cell? ⟨w.heap.size, pn, none⟩ = some u := ⟨_, (hown.cellAt pn (by omega)).trans (List.getElem?_eq_getElem (by have := hown.1; omega))⟩
              have hst := (hown.stored pn (.int .i64 z)).1
              have hs := HS1.out q pn (by omega) (by omega)
              rw [← hz] at hs
              rw [hs] at hst
              have HS : Hid ((wr.setCell ⟨w.heap.size, pn, none⟩ (.int .i64 z)).drew.ownsRow w.heap.size 3 1 (.slice (some ⟨w.heap.size, 0, none⟩) 12 12) 12 (intsV (mapK m0 x (q + 1)))) := hst
              have HB : Hid (Below w.heap.size w (wr.setCell ⟨w.heap.size, pn, none⟩ (.int .i64 z)).drew) := (hbel.setCell (Nat.le_refl _) _).trans ⟨rfl, rfl, rfl, Nat.le_refl _, fun _ _ => rfl⟩
              clear hst hs hpq hz hown HC HF1 HS1 hbel
              go_upto_region 12 with fail
              go_big_region_o
              generalize (wr.setCell ⟨w.heap.size, pn, none⟩ (.int .i64 z)).drew = w4 at HS HB ⊢
              clear d0 d1 d2 hfz hcl
              go_wp2
              go_roundw
              case rel => exact ⟨q + 1, by omega, by go_num, HS.out, HB.out⟩
              case measure => simp [intOf]; omega
            · have hqz : ¬ (q : Int) < (xn : Int) := by omega
              have hqe : q = xn := by omega
              rw [hqe, HF1.out] at hown
              have hown5 := hown
              clear hown hqe HC HF1 HS1
              go_wp2
              go_roundw
              case rel => exact ⟨t + 1, by omega, by go_num, hown5, hbel⟩
              case measure => simp [intOf]; omega
        · have htz : ¬ (t : Int) < (n : Int) := by omega
          have htn2 : t = n := by omega
          rw [htn2, HL.out] at hown
          have HRE : Hid (IntRow wr w.heap.size (.slice (some ⟨w.heap.size, 0, none⟩) 12 12) (exM l)) := by show IntRow _ _ _ _; rw [HR.out]; exact hown
          clear hown htn2 HST HL HR
          go_wp2
          go_ret
          exact ⟨_, rfl, HRE.out, hbel⟩
end Go.Proofs.Ytkbkanmmpdeokaa
