/- Names: slices.symMergeCmpFunc, where the midst lies in the second part. Names: slices.symMergeCmpFunc at signs with their classes: two parts in order are made one in order. Names: a row of signs with their classes, a part of it put in order. -/
import Derived.Test.YtlkemmdcjnaepaaDoorRows
import Derived.Test.YtlkemmdcjnaepaaDoorG14
import Derived.Test.YtlkemmdcjnaepaaDoorG15
import Derived.Test.YtlkemmdcjnaepaaDoorG13
namespace Go.Proofs.YtlkemmdcjnaepaaDoor

section
open Go.RowKit Go.Shelf Go.Lib Go.Sort

set_option maxRecDepth 1000000 in
set_option maxHeartbeats 8000000 in
theorem symC2 (blk off cap sz N : Nat) (IH : SymSays blk off cap sz N) (a m b : Nat) (d : Array Int) (w : World) (hN : b - a ≤ N) (HZ : Hid (d.size = sz)) (hH : HoldsK encP 2 w blk off d) (hblk : blk < w.heap.size) (ham : a + 1 < m) (hmb : m + 1 < b) (hb : b ≤ sz) (hsz : sz < 4611686018427387904) (hs1 : Hid (Srtd clsN a m d)) (hs2 : Hid (Srtd clsN m b d)) (hbr : m ≤ (a + b) / 2) :
    Calls Tryd.prog 125 #[.slice (some ⟨blk, off, none⟩) sz cap, .int .i64 a, .int .i64 m, .int .i64 b, .func (.func 113) #[] #[]] w fun e w' => e = .returned (.tuple #[]) ∧ ∃ d', SWp w blk off d' w' ∧ Merged clsN a b d d' := by
  have hdz : d.size = sz := HZ.out
  have HST : Hid (SWp w blk off d w) := SWp.start hH hblk
  clear hH
  have mixed : Tryd.prog.follows Departure.mixedOrders = true := by kernel_rfl
  obtain ⟨ma, HMA⟩ : ∃ x : Nat, Hid (x = m - a) := ⟨_, rfl⟩
  have z0 : IntKind.i64.wrap ((m : Int) - (a : Int)) = (ma : Int) := by rw [HMA.out, IntKind.wrap_i64]; omega
  have z01 : ((ma : Int) == 1) = false := by have := HMA.out; rw [beq_eq_false_iff_ne]; omega
  obtain ⟨bm, HBM⟩ : ∃ x : Nat, Hid (x = b - m) := ⟨_, rfl⟩
  have z2 : IntKind.i64.wrap ((b : Int) - (m : Int)) = (bm : Int) := by rw [HBM.out, IntKind.wrap_i64]; omega
  have z21 : ((bm : Int) == 1) = false := by have := HBM.out; rw [beq_eq_false_iff_ne]; omega
  obtain ⟨mid, ss, hse, hih, hhj, hhe, y1, y2, y3, y4, y5⟩ := mid_half a b (by omega) (by omega)
  have HMID : Hid (mid = (a + b) / 2) := hhe
  clear hse hhe
  obtain ⟨n, HN⟩ : ∃ x : Nat, Hid (x = mid + m) := ⟨_, rfl⟩
  have zn : IntKind.i64.wrap ((mid : Int) + (m : Int)) = (n : Int) := by rw [HN.out, IntKind.wrap_i64]; omega
  obtain ⟨p, HP⟩ : ∃ x : Nat, Hid (x = n - 1) := ⟨_, rfl⟩
  have zpp : IntKind.i64.wrap ((n : Int) - 1) = (p : Int) := by rw [HP.out, IntKind.wrap_i64]; have := HN.out; omega
  have hbig : m ≤ mid := by have := HMID.out; omega
  have hbigz : ¬ mid < m := by omega
  clear hbr
  have HB : Hid (∀ c, a ≤ c → c < m → a ≤ c ∧ c < m ∧ m ≤ p - c ∧ p - c < b ∧ c ≤ p) := fun c h1 h2 => by have := HP.out; have := HN.out; have := HMID.out; omega
  go_enter Tryd.func125, Tryd.ntmps125
  go_wp2
  go_loopw [20, 21] (fun vi vj wr => ∃ (i j : Nat), a ≤ i ∧ i ≤ j ∧ j ≤ m ∧ vi = .int .i64 i ∧ vj = .int .i64 j ∧ Hid (SWp w blk off d wr) ∧ Hid (∀ t, a ≤ t → t < i → clsN d[t]! ≤ clsN d[p - t]!) ∧ Hid (∀ t, j ≤ t → t < m → clsN d[p - t]! < clsN d[t]!)) (fun vi vj _ => (intOf vj).toNat - (intOf vi).toNat)
  case atStart => exact ⟨a, m, Nat.le_refl _, by omega, Nat.le_refl _, rfl, rfl, HST, fun t h1 h2 => by omega, fun t h1 h2 => by omega⟩
  case round =>
    obtain ⟨i, j, hi, hij, hj, rfl, rfl, HD, HL, HU⟩ := hrel
    by_cases hlt : i < j
    · have hltz : (i : Int) < (j : Int) := by omega
      obtain ⟨h, s, hse, hih, hhj, hhe, y1, y2, y3, y4, y5⟩ := mid_half i j hlt (by omega)
      clear hse hhe
      obtain ⟨b1, b2, b3, b4, b5⟩ := HB.out h (by omega) (by omega)
      obtain ⟨pc, HPC⟩ : ∃ x : Nat, Hid (x = p - h) := ⟨_, rfl⟩
      rw [← HPC.out] at b3 b4
      have zp : IntKind.i64.wrap ((p : Int) - (h : Int)) = (pc : Int) := by rw [HPC.out, IntKind.wrap_i64]; have := HP.out; have := HN.out; omega
      obtain ⟨lh0, lh1⟩ := HD.out.cells (p := h) (by omega)
      obtain ⟨la0, la1⟩ := HD.out.cells (p := pc) (by omega)
      have hcg : ∀ n os, Calls Tryd.prog 113 #[.agg #[.int .i64 d[pc]!, .int .i64 (clsN d[pc]!)], .agg #[.int .i64 d[h]!, .int .i64 (clsN d[h]!)]] (grow (wr.drewN n) os) fun e w' => e = .returned (.int .i64 (clsN d[pc]! - clsN d[h]!)) ∧ ∃ q os', w' = grow ((grow (wr.drewN n) os).drewN q) os' := fun n os => against_any _ _ _
      have jh : (h : Int) < (sz : Int) := by omega
      have ja : (pc : Int) < (sz : Int) := by omega
      obtain ⟨kh, HKH⟩ : ∃ k, Hid (k = clsN d[h]!) := ⟨_, rfl⟩
      obtain ⟨ka, HKA⟩ : ∃ k, Hid (k = clsN d[pc]!) := ⟨_, rfl⟩
      obtain ⟨xh, HXH⟩ : ∃ k, Hid (k = d[h]!) := ⟨_, rfl⟩
      obtain ⟨xa, HXA⟩ : ∃ k, Hid (k = d[pc]!) := ⟨_, rfl⟩
      rw [← HKH.out, ← HKA.out] at hcg
      rw [← HXH.out, ← HXA.out] at hcg
      rw [← HKH.out] at lh1
      rw [← HKA.out] at la1
      rw [← HXH.out] at lh0
      rw [← HXA.out] at la0
      have KEY : Hid (ka - kh < 0 ↔ clsN d[pc]! < clsN d[h]!) := by show _ ↔ _; rw [HKH.out, HKA.out]; omega
      by_cases hlv : ka - kh < 0
      · have HU2 : Hid (∀ t, h ≤ t → t < m → clsN d[p - t]! < clsN d[t]!) := fun t h1 h2 => by
          have q1 := KEY.out.1 hlv
          have q3 := HB.out t (by omega) h2
          have q2 := hs1.out.le clsN b1 h1 q3.2.1
          have q4 := hs2.out.le clsN q3.2.2.1 (show p - t ≤ pc by have := HPC.out; omega) b4
          omega
        go_wp2_with fail
        go_quiet_grown (first | (go_at_call 113; refine Calls.grown_of (hcg _ _)))
        have HD2 : Hid (SWp w blk off d (grow (wr.drewN nq) osq)) := HD.out.grown nq osq
        clear lh0 lh1 la0 la1 hcg
        generalize grow (wr.drewN nq) osq = W2 at *
        go_wp2
        go_roundw
        case rel => exact ⟨i, h, hi, hih, by omega, rfl, rfl, HD2, HL, HU2⟩
        case measure => simp [intOf]; omega
      · have HL2 : Hid (∀ t, a ≤ t → t < h + 1 → clsN d[t]! ≤ clsN d[p - t]!) := fun t h1 h2 => by
          have q1 : ¬ clsN d[pc]! < clsN d[h]! := fun q => hlv (KEY.out.2 q)
          have q3 := HB.out t h1 (by omega)
          have q2 := hs1.out.le clsN q3.1 (show t ≤ h by omega) b2
          have q4 := hs2.out.le clsN b3 (show pc ≤ p - t by have := HPC.out; omega) q3.2.2.2.1
          omega
        have hlb : decide (ka - kh < 0) = false := decide_eq_false hlv
        clear hlv
        go_wp2_with fail
        go_quiet_grown (first | (go_at_call 113; refine Calls.grown_of (hcg _ _)))
        have HD2 : Hid (SWp w blk off d (grow (wr.drewN nq) osq)) := HD.out.grown nq osq
        clear lh0 lh1 la0 la1 hcg
        generalize grow (wr.drewN nq) osq = W2 at *
        go_wp2
        go_roundw
        case rel => exact ⟨h + 1, j, by omega, by omega, hj, by go_num, rfl, HD2, HL2, HU⟩
        case measure => simp [intOf]; omega
    · obtain rfl : i = j := by omega
      obtain ⟨s, HSI⟩ : ∃ s, s = i := ⟨_, rfl⟩
      subst HSI
      clear hij hlt
      obtain ⟨en, HEN⟩ : ∃ x : Nat, Hid (x + s = n) := ⟨n - s, show n - s + s = n by have := HN.out; omega⟩
      have ze : IntKind.i64.wrap ((n : Int) - (s : Int)) = (en : Int) := by rw [← HEN.out, IntKind.wrap_i64]; have := HEN.out; have := HN.out; omega
      have HPT : Hid (∀ t, p - t = mid + m - 1 - t) := fun t => by rw [HP.out, HN.out]
      have HHALF : Hid (∀ e1 : Array Int, Rot s m en d e1 → Halved clsN a mid b s en d e1) := fun e1 hR => halved clsN (st0 := a) (r0 := m) (by omega) hs1.out hs2.out (by omega) (by omega) (by omega) (by have := HEN.out; have := HN.out; omega) (by have := HEN.out; have := HN.out; have := HMID.out; omega) (by have := HEN.out; have := HN.out; omega)
        (fun c h1 h2 => by rw [← HPT.out c]; exact HL.out c h1 h2) (fun c h1 h2 => by rw [← HPT.out c]; exact HU.out c h1 h2) hi hj (.inl ⟨rfl, rfl⟩) hR
      by_cases hc1 : s < m ∧ m < en
      · have c1a : s < m := by omega
        have c1b : m < en := by omega
        have hC := rotate_any blk off cap s m en (.func (.func 113) #[] #[]) d wr HD.out.holds HD.out.lt hc1.1 hc1.2 (by have := HEN.out; have := HN.out; have := HMID.out; omega) (by omega)
        rw [HZ.out] at hC
        go_wp2_with fail
        refine hC.mono ?_
        rintro e w1 ⟨rfl, e1, hD1, hR⟩
        have HD1 : Hid (SWp w blk off e1 w1) := HD.out.trans hD1 hR.1
        have HZ1 : Hid (e1.size = sz) := hR.1.trans HZ.out
        have HH : Hid (Halved clsN a mid b s en d e1) := HHALF.out e1 hR
        clear hC hD1 hR
        have m1 : s < mid := by have := HEN.out; have := HN.out; omega
        have m2 : mid < en := by have := HEN.out; have := HN.out; omega
        have c3a : mid < en := by omega
        have c2b : s < mid := by omega
        have hbe : en ≤ b := by have := HEN.out; have := HN.out; have := HMID.out; omega
        by_cases hc2 : a < s
        · have c2a : a < s := by omega
          have hI2 := IH a s mid e1 w1 (by omega) HZ1.out HD1.out.holds HD1.out.lt hc2 m1 (by omega) HH.out.s1 HH.out.s2
          go_wp2_with fail
          refine hI2.mono ?_
          rintro e w2 ⟨rfl, e2, hD2, hM2⟩
          have HD2 : Hid (SWp w blk off e2 w2) := HD1.out.trans hD2 hM2.size
          have HM2 : Hid (Merged clsN a mid e1 e2) := hM2
          have HZ2 : Hid (e2.size = sz) := hM2.size.trans HZ1.out
          clear hI2 hD2 hM2
          by_cases hc3 : en < b
          · have c3b : en < b := by omega
            have hI3 := IH mid en b e2 w2 (by omega) HZ2.out HD2.out.holds HD2.out.lt m2 hc3 (by omega) (HH.out.s3.congr clsN fun t _ _ => HM2.out.out t (by omega)) (HH.out.s4.congr clsN fun t _ _ => HM2.out.out t (by have := HEN.out; omega))
            go_wp2_with fail
            refine hI3.mono ?_
            rintro e w3 ⟨rfl, e3, hD3, hM3⟩
            have HD3 : Hid (SWp w blk off e3 w3) := HD2.out.trans hD3 hM3.size
            have HF : Hid (Merged clsN a b d e3) := HH.out.whole clsN (by omega) (by omega) HM2.out hM3
            clear hI3 hD3 hM3
            go_wp2
            go_end0
            exact ⟨rfl, e3, HD3.out, HF.out⟩
          · have c3b : ¬ en < b := by omega
            have heb : Hid (en = b) := by show en = b; omega
            have HF : Hid (Merged clsN a b d e2) := HH.out.whole clsN (by omega) (by omega) HM2.out (Merged.refl clsN ((heb.out ▸ HH.out.s3).congr clsN fun t _ _ => HM2.out.out t (by omega)))
            go_wp2
            go_end0
            exact ⟨rfl, e2, HD2.out, HF.out⟩
        · have c2a : ¬ a < s := by omega
          have hsa : Hid (s = a) := by show s = a; omega
          have HM2 : Hid (Merged clsN a mid e1 e1) := Merged.refl clsN (hsa.out ▸ HH.out.s2)
          have HD2 : Hid (SWp w blk off e1 w1) := HD1
          have HZ2 : Hid (e1.size = sz) := HZ1
          by_cases hc3 : en < b
          · have c3b : en < b := by omega
            have hI3 := IH mid en b e1 w1 (by omega) HZ2.out HD2.out.holds HD2.out.lt m2 hc3 (by omega) (HH.out.s3.congr clsN fun t _ _ => HM2.out.out t (by omega)) (HH.out.s4.congr clsN fun t _ _ => HM2.out.out t (by have := HEN.out; omega))
            go_wp2_with fail
            refine hI3.mono ?_
            rintro e w3 ⟨rfl, e3, hD3, hM3⟩
            have HD3 : Hid (SWp w blk off e3 w3) := HD2.out.trans hD3 hM3.size
            have HF : Hid (Merged clsN a b d e3) := HH.out.whole clsN (by omega) (by omega) HM2.out hM3
            clear hI3 hD3 hM3
            go_wp2
            go_end0
            exact ⟨rfl, e3, HD3.out, HF.out⟩
          · have c3b : ¬ en < b := by omega
            have heb : Hid (en = b) := by show en = b; omega
            have HF : Hid (Merged clsN a b d e1) := HH.out.whole clsN (by omega) (by omega) HM2.out (Merged.refl clsN ((heb.out ▸ HH.out.s3).congr clsN fun t _ _ => HM2.out.out t (by omega)))
            go_wp2
            go_end0
            exact ⟨rfl, e1, HD2.out, HF.out⟩
      · have hsm : Hid (s = m) := by show s = m; have := HEN.out; have := HN.out; omega
        have hem : Hid (en = mid) := by show en = mid; have := HEN.out; have := HN.out; have := hsm.out; omega
        have c1a : ¬ s < m := by have := hsm.out; omega
        have HH : Hid (Halved clsN a mid b s en d d) := HHALF.out d (by rw [hsm.out]; exact Rot.none_l m en d)
        obtain ⟨e1, HE1⟩ : ∃ e1, Hid (d = e1) := ⟨_, rfl⟩
        have HH1 : Hid (Halved clsN a mid b s en d e1) := by show Halved clsN a mid b s en d e1; rw [← HE1.out]; exact HH.out
        have HD1 : Hid (SWp w blk off e1 wr) := by rw [← HE1.out]; exact HD.out
        have HZ1 : Hid (e1.size = sz) := by rw [← HE1.out]; exact HZ.out
        have c2a : a < s := by have := hsm.out; omega
        have c3a : ¬ mid < en := by have := hem.out; omega
        by_cases hc2 : s < mid
        · have c2b : s < mid := by omega
          have hI2 := IH a s mid e1 wr (by have := HMID.out; omega) HZ1.out HD1.out.holds HD1.out.lt (by have := hsm.out; omega) hc2 (by omega) HH1.out.s1 HH1.out.s2
          go_wp2_with fail
          refine hI2.mono ?_
          rintro e w2 ⟨rfl, e2, hD2, hM2⟩
          have HD2 : Hid (SWp w blk off e2 w2) := HD1.out.trans hD2 hM2.size
          have HF : Hid (Merged clsN a b d e2) := HH1.out.whole clsN (by omega) (by omega) hM2 (Merged.refl clsN ((hem.out ▸ HH1.out.s4 : Srtd clsN mid b e1).congr clsN fun t _ _ => hM2.out t (by omega)))
          clear hI2 hD2 hM2
          go_wp2
          go_end0
          exact ⟨rfl, e2, HD2.out, HF.out⟩
        · have c2b : ¬ s < mid := by omega
          have hsd : Hid (s = mid) := by show s = mid; omega
          have HF : Hid (Merged clsN a b d e1) := HH1.out.whole clsN (by omega) (by omega) (Merged.refl clsN (hsd.out ▸ HH1.out.s1)) (Merged.refl clsN (hem.out ▸ HH1.out.s4))
          go_wp2
          go_end0
          exact ⟨rfl, e1, HD1.out, HF.out⟩
end

section
open Go.RowKit Go.Shelf Go.Lib Go.Sort

theorem sym_says (blk off cap sz : Nat) (hsz : sz < 4611686018427387904) : ∀ N, SymSays blk off cap sz N
  | 0 => fun a m b d w h => by omega
  | N + 1 => fun a m b d w hN hz hH hblk ham hmb hb h1 h2 => by
    have IH := sym_says blk off cap sz hsz N
    by_cases c1 : m = a + 1
    · subst hz
      exact symA blk off cap a b d w hH hblk (by omega) hb hsz (c1 ▸ h2) m c1
    · by_cases c2 : b = m + 1
      · subst hz
        exact symB blk off cap a m d w hH hblk (by omega) (by omega) hsz h1 b c2
      · by_cases c3 : (a + b) / 2 < m
        · exact symC1 blk off cap sz N IH a m b d w (by omega) hz hH hblk (by omega) (by omega) hb hsz h1 h2 c3
        · exact symC2 blk off cap sz N IH a m b d w (by omega) hz hH hblk (by omega) (by omega) hb hsz h1 h2 (by omega)
end

section
open Go.RowKit Go.Shelf Go.Lib Go.Sort

/-- the first ones of block g are x, each with its class -/
def PAt (w : World) (g cap : Nat) (x : List Int) : Prop :=
  ∃ cur, w.heap[g]? = some (.cells cur 108 (0, 0)) ∧ cur.size = cap * 2 ∧ x.length ≤ cap ∧ ∀ j, j < x.length → cur[j * 2]? = some (.int .i64 (x.getD j 0)) ∧ cur[j * 2 + 1]? = some (.int .i64 (clsN (x.getD j 0)))

theorem flatP_at : ∀ (x : List Int) (j : Nat), j < x.length → (flatP x)[j * 2]? = some (.int .i64 (x.getD j 0)) ∧ (flatP x)[j * 2 + 1]? = some (.int .i64 (clsN (x.getD j 0)))
  | [], j, h => by simp at h
  | c :: x, 0, _ => ⟨rfl, rfl⟩
  | c :: x, j + 1, h => by
    have ih := flatP_at x j (by simpa using h)
    have e : flatP (c :: x) = .int .i64 c :: .int .i64 (clsN c) :: flatP x := by simp [flatP, encP]
    rw [e, show (j + 1) * 2 = j * 2 + 1 + 1 by omega]
    simpa using ih

theorem PRow.at {w : World} {base g n cap : Nat} {x : List Int} (h : PRow w base (.slice (some ⟨g, 0, none⟩) n cap) x) : PAt w g cap x ∧ n = x.length ∧ base ≤ g ∧ n ≤ cap := by
  rcases h.2 with ⟨e, _⟩ | ⟨g', cap', cur, e, hg, hh, hnc, hcp, hcs, htake⟩
  · cases e
  · cases e
    refine ⟨⟨cur, hh, hcs, hnc, fun j hj => ?_⟩, rfl, hg, hnc⟩
    have h1 := flatP_at x j hj
    have key : ∀ t, t < x.length * 2 → cur[t]? = (flatP x)[t]? := fun t ht => by
      rw [← htake, List.getElem?_take_of_lt ht]; simp
    rw [key _ (by omega), key _ (by omega)]
    exact h1

theorem PAt.lt {w : World} {g cap : Nat} {x : List Int} (h : PAt w g cap x) : g < w.heap.size := by
  obtain ⟨cur, hh, _⟩ := h
  exact lt_of_block hh
theorem PAt.below {w w' : World} {g cap : Nat} {x : List Int} (h : PAt w g cap x) (b : Below w.heap.size w w') : PAt w' g cap x := by
  have hl := h.lt
  obtain ⟨cur, hh, r⟩ := h
  exact ⟨cur, (b.block g hl).trans hh, r⟩
theorem PAt.cells {w : World} {g cap : Nat} {x : List Int} (h : PAt w g cap x) (j : Nat) (hj : j < x.length) : w.cell? ⟨g, j * 2, none⟩ = some (.int .i64 (x.getD j 0)) ∧ w.cell? ⟨g, j * 2 + 1, none⟩ = some (.int .i64 (clsN (x.getD j 0))) := by
  obtain ⟨cur, hh, _, _, hc⟩ := h
  rw [cell_of_row w g _ _ _ (0, 0) hh, cell_of_row w g _ _ _ (0, 0) hh]
  exact hc j hj

/-- a part of it, as the sort takes it -/
theorem PAt.holds {w : World} {g cap : Nat} {x : List Int} (h : PAt w g cap x) (f n : Nat) (hn : f + n ≤ x.length) : HoldsK encP 2 w g (f * 2) ((x.drop f).take n).toArray ∧ ((x.drop f).take n).toArray.size = n := by
  have hsz : ((x.drop f).take n).toArray.size = n := by simp; omega
  refine ⟨fun j hj => ?_, hsz⟩
  rw [size_flatK, hsz] at hj
  have hd : ((x.drop f).take n).toArray[j / 2]! = x.getD (f + j / 2) 0 := by
    rw [getElem!_pos _ _ (by rw [hsz]; omega)]
    simp [List.getD, show f + j / 2 < x.length by omega]
  have hc := h.cells (f + j / 2) (by omega)
  obtain ⟨cur, hh, _⟩ := h
  refine ⟨?_, frozen_of_row w g _ _ _ hh⟩
  show _ = some ((flatK encP 2 _)[j]!)
  rw [get_flatK _ _ _ _ (by rw [hsz]; exact hj), hd]
  rcases Nat.mod_two_eq_zero_or_one j with h2 | h2
  · rw [h2, show f * 2 + j = (f + j / 2) * 2 by omega, hc.1]; rfl
  · rw [h2, show f * 2 + j = (f + j / 2) * 2 + 1 by omega, hc.2]; rfl

/-- and as it leaves it -/
theorem PAt.sorted {w W : World} {g cap : Nat} {x : List Int} (h : PAt w g cap x) (f n : Nat) (hn : f + n ≤ x.length) {dk : Array Int} (hs : SWp w g (f * 2) dk W) (hd : dk.size = n) :
    PAt W g cap (x.take f ++ (dk.toList ++ x.drop (f + n))) ∧ w.grownBy W (some g) := by
  obtain ⟨hb, _, m, os, rfl⟩ := hs
  obtain ⟨cur, hh, hcs, hxc, hc⟩ := h
  have hold : ∀ k, k < w.heap.size → k ≠ g → (sortWorldK encP 2 w g (f * 2) m dk os).heap[k]? = w.heap[k]? := fun k hk hne => by
    unfold sortWorldK
    rw [heap_grow_old _ _ (by rw [size_putRowK]; exact hk)]
    show (w.heap.modify g _)[k]? = _
    rw [Array.getElem?_modify, if_neg (Ne.symm hne)]
  have hnew : (sortWorldK encP 2 w g (f * 2) m dk os).heap[g]? = some (.cells (putCells id (f * 2) (flatK encP 2 dk) cur) 108 (0, 0)) := by
    unfold sortWorldK
    rw [heap_grow_old _ _ (by rw [size_putRowK]; exact hb)]
    show (w.heap.modify g _)[g]? = _
    rw [Array.getElem?_modify, if_pos rfl, hh]
    rfl
  have hlen : (x.take f ++ (dk.toList ++ x.drop (f + n))).length = x.length := by simp [hd]; omega
  refine ⟨⟨_, hnew, by simp [putCells, hcs], by rw [hlen]; exact hxc, fun j hj => ?_⟩, ⟨rfl, rfl, rfl, by unfold sortWorldK; rw [size_grow, size_putRowK]; exact Nat.le_add_right _ _, fun k hk hne => hold k hk (fun e => hne (by rw [e]))⟩⟩
  rw [hlen] at hj
  have hput : ∀ t, t < cap * 2 → (putCells id (f * 2) (flatK encP 2 dk) cur)[t]? = if f * 2 ≤ t ∧ t < f * 2 + n * 2 then some (flatK encP 2 dk)[t - f * 2]! else cur[t]? := fun t ht => by
    unfold putCells
    rw [Array.getElem?_mapIdx, size_flatK, hd]
    have : t < cur.size := by omega
    rw [Array.getElem?_eq_getElem this]
    by_cases hq : f * 2 ≤ t ∧ t < f * 2 + n * 2
    · simp [hq]
    · rw [if_neg hq]; simp [hq]
  rw [hput _ (by omega), hput _ (by omega)]
  have c0 := hc j hj
  by_cases h1 : j < f
  · rw [if_neg (by omega), if_neg (by omega)]
    have e : (x.take f ++ (dk.toList ++ x.drop (f + n))).getD j 0 = x.getD j 0 := by
      simp only [List.getD]
      rw [List.getElem?_append_left (by simp; omega), List.getElem?_take_of_lt h1]
    rw [e]; exact c0
  · by_cases h2 : j < f + n
    · rw [if_pos (by omega), if_pos (by omega)]
      have e : (x.take f ++ (dk.toList ++ x.drop (f + n))).getD j 0 = dk[j - f]! := by
        simp only [List.getD]
        rw [List.getElem?_append_right (by simp; omega), List.getElem?_append_left (by simp; omega)]
        have hk : j - min f x.length < dk.size := by omega
        rw [List.length_take, Array.getElem?_toList, Array.getElem?_eq_getElem hk, getElem!_pos dk (j - f) (by omega)]
        simp only [Option.getD_some]
        congr 1; omega
      rw [e, get_flatK _ _ _ _ (by omega), get_flatK _ _ _ _ (by omega), show (j * 2 - f * 2) / 2 = j - f by omega, show (j * 2 - f * 2) % 2 = 0 by omega, show (j * 2 + 1 - f * 2) / 2 = j - f by omega, show (j * 2 + 1 - f * 2) % 2 = 1 by omega]
      exact ⟨rfl, rfl⟩
    · rw [if_neg (by omega), if_neg (by omega)]
      have e : (x.take f ++ (dk.toList ++ x.drop (f + n))).getD j 0 = x.getD j 0 := by
        simp only [List.getD]
        rw [List.getElem?_append_right (by simp; omega), List.getElem?_append_right (by simp; omega), List.getElem?_drop]
        congr 2; simp; omega
      rw [e]; exact c0
end

end Go.Proofs.YtlkemmdcjnaepaaDoor
