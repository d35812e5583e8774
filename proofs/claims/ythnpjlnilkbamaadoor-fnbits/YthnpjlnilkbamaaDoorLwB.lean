/- FnBits' walk, given what the program's four functions answer. -/
import Derived.Test.YthnpjlnilkbamaaDoorRows
import Derived.Test.YthnpjlnilkbamaaDoorBtF
import Derived.Test.YthnpjlnilkbamaaDoorBtD
namespace Go.Proofs.YthnpjlnilkbamaaDoor
open Go.RowKit Go.Sort

/-- what impl.Runs, FindRun, SetRun and FreeOf answer, wherever the blocks of w0 lie as they did -/
structure BtImpl (w0 : World) : Prop where
  r : ∀ (v : Value) (b : List Bool) (w : World), Below w0.heap.size w0 w → BosAt w v b → b.length ≤ 1048576 → Calls Tryd.prog 8 #[v] w fun e w' => ∃ u, e = .returned u ∧ RnRow w' w.heap.size u (runsN b) ∧ Below w.heap.size w w'
  f : ∀ (v : Value) (b : List Bool) (n : Int) (w : World), Below w0.heap.size w0 w → BosAt w v b → b.length ≤ 1048576 → Calls Tryd.prog 15 #[v, .int .i64 n] w fun e w' => e = .returned (.int .i64 (findN b n)) ∧ Below w.heap.size w w'
  s : ∀ (v : Value) (b : List Bool) (p n : Int) (x : Bool) (w : World), BosAt w v b → b.length ≤ 1048576 → Calls Tryd.prog 9 #[v, .int .i64 p, .int .i64 n, .bool x] w fun e w' => SaysSt w (setRunN b p n x) (setRunB b p n x) e w'
  e : ∀ (v : Value) (b : List Bool) (w : World), BosAt w v b → b.length ≤ 1048576 → Calls Tryd.prog 12 #[v] w fun e w' => e = .returned (.int .i64 (freeN b)) ∧ Below w.heap.size w w'

structure RunAt (b : List Bool) (l : List Rn) (i : Nat) : Prop where
  n1 : 1 ≤ l[i]!.n
  p0 : 0 ≤ l[i]!.p
  top : l[i]!.p + l[i]!.n ≤ 24
  free : ∀ j : Nat, l[i]!.p ≤ j → (j : Int) < l[i]!.p + l[i]!.n → b[j]! = false
  gap : 0 < i → l[i - 1]!.p + l[i - 1]!.n < l[i]!.p ∧ (0 ≤ l[i - 1]!.p ∧ l[i - 1]!.p ≤ 24 ∧ 0 ≤ l[i - 1]!.n ∧ l[i - 1]!.n ≤ 24)
theorem run_at {b : List Bool} (hb : b.length = 24) {i : Nat} (hi : i < (runsN b).length) : RunAt b (runsN b) i := by
  obtain ⟨h1, h2⟩ := runsN_right hb
  have hm := h1.one (runsN b)[i]! (by rw [getElem!_pos _ i hi]; exact List.getElem_mem hi)
  refine ⟨hm.2.1, hm.1, hm.2.2, fun j e1 e2 => ?_, fun h0 => ?_⟩
  · obtain ⟨j', e, _, h⟩ := (h2 j).1 ⟨(runsN b)[i]!, by rw [getElem!_pos _ i hi]; exact List.getElem_mem hi, e1, e2⟩
    obtain rfl : j = j' := by omega
    exact h
  · have hm2 := h1.one (runsN b)[i - 1]! (by rw [getElem!_pos _ (i - 1) (by omega)]; exact List.getElem_mem (by omega))
    have := List.pairwise_iff_getElem.1 h1.gap (i - 1) i (by omega) hi (by omega)
    rw [getElem!_pos _ (i - 1) (by omega), getElem!_pos _ i hi]
    rw [getElem!_pos _ (i - 1) (by omega)] at hm2
    omega

theorem set_back {b : List Bool} {p n : Int} {x : Bool} (hb : b.length = 24) (h : canSet b p n x) : setRunN (setB b p n x) p n (!x) = b ∧ setRunB (setB b p n x) p n (!x) = true := by
  have hl : (setB b p n x).length = 24 := by rw [setB_len]; exact hb
  have hc : canSet (setB b p n x) p n (!x) := ⟨h.1, h.2.1, h.2.2.1, h.2.2.2.1, fun j e1 e2 => by
    rw [setB_get b p n x j (by have := h.2.2.2.1; omega), if_pos ⟨e1, e2⟩]
    cases x <;> decide⟩
  obtain ⟨e1, e2⟩ := setRunN_can hl hc
  exact ⟨e1.trans (setB_back b p n x h.2.2.2.2), e2⟩

set_option maxRecDepth 100000 in
set_option maxHeartbeats 8000000 in
theorem bits_walk {w : World} (I : BtImpl w) (S : Src) (ok : S.ok) (hl : Lies S w) :
    Calls Tryd.prog 3 #[.slice S.a S.len S.cap] w fun e w' => e = .returned (.bool true) ∧ Below w.heap.size w w' := by
  have hlen : S.len ≤ 1048576 := ok.1
  have HDR := drawSetRun_any S ok w hl
  go_enter Tryd.func3, Tryd.ntmps3
  go_wp2_with (first | (go_at_call 6; go_in))
  refine HDR.mono ?_
  rintro _ w1 ⟨vb, b, p, n, x, rfl, hb1, hbl, b1⟩
  clear HDR
  go_wp2_with fail
  refine (I.r vb b w1 b1 hb1 (by omega)).mono ?_
  rintro _ w2 ⟨vr, rfl, r2, b2⟩
  have hb2 := hb1.below b2
  have B2 := b1.trans (b2.mono b1.size)
  have hr2 := r2.at
  go_wp2_with fail
  refine (I.s vb b p n x w2 hb2 (by omega)).mono ?_
  rintro _ w3 ⟨vx, rfl, r3, b3⟩
  have hb3 := hb2.below b3
  have hr3 := hr2.below b3
  have hx3 := r3.at
  have B3 := B2.trans (b3.mono B2.size)
  go_wp2_with fail
  refine (sSetRun vb b p n x w3 hb3).mono ?_
  rintro _ w4 ⟨vy, rfl, -, b4⟩
  have hb4 := hb3.below b4
  have hr4 := hr3.below b4
  have hx4 := hx3.below b4
  have B4 := B3.trans (b4.mono B3.size)
  have HTOLD : (setRunB b p n x != setRunB b p n x) = false := by simp
  have HBO := sBitsOk vb b w4 hb4
  have hla := hl.below B4
  clear hb1 hb2 hb3 hr2 hr3 hx3 r2 r3 b1 b2 b3 b4 B2 B3 hl
  by_cases hb : b.length = 24
  · rw [decide_eq_true hb] at HBO
    have HRA : Hid (∀ i, i < (runsN b).length → RunAt b (runsN b) i) := fun i hi => run_at hb hi
    have HC := fun h => setRunN_can (b := b) (p := p) (n := n) (v := x) hb h
    have HNC := fun h => setRunN_cannot (b := b) (p := p) (n := n) (v := x) hb h
    have HSUM : Hid (∀ k, 0 ≤ rnSum ((runsN b).take k) ∧ rnSum ((runsN b).take k) ≤ 24) := runsN_sum b
    have HTK : Hid (∀ k, k < (runsN b).length → rnSum ((runsN b).take (k + 1)) = rnSum ((runsN b).take k) + (runsN b)[k]!.n) := fun k hk => rnSum_take _ k hk
    have HFR : Hid (freeN b = rnSum ((runsN b).take (runsN b).length)) := by show _ = _; rw [List.take_length]; rfl
    have hrl := runsN_len b
    have HF1 := fun w' h => I.e vb b w' h (by omega)
    have HF2 := fun w' h => sFreeOf vb b w' h
    generalize freeN b = fr at HFR HF1 HF2
    generalize runsN b = l at *
    obtain ⟨ab, cb, rfl, -, hvb⟩ := id hb4
    obtain ⟨ar, cr, rfl, -, hvr⟩ := id hr4
    rw [hb] at hvb hb4 HF1 HF2 HBO
    have HBL : Hid (b.length = 24) := hb
    rw [hb]
    obtain ⟨m, HM⟩ : ∃ m, Hid (m = l.length) := ⟨_, rfl⟩
    rw [← HM.out] at hvr hr4 HRA HTK HFR hrl ⊢
    clear hb
    generalize HIS : setRunB b p n x = is at *
    have HIS : Hid _ := HIS
    go_wp2_with (go_at_call 11; refine HBO.mono ?_; rintro e w5 ⟨rfl, rfl⟩)
    clear HBO
    go_loopw [12, 13] (fun fv iv wr => ∃ (i : Nat) (s : Int), i ≤ m ∧ iv = .int .i64 i ∧ fv = .int .i64 s ∧ Hid (s = rnSum (l.take i)) ∧ Below w4.heap.size w4 wr) (fun _ iv _ => m - (intOf iv).toNat)
    case atStart => exact ⟨0, 0, Nat.zero_le _, rfl, rfl, by show _ = _; simp [rnSum], Below.refl _ _⟩
    case round =>
      obtain ⟨i, s, hi, rfl, rfl, HS, hbel⟩ := hrel
      by_cases hlt : i < m
      · obtain ⟨b1, o1, rfl, hbb1, hc1⟩ := hvr i hlt
        have hc1 := hc1.below hbb1 hbel
        have RA := HRA.out i hlt
        obtain ⟨t, HT⟩ : ∃ t, Hid (t = i - 1) := ⟨_, rfl⟩
        obtain ⟨b3, o3, e3, hbb3, hc3⟩ := hvr t (by have := HT.out; omega)
        cases e3
        have hc3 := hc3.below hbb1 hbel
        have hst := HTK.out i hlt
        have hs0 := HSUM.out i
        have hs1 := HSUM.out (i + 1)
        rw [← HS.out] at hst hs0
        rw [hst] at hs1
        have HX : Hid (s + l[i]!.n = rnSum (l.take (i + 1))) := hst.symm
        obtain ⟨ra1, ra2, ra3, ra4, ra5⟩ := RA
        rw [← HT.out] at ra5
        have HGAP : Hid _ := ra5
        have HFREE : Hid _ := ra4
        have HCR : Hid (∀ w', Below wr.heap.size wr w' → CellsRn w' b1 (o1 + i * 2) l[i]!) := fun w' h => hc1.below (Nat.lt_of_lt_of_le hbb1 hbel.size) h
        clear ra5 ra4 hst HTK HSUM HRA
        generalize l[i]! = r at *
        generalize l[t]! = y at *
        obtain ⟨r0, r1⟩ := r
        obtain ⟨y0, y1⟩ := y
        dsimp only at *
        have q0 := cell_regrown hc1.c0
        have q1 := cell_regrown hc1.c1
        have j0 := cell_regrown hc3.c0
        have j1 := cell_regrown hc3.c1
        dsimp only at q0 q1 j0 j1
        have him : (i : Int) < (m : Int) := by omega
        have hi0 : (0 : Int) ≤ (i : Int) := by omega
        have d1 : decide (r1 < 1) = false := decide_eq_false (by omega)
        have hw1 : IntKind.i64.wrap (s + r1) = s + r1 := by rw [IntKind.wrap_i64]; omega
        have hw2 : IntKind.i64.wrap (r0 + r1) = r0 + r1 := by rw [IntKind.wrap_i64]; omega
        obtain ⟨q, rfl⟩ := Int.eq_ofNat_of_zero_le ra2
        obtain ⟨nn, rfl⟩ := Int.eq_ofNat_of_zero_le (show 0 ≤ r1 by omega)
        clear hc1 hc3
        by_cases hi1 : 0 < i
        · have di : decide (0 < i) = true := decide_eq_true hi1
          obtain ⟨g1, g2, g3, g4, g5⟩ := HGAP.out hi1
          have hwt : IntKind.i64.wrap ((i : Int) - 1) = (t : Int) := by rw [IntKind.wrap_i64, HT.out]; omega
          have jt : (t : Int) < (m : Int) := by have := HT.out; omega
          have jt0 : (0 : Int) ≤ (t : Int) := by omega
          have hwy : IntKind.i64.wrap (y0 + y1) = y0 + y1 := by rw [IntKind.wrap_i64]; omega
          have dg : decide ((q : Int) ≤ y0 + y1) = false := decide_eq_false (by omega)
          clear HGAP hi1
          go_wp2
          refine wp_region_quiet_below (by kernel_rfl) (by kernel_rfl) ?_
          repeat (go_big_quiet_step (fail))
          refine wpQuiet_nil ?_
          rintro w' ⟨⟨dq, osq⟩, rfl⟩
          have hbq := below_regrown wr dq osq
          generalize grow (redrawn wr dq) osq = w6 at hbq ⊢
          have hb6 := hbel.trans (hbq.mono hbel.size)
          obtain ⟨c0, c1⟩ := HCR.out _ hbq
          dsimp only at c0 c1
          have HC6 : Hid (∀ w', Below w6.heap.size w6 w' → w'.cell? ⟨b1, o1 + i * 2, none⟩ = some (.int .i64 (q : Int)) ∧ w'.cell? ⟨b1, o1 + i * 2 + 1, none⟩ = some (.int .i64 (nn : Int))) := fun w' h => by
            have hc := HCR.out w' (hbq.trans (h.mono hbq.size))
            exact ⟨hc.c0, hc.c1⟩
          clear q0 q1 j0 j1 HCR hbq hbel
          go_wp2
          go_loopw [14] (fun kv wr2 => ∃ t : Nat, t ≤ nn ∧ kv = .int .i64 ((q : Int) + (t : Int)) ∧ Below w6.heap.size w6 wr2) (fun kv _ => q + nn - (intOf kv).toNat)
          case atStart => exact ⟨0, Nat.zero_le _, by simp, Below.refl _ _⟩
          case round =>
            obtain ⟨t2, ht2, rfl, hbel2⟩ := hrel
            obtain ⟨e0, e1⟩ := HC6.out _ hbel2
            have q0 := cell_regrown e0
            have q1 := cell_regrown e1
            obtain ⟨k, HK⟩ : ∃ k, Hid (k = q + t2) := ⟨_, rfl⟩
            have hk0 : (q : Int) + (t2 : Int) = (k : Int) := by have := HK.out; omega
            rw [hk0]
            by_cases htt : t2 < nn
            · have hkl : (k : Int) < (q : Int) + (nn : Int) := by omega
              obtain ⟨b5, o5, rfl, hbb5, hc5⟩ := hvb k (by have := HK.out; omega)
              have hfr := HFREE.out k (by have := HK.out; omega) (by have := HK.out; omega)
              have hcb : Hid (∀ w', Below wr.heap.size wr w' → w'.cell? ⟨b5, o5 + k, none⟩ = some (.bool false)) := fun w' h => by
                have h7 := (hc5.below hbb5 (hb6.trans ((hbel2.trans (h.mono hbel2.size)).mono hb6.size))).c0
                rw [Nat.mul_one, hfr] at h7; exact h7
              have dk1 : decide ((k : Int) < 0) = false := decide_eq_false (by omega)
              have dk2 : decide (24 ≤ (k : Int)) = false := decide_eq_false (by have := HK.out; omega)
              have hk24 : (k : Int) < 24 := by have := HK.out; omega
              have hkn : (0 : Int) ≤ (k : Int) := by omega
              have hwk : IntKind.i64.wrap ((k : Int) + 1) = (k : Int) + 1 := by rw [IntKind.wrap_i64]; omega
              clear hvb hvr hc5 hfr HFREE HC6 e0 e1
              go_wp2
              refine wp_region_quiet_below (by kernel_rfl) (by kernel_rfl) ?_
              repeat (go_big_quiet_step (fail))
              refine wpQuiet_nil ?_
              rintro w' ⟨⟨dr, osr⟩, rfl⟩
              have hbr := below_regrown wr dr osr
              generalize grow (redrawn wr dr) osr = w7 at hbr ⊢
              have c7 := hcb.out _ hbr
              go_wp2
              go_roundw
              case rel => exact ⟨t2 + 1, by omega, by rw [show (q : Int) + ((t2 + 1 : Nat) : Int) = (k : Int) + 1 by omega], hbel2.trans (hbr.mono hbel2.size)⟩
              case measure => simp [intOf]; omega
            · obtain rfl : t2 = nn := by omega
              have hkl : ¬ (k : Int) < (q : Int) + (t2 : Int) := by omega
              have dkl : decide ((k : Int) < (q : Int) + (t2 : Int)) = false := decide_eq_false hkl
              clear hvb hvr HFREE
              go_wp2
              refine wp_region_quiet_below (by kernel_rfl) (by kernel_rfl) ?_
              repeat (go_big_quiet_step (fail))
              refine wpQuiet_nil ?_
              rintro w' ⟨⟨dr, osr⟩, rfl⟩
              have hbr := below_regrown wr dr osr
              generalize grow (redrawn wr dr) osr = w7 at hbr ⊢
              have z7 := hbel2.trans (hbr.mono hbel2.size)
              obtain ⟨g0, g1⟩ := HC6.out _ z7
              clear q0 q1 e0 e1 HC6
              go_wp2
              go_roundw
              case rel => exact ⟨i + 1, s + (t2 : Int), by omega, by go_num, rfl, HX, hb6.trans (z7.mono hb6.size)⟩
              case measure => simp [intOf]; omega
        · have di : decide (0 < i) = false := decide_eq_false hi1
          clear HGAP hi1
          go_wp2
          refine wp_region_quiet_below (by kernel_rfl) (by kernel_rfl) ?_
          repeat (go_big_quiet_step (fail))
          refine wpQuiet_nil ?_
          rintro w' ⟨⟨dq, osq⟩, rfl⟩
          have hbq := below_regrown wr dq osq
          generalize grow (redrawn wr dq) osq = w6 at hbq ⊢
          have hb6 := hbel.trans (hbq.mono hbel.size)
          obtain ⟨c0, c1⟩ := HCR.out _ hbq
          dsimp only at c0 c1
          have HC6 : Hid (∀ w', Below w6.heap.size w6 w' → w'.cell? ⟨b1, o1 + i * 2, none⟩ = some (.int .i64 (q : Int)) ∧ w'.cell? ⟨b1, o1 + i * 2 + 1, none⟩ = some (.int .i64 (nn : Int))) := fun w' h => by
            have hc := HCR.out w' (hbq.trans (h.mono hbq.size))
            exact ⟨hc.c0, hc.c1⟩
          clear q0 q1 j0 j1 HCR hbq hbel
          go_wp2
          go_loopw [14] (fun kv wr2 => ∃ t : Nat, t ≤ nn ∧ kv = .int .i64 ((q : Int) + (t : Int)) ∧ Below w6.heap.size w6 wr2) (fun kv _ => q + nn - (intOf kv).toNat)
          case atStart => exact ⟨0, Nat.zero_le _, by simp, Below.refl _ _⟩
          case round =>
            obtain ⟨t2, ht2, rfl, hbel2⟩ := hrel
            obtain ⟨e0, e1⟩ := HC6.out _ hbel2
            have q0 := cell_regrown e0
            have q1 := cell_regrown e1
            obtain ⟨k, HK⟩ : ∃ k, Hid (k = q + t2) := ⟨_, rfl⟩
            have hk0 : (q : Int) + (t2 : Int) = (k : Int) := by have := HK.out; omega
            rw [hk0]
            by_cases htt : t2 < nn
            · have hkl : (k : Int) < (q : Int) + (nn : Int) := by omega
              obtain ⟨b5, o5, rfl, hbb5, hc5⟩ := hvb k (by have := HK.out; omega)
              have hfr := HFREE.out k (by have := HK.out; omega) (by have := HK.out; omega)
              have hcb : Hid (∀ w', Below wr.heap.size wr w' → w'.cell? ⟨b5, o5 + k, none⟩ = some (.bool false)) := fun w' h => by
                have h7 := (hc5.below hbb5 (hb6.trans ((hbel2.trans (h.mono hbel2.size)).mono hb6.size))).c0
                rw [Nat.mul_one, hfr] at h7; exact h7
              have dk1 : decide ((k : Int) < 0) = false := decide_eq_false (by omega)
              have dk2 : decide (24 ≤ (k : Int)) = false := decide_eq_false (by have := HK.out; omega)
              have hk24 : (k : Int) < 24 := by have := HK.out; omega
              have hkn : (0 : Int) ≤ (k : Int) := by omega
              have hwk : IntKind.i64.wrap ((k : Int) + 1) = (k : Int) + 1 := by rw [IntKind.wrap_i64]; omega
              clear hvb hvr hc5 hfr HFREE HC6 e0 e1
              go_wp2
              refine wp_region_quiet_below (by kernel_rfl) (by kernel_rfl) ?_
              repeat (go_big_quiet_step (fail))
              refine wpQuiet_nil ?_
              rintro w' ⟨⟨dr, osr⟩, rfl⟩
              have hbr := below_regrown wr dr osr
              generalize grow (redrawn wr dr) osr = w7 at hbr ⊢
              have c7 := hcb.out _ hbr
              go_wp2
              go_roundw
              case rel => exact ⟨t2 + 1, by omega, by rw [show (q : Int) + ((t2 + 1 : Nat) : Int) = (k : Int) + 1 by omega], hbel2.trans (hbr.mono hbel2.size)⟩
              case measure => simp [intOf]; omega
            · obtain rfl : t2 = nn := by omega
              have hkl : ¬ (k : Int) < (q : Int) + (t2 : Int) := by omega
              have dkl : decide ((k : Int) < (q : Int) + (t2 : Int)) = false := decide_eq_false hkl
              clear hvb hvr HFREE
              go_wp2
              refine wp_region_quiet_below (by kernel_rfl) (by kernel_rfl) ?_
              repeat (go_big_quiet_step (fail))
              refine wpQuiet_nil ?_
              rintro w' ⟨⟨dr, osr⟩, rfl⟩
              have hbr := below_regrown wr dr osr
              generalize grow (redrawn wr dr) osr = w7 at hbr ⊢
              have z7 := hbel2.trans (hbr.mono hbel2.size)
              obtain ⟨g0, g1⟩ := HC6.out _ z7
              clear q0 q1 e0 e1 HC6
              go_wp2
              go_roundw
              case rel => exact ⟨i + 1, s + (t2 : Int), by omega, by go_num, rfl, HX, hb6.trans (z7.mono hb6.size)⟩
              case measure => simp [intOf]; omega
      · obtain rfl : i = m := by omega
        obtain rfl : fr = s := HFR.out.trans HS.out.symm
        have HKEEP : Hid (∀ w', Below w4.heap.size w4 w' → BosAt w' (.slice ab 24 cb) b ∧ BosAt w' vx (setRunN b p n x)) := fun w' h => ⟨hb4.below h, hx4.below h⟩
        have HDF := drawFindRun_any S ok wr (hla.below hbel)
        have nf : (fr != fr) = false := by simp
        clear hvr hvb HRA HSUM HTK HFR hb4 hx4 hr4 hla
        go_wp2_with fail
        refine HDF.mono ?_
        rintro e w5 ⟨vf, bf, kf, rfl, hf5, hfl, b5⟩
        have z5 := hbel.trans (b5.mono hbel.size)
        go_wp2_with fail
        refine (HF1 w5 (HKEEP.out _ z5).1).mono ?_
        rintro e w6 ⟨rfl, b6⟩
        have z6 := z5.trans (b6.mono z5.size)
        have hf6 := hf5.below b6
        go_wp2_with fail
        refine (HF2 w6 (HKEEP.out _ z6).1).mono ?_
        rintro e w7 ⟨rfl, b7⟩
        have z7 := z6.trans (b7.mono z6.size)
        have hf7 := hf6.below b7
        go_wp2_with fail
        refine (I.f vf bf kf w7 (B4.trans (z7.mono B4.size)) hf7 (by omega)).mono ?_
        rintro e w8 ⟨rfl, b8⟩
        have z8 := z7.trans (b8.mono z7.size)
        have hf8 := hf7.below b8
        go_wp2_with fail
        refine (sFindRun vf bf kf w8 hf8).mono ?_
        rintro e w9 ⟨rfl, b9⟩
        have z9 := z8.trans (b9.mono z8.size)
        have nk : (findN bf kf != findN bf kf) = false := by simp
        generalize findN bf kf = fk at nk ⊢
        clear HDF hf5 hf6 hf7 hf8 b5 b6 b7 b8 b9 z5 z6 z7 z8 HF1 HF2 hbel
        have BF := B4.trans (z9.mono B4.size)
        by_cases hcan : canSet b p n x
        · obtain ⟨n1, n2⟩ := HC hcan
          obtain rfl : is = true := n2
          have hback := set_back HBL.out hcan
          have hx9 := (HKEEP.out _ z9).2
          have hb9 := (HKEEP.out _ z9).1
          rw [n1] at hx9
          have HSB := I.s vx (setB b p n x) p n (!x) w9 hx9 (by rw [setB_len, HBL.out]; omega)
          rw [hback.1, hback.2] at HSB
          clear HC HNC n1 hback hx9 hcan HKEEP
          go_wp2_with fail
          refine HSB.mono ?_
          rintro e w10 ⟨vz, rfl, r10, b10⟩
          have hb10 := hb9.below b10
          have hz10 := r10.at
          have B10 := BF.trans (b10.mono BF.size)
          obtain ⟨a1, c1, e1, -, hv1⟩ := hb10
          rw [HBL.out] at e1 hv1
          cases e1
          obtain ⟨a2, c2, e2, -, hv2⟩ := hz10
          rw [HBL.out] at e2 hv2
          subst e2
          clear r10 hb9 HSB
          go_wp2
          go_loopw [19] (fun iv wr => ∃ j : Nat, j ≤ 24 ∧ iv = .int .i64 j ∧ Below w10.heap.size w10 wr) (fun iv _ => 24 - (intOf iv).toNat)
          case atStart => exact ⟨0, by omega, rfl, Below.refl _ _⟩
          case round =>
            obtain ⟨j, hj, rfl, hbel⟩ := hrel
            by_cases hjl : j < 24
            · obtain ⟨d1, o1, rfl, hd1, hc1⟩ := hv1 j hjl
              obtain ⟨d2, o2, rfl, hd2, hc2⟩ := hv2 j hjl
              have k1 := cell_regrown (hc1.below hd1 hbel).c0
              have k2 := cell_regrown (hc2.below hd2 hbel).c0
              rw [Nat.mul_one] at k1 k2
              generalize b[j]! = y at k1 k2
              have hjn : (j : Int) < 24 := by omega
              have hj0 : (0 : Int) ≤ (j : Int) := by omega
              clear hv1 hv2 hc1 hc2
              cases y <;> (
                go_wp2
                refine wp_region_quiet_below (by kernel_rfl) (by kernel_rfl) ?_
                repeat (go_big_quiet_step (fail))
                refine wpQuiet_nil ?_
                rintro w' ⟨⟨dr, osr⟩, rfl⟩
                have hbr := below_regrown wr dr osr
                generalize grow (redrawn wr dr) osr = w11 at hbr ⊢
                go_wp2
                go_roundw
                case rel => exact ⟨j + 1, by omega, by go_num, hbel.trans (hbr.mono hbel.size)⟩
                case measure => simp [intOf]; omega)
            · obtain rfl : j = 24 := by omega
              go_wp2
              go_ret
              exact ⟨rfl, B10.trans (hbel.mono B10.size)⟩
        · obtain ⟨n1, n2⟩ := HNC hcan
          obtain rfl : is = false := n2
          have hx9 := (HKEEP.out _ z9).2
          rw [n1] at hx9
          obtain ⟨ax, cx, ex, -, -⟩ := hx9
          rw [HBL.out] at ex
          subst ex
          clear HC HNC HKEEP hcan
          go_wp2
          go_ret
          exact ⟨rfl, BF⟩
  · rw [decide_eq_false hb] at HBO
    have hr0 : runsN b = [] := by unfold runsN; rw [if_neg hb]
    have hx0 := (setRunN_no (p := p) (n := n) (v := x) hb).1
    have hf0 : freeN b = 0 := by unfold freeN; rw [hr0]; rfl
    have HFE := I.e vb b w4 hb4 (by omega)
    rw [hf0] at HFE
    rw [hr0] at hr4
    rw [hx0] at hx4
    obtain ⟨ar, cr, rfl, -, -⟩ := hr4
    obtain ⟨ax, cx, rfl, -, -⟩ := hx4
    have hz : ([] : List Rn).length = 0 := rfl
    have hz2 : ([] : List Bool).length = 0 := rfl
    rw [hz, hz2]
    clear hr0 hx0 hf0
    generalize setRunB b p n x = is at *
    go_wp2_with (go_at_call 11; refine HBO.mono ?_; rintro e w5 ⟨rfl, rfl⟩)
    refine HFE.mono ?_
    rintro e w6 ⟨rfl, b6⟩
    go_wp2
    go_ret
    exact ⟨rfl, B4.trans (b6.mono B4.size)⟩

end Go.Proofs.YthnpjlnilkbamaaDoor
