/- Names in order: the library's partitionEqual, at places that are held against each other by the names that stand there. -/
import Derived.Test.YtlkemmdcjnaepaaDoorRows
import Derived.Test.YtlkemmdcjnaepaaDoorH03
namespace Go.Proofs.YtlkemmdcjnaepaaDoor

section
open Go.RowKit Go.Sort Go.Shelf Go.Lib

set_option maxRecDepth 100000 in
set_option maxHeartbeats 8000000 in
theorem peq_any {m : Nat} {w0 : World} {blk off : Nat} {d0 : Array (Fin (m + 1))} {rv : Value} {cf : Fin (m + 1) → Fin (m + 1) → Int} (S : Sby m w0 blk off d0 rv cf) (cap a b pv : Nat) (d : Array (Fin (m + 1))) (w : World) (hw : SW encF w0 blk off d w) (hs : d.size = d0.size) (hpa : a ≤ pv) (hpb : pv < b) (hb : b ≤ d.size) :
    Calls Tryd.prog 78 #[.slice (some ⟨blk, off, none⟩) d.size cap, .int .i64 a, .int .i64 b, .int .i64 pv, .func (.func 37) #[rv] #[]] w fun e w' => e = .returned (.int .i64 (((Sort.partitionEqual (ltOf cf) d a b pv).1 : Nat) : Int)) ∧ SW encF w0 blk off (Sort.partitionEqual (ltOf cf) d a b pv).2 w' := by
  have mixed : Tryd.prog.follows .mixedOrders = true := by kernel_rfl
  have hsz := S.hs
  have HSW : Hid (∀ (dk : Array (Fin (m + 1))) (W : World) (i j : Nat), dk.size = d.size → SW encF w0 blk off dk W → i < d.size → j < d.size → (W.cell? ⟨blk, off + i, none⟩ = some (.int .i64 ((dk[i]!.val : Nat) : Int)) ∧ W.cell? ⟨blk, off + j, none⟩ = some (.int .i64 ((dk[j]!.val : Nat) : Int))) ∧ (W.frozen? ⟨blk, off + i, none⟩ = false ∧ W.frozen? ⟨blk, off + j, none⟩ = false) ∧
    (∃ u, (W.setCell ⟨blk, off + i, none⟩ (.int .i64 ((dk[j]!.val : Nat) : Int))).cell? ⟨blk, off + j, none⟩ = some u) ∧
    SW encF w0 blk off (swp dk i j) ((W.setCell ⟨blk, off + i, none⟩ (.int .i64 ((dk[j]!.val : Nat) : Int))).setCell ⟨blk, off + j, none⟩ (.int .i64 ((dk[i]!.val : Nat) : Int)))) := fun dk W i j h1 h2 h3 h4 => S.swap h2 (h1.trans hs) i j (by omega) (by omega)
  have HCL : Hid (∀ (dk : Array (Fin (m + 1))) (W : World) (i : Nat), dk.size = d.size → SW encF w0 blk off dk W → i < d.size → W.cell? ⟨blk, off + i, none⟩ = some (.int .i64 ((dk[i]!.val : Nat) : Int))) := fun dk W i h1 h2 h3 => S.cell h2 (h1.trans hs) i (by omega)
  have HCM : Hid (∀ (dk : Array (Fin (m + 1))) (W : World), dk.size = d.size → SW encF w0 blk off dk W → ∀ (x y : Fin (m + 1)) (q : Nat), Calls Tryd.prog 37 #[rv, .int .i64 ((x.val : Nat) : Int), .int .i64 ((y.val : Nat) : Int)] (W.drewN q) fun e w' => e = .returned (.int .i64 (cf x y)) ∧ ∃ p, w' = (W.drewN q).drewN p) := fun dk W h1 h2 x y q => S.cmp dk (W.drewN q) (h1.trans hs) (h2.drewN q) x y
  rw [Sort.partitionEqual]
  obtain ⟨PL, HP0⟩ : ∃ PL, partEqLoop (ltOf cf) a (a + 1) (b - 1) (swp d a pv) = PL := ⟨_, rfl⟩
  rw [HP0]
  have HL0 : Hid (partEqLoop (ltOf cf) a (a + 1) (b - 1) (swp d a pv) = PL) := HP0
  have HEQ : Hid (∀ i0 j0 (dk : Array (Fin (m + 1))), partEqLoop (ltOf cf) a i0 j0 dk = PL → ∀ I J, scanUp (fun x => !ltOf cf dk[a]! x) dk j0 i0 = I → scanDown (fun x => ltOf cf dk[a]! x) dk I j0 = J → (J < I → PL = (I, dk)) ∧ (¬ J < I → partEqLoop (ltOf cf) a (I + 1) (J - 1) (swp dk I J) = PL)) := fun i0 j0 dk h I J h1 h2 => by
    subst h1 h2
    rw [partEqLoop_eq] at h
    constructor
    · intro hc; rw [if_pos hc] at h; exact h.symm
    · intro hc; rw [if_neg hc] at h; exact h
  have HW : Hid (SW encF w0 blk off d w) := hw
  clear hw HP0
  obtain ⟨n, HN⟩ : ∃ n, Hid (n = d.size) := ⟨_, rfl⟩
  have hn : n ≤ 1048576 := by rw [HN.out, hs]; exact hsz
  rw [← HN.out] at HSW HCL HCM hb ⊢
  have v1 : IntKind.i64.wrap ((a : Int) + 1) = ((a + 1 : Nat) : Int) := by rw [IntKind.wrap_i64]; omega
  have v2 : IntKind.i64.wrap ((b : Int) - 1) = ((b - 1 : Nat) : Int) := by rw [IntKind.wrap_i64]; omega
  have ia : (a : Int) < (n : Int) := by omega
  have ip : (pv : Int) < (n : Int) := by omega
  have hsd : Hid (d.size = n) := HN.out.symm
  go_enter Tryd.func78, Tryd.ntmps78
  obtain ⟨⟨s1, s2⟩, ⟨f1, f2⟩, ⟨u, s3⟩, hsw2⟩ := HSW.out d w (a) (pv) hsd.out HW.out (by omega) (by omega)
  have HX : Hid (SW encF w0 blk off (swp d (a) (pv)) ((w.setCell ⟨blk, off + (a), none⟩ (.int .i64 ((d[pv]!.val : Nat) : Int))).setCell ⟨blk, off + (pv), none⟩ (.int .i64 ((d[a]!.val : Nat) : Int))).drew) := hsw2.drewN 1
  generalize ((d[a]!.val : Nat) : Int) = x0 at s1 s2 s3 HX
  generalize ((d[pv]!.val : Nat) : Int) = y0 at s1 s2 s3 HX
  clear hsw2
  go_upto_region 1 with fail
  go_big_region_o
  generalize ((w.setCell ⟨blk, off + (a), none⟩ (.int .i64 y0)).setCell ⟨blk, off + (pv), none⟩ (.int .i64 x0)).drew = wHX at HX ⊢
  clear s1 s2 f1 f2 s3
  have hsk : Hid ((swp d a pv).size = n) := by show _ = _; rw [size_swp]; exact hsd.out
  have hsw : Hid (SW encF w0 blk off (swp d a pv) wHX) := HX
  generalize swp d a pv = dk at hsk hsw HL0
  clear HX HW hsd
  go_wp2
  go_loopw [11, 12] (fun iv jv wr => ∃ (i0 j0 : Nat) (dk : Array (Fin (m + 1))), iv = .int .i64 i0 ∧ jv = .int .i64 j0 ∧ a + 1 ≤ i0 ∧ i0 ≤ j0 + 1 ∧ j0 ≤ b - 1 ∧ Hid (dk.size = n) ∧ Hid (SW encF w0 blk off dk wr) ∧ Hid (partEqLoop (ltOf cf) a i0 j0 dk = PL)) (fun iv jv _ => (intOf jv + 1).toNat - (intOf iv).toNat)
  case atStart => exact ⟨a + 1, b - 1, dk, rfl, rfl, by omega, by omega, by omega, hsk, hsw, HL0⟩
  case round =>
    clear hsk hsw HL0
    obtain ⟨i0, j0, dk, rfl, rfl, hi0, hij0, hj0, hsk, hsw, HL⟩ := hrel
    go_wp2
    go_loopw [11] (fun iv wr => ∃ i : Nat, iv = .int .i64 i ∧ i0 ≤ i ∧ i ≤ j0 + 1 ∧ Hid (SW encF w0 blk off dk wr) ∧ Hid (scanUp (fun x => !ltOf cf dk[a]! x) dk j0 i = scanUp (fun x => !ltOf cf dk[a]! x) dk j0 i0)) (fun iv _ => j0 + 1 - (intOf iv).toNat)
    case atStart => exact ⟨i0, rfl, Nat.le_refl _, hij0, hsw, rfl⟩
    case round =>
      clear hsw
      obtain ⟨i, rfl, hi1, hi2, hsw, HU⟩ := hrel
      obtain ⟨bb, hbb⟩ : ∃ bb, (decide (i ≤ j0) && !ltOf cf dk[a]! dk[i]!) = bb := ⟨_, rfl⟩
      have HB : Hid ((decide (i ≤ j0) && !ltOf cf dk[a]! dk[i]!) = bb) := hbb
      clear hbb
      go_upto_region 3 with fail
      go_cut [47] from 31 to 47 (fun bv wx => bv = .bool bb ∧ Hid (SW encF w0 blk off dk wx))
      case first =>
        by_cases hij : i ≤ j0
        · have hijz : (i : Int) ≤ (j0 : Int) := by omega
          have i1 : (a : Int) < (n : Int) := by omega
          have i2 : (i : Int) < (n : Int) := by omega
          obtain ⟨q1, hb1⟩ : ∃ q, ltOf cf dk[a]! dk[i]! = q := ⟨_, rfl⟩
          have hbq : (!q1) = bb := by rw [← HB.out, hb1, decide_eq_true hij]; rfl
          subst hbq
          have c1a := HCL.out dk wr a hsk.out hsw.out (by omega)
          have c1b := HCL.out dk wr i hsk.out hsw.out (by omega)
          have HC1 := HCM.out dk wr hsk.out hsw.out dk[a]! dk[i]!
          have HQ1 : Hid (∀ q, SW encF w0 blk off dk (wr.drewN q)) := fun q => hsw.out.drewN q
          have hq1 : decide (cf dk[a]! dk[i]! < 0) = q1 := hb1
          generalize cf dk[a]! dk[i]! = k1 at HC1 hq1
          generalize ((dk[a]!.val : Nat) : Int) = xa1 at c1a HC1
          generalize ((dk[i]!.val : Nat) : Int) = xb1 at c1b HC1
          go_quiet ((go_at_call 37; exact Calls.quiet_of (HC1 _)))
          have w6H : Hid (SW encF w0 blk off dk (wr.drewN nq)) := HQ1.out nq
          clear c1a c1b HC1 HQ1
          generalize wr.drewN nq = w6 at w6H ⊢
          cases q1
          · go_wp2_with fail
            go_meet
            exact ⟨rfl, w6H⟩
          · go_wp2_with fail
            go_meet
            exact ⟨rfl, w6H⟩
        · have hijz : ¬ (i : Int) ≤ (j0 : Int) := by omega
          obtain rfl : bb = false := by rw [← HB.out, decide_eq_false hij]; rfl
          have HSQ : Hid (∀ q, SW encF w0 blk off dk (wr.drewN q)) := fun q => hsw.out.drewN q
          go_quiet (fail)
          have w6H : Hid (SW encF w0 blk off dk (wr.drewN nq)) := HSQ.out nq
          clear HSQ
          generalize wr.drewN nq = w6 at w6H ⊢
          go_wp2_with fail
          go_meet
          exact ⟨rfl, w6H⟩
      case rest =>
        obtain ⟨rfl, hsc⟩ := hcut
        clear hsw
        have hsw := hsc
        clear hsc
        cases bb
        · have HI : Hid (scanUp (fun x => !ltOf cf dk[a]! x) dk j0 i0 = i) := by show _ = _; rw [← HU.out]; exact scanUp_stop (by simpa using HB.out)
          have H1 : Hid (i ≤ j0 → ltOf cf dk[a]! dk[i]! = true) := fun h => by have := HB.out; rw [decide_eq_true h, Bool.true_and] at this; simpa using this
          clear HU HB
          go_wp2
          go_loopw [12] (fun iv wr => ∃ j : Nat, iv = .int .i64 j ∧ i ≤ j + 1 ∧ j ≤ j0 ∧ Hid (SW encF w0 blk off dk wr) ∧ Hid (scanDown (fun x => ltOf cf dk[a]! x) dk i j = scanDown (fun x => ltOf cf dk[a]! x) dk i j0)) (fun iv _ => (intOf iv).toNat)
          case atStart => exact ⟨j0, rfl, hi2, Nat.le_refl _, hsw, rfl⟩
          case round =>
            clear hsw
            obtain ⟨j, rfl, hj1, hj2, hsw, HD⟩ := hrel
            obtain ⟨bb, hbb⟩ : ∃ bb, (decide (i ≤ j) && ltOf cf dk[a]! dk[j]!) = bb := ⟨_, rfl⟩
            have HB : Hid ((decide (i ≤ j) && ltOf cf dk[a]! dk[j]!) = bb) := hbb
            clear hbb
            go_upto_region 5 with fail
            go_cut [65] from 50 to 65 (fun bv wx => bv = .bool bb ∧ Hid (SW encF w0 blk off dk wx))
            case first =>
              by_cases hij : i ≤ j
              · have hijz : (i : Int) ≤ (j : Int) := by omega
                have i1 : (a : Int) < (n : Int) := by omega
                have i2 : (j : Int) < (n : Int) := by omega
                obtain ⟨q1, hb1⟩ : ∃ q, ltOf cf dk[a]! dk[j]! = q := ⟨_, rfl⟩
                have hbq : (q1) = bb := by rw [← HB.out, hb1, decide_eq_true hij]; rfl
                subst hbq
                have c1a := HCL.out dk wr a hsk.out hsw.out (by omega)
                have c1b := HCL.out dk wr j hsk.out hsw.out (by omega)
                have HC1 := HCM.out dk wr hsk.out hsw.out dk[a]! dk[j]!
                have HQ1 : Hid (∀ q, SW encF w0 blk off dk (wr.drewN q)) := fun q => hsw.out.drewN q
                have hq1 : decide (cf dk[a]! dk[j]! < 0) = q1 := hb1
                generalize cf dk[a]! dk[j]! = k1 at HC1 hq1
                generalize ((dk[a]!.val : Nat) : Int) = xa1 at c1a HC1
                generalize ((dk[j]!.val : Nat) : Int) = xb1 at c1b HC1
                go_quiet ((go_at_call 37; exact Calls.quiet_of (HC1 _)))
                have w6H : Hid (SW encF w0 blk off dk (wr.drewN nq)) := HQ1.out nq
                clear c1a c1b HC1 HQ1
                generalize wr.drewN nq = w6 at w6H ⊢
                cases q1
                · go_wp2_with fail
                  go_meet
                  exact ⟨rfl, w6H⟩
                · go_wp2_with fail
                  go_meet
                  exact ⟨rfl, w6H⟩
              · have hijz : ¬ (i : Int) ≤ (j : Int) := by omega
                obtain rfl : bb = false := by rw [← HB.out, decide_eq_false hij]; rfl
                have HSQ : Hid (∀ q, SW encF w0 blk off dk (wr.drewN q)) := fun q => hsw.out.drewN q
                go_quiet (fail)
                have w6H : Hid (SW encF w0 blk off dk (wr.drewN nq)) := HSQ.out nq
                clear HSQ
                generalize wr.drewN nq = w6 at w6H ⊢
                go_wp2_with fail
                go_meet
                exact ⟨rfl, w6H⟩
            case rest =>
              obtain ⟨rfl, hsc⟩ := hcut
              clear hsw
              have hsw := hsc
              clear hsc
              cases bb
              · have HJ : Hid (scanDown (fun x => ltOf cf dk[a]! x) dk i j0 = j) := by show _ = _; rw [← HD.out]; exact scanDown_stop (by simpa using HB.out)
                have H2 : Hid (i ≤ j → ltOf cf dk[a]! dk[j]! = false) := fun h => by have := HB.out; rw [decide_eq_true h, Bool.true_and] at this; exact this
                clear HD HB
                by_cases hJI : j < i
                · have hJIz : (j : Int) < (i : Int) := by omega
                  have hr := (HEQ.out _ _ _ HL.out _ _ HI.out HJ.out).1 hJI
                  obtain rfl := hr
                  clear HEQ HI HJ H1 H2 HL
                  go_wp2
                  go_ret
                  exact ⟨rfl, hsw.out⟩
                · have hJIz : ¬ (j : Int) < (i : Int) := by omega
                  have hne : i ≠ j := fun e => by
                    subst e
                    have h1 := H1.out (by omega)
                    have h2 := H2.out (Nat.le_refl _)
                    rw [h1] at h2
                    cases h2
                  have HL2 : Hid (partEqLoop (ltOf cf) a (i + 1) (j - 1) (swp dk i j) = PL) := (HEQ.out _ _ _ HL.out _ _ HI.out HJ.out).2 hJI
                  clear HI HJ H1 H2 HL
                  have ii : (i : Int) < (n : Int) := by omega
                  have ij : (j : Int) < (n : Int) := by omega
                  have wi : IntKind.i64.wrap ((i : Int) + 1) = ((i + 1 : Nat) : Int) := by rw [IntKind.wrap_i64]; omega
                  have wj : IntKind.i64.wrap ((j : Int) - 1) = ((j - 1 : Nat) : Int) := by rw [IntKind.wrap_i64]; omega
                  obtain ⟨⟨s1, s2⟩, ⟨f1, f2⟩, ⟨u, s3⟩, hsw2⟩ := HSW.out dk wc (i) (j) hsk.out hsw.out (by omega) (by omega)
                  have HZ : Hid (SW encF w0 blk off (swp dk (i) (j)) ((wc.setCell ⟨blk, off + (i), none⟩ (.int .i64 ((dk[j]!.val : Nat) : Int))).setCell ⟨blk, off + (j), none⟩ (.int .i64 ((dk[i]!.val : Nat) : Int))).drew) := hsw2.drewN 1
                  generalize ((dk[i]!.val : Nat) : Int) = x0 at s1 s2 s3 HZ
                  generalize ((dk[j]!.val : Nat) : Int) = y0 at s1 s2 s3 HZ
                  clear hsw2
                  go_upto_region 8 with fail
                  go_big_region_o
                  generalize ((wc.setCell ⟨blk, off + (i), none⟩ (.int .i64 y0)).setCell ⟨blk, off + (j), none⟩ (.int .i64 x0)).drew = wHZ at HZ ⊢
                  clear s1 s2 f1 f2 s3
                  have hsz2 : Hid ((swp dk i j).size = n) := by show _ = _; rw [size_swp]; exact hsk.out
                  generalize swp dk i j = dn at HL2 HZ hsz2
                  clear hsw hsk
                  go_wp2
                  go_roundw
                  case rel => exact ⟨i + 1, j - 1, dn, rfl, rfl, by omega, by omega, by omega, hsz2, HZ, HL2⟩
                  case measure => simp [intOf]; omega
              · have hgo : i ≤ j ∧ ltOf cf dk[a]! dk[j]! = true := by simpa using HB.out
                have HD2 : Hid (scanDown (fun x => ltOf cf dk[a]! x) dk i (j - 1) = scanDown (fun x => ltOf cf dk[a]! x) dk i j0) := by show _ = _; rw [← HD.out]; exact (scanDown_go hgo.1 (by omega) hgo.2).symm
                have hgo1 := hgo.1
                have w1 : IntKind.i64.wrap ((j : Int) - 1) = ((j - 1 : Nat) : Int) := by rw [IntKind.wrap_i64]; omega
                clear HB HD hgo
                go_wp2
                go_roundw
                case rel => exact ⟨j - 1, rfl, by omega, by omega, hsw, HD2⟩
                case measure => simp [intOf]; omega
        · have hgo : i ≤ j0 ∧ (!ltOf cf dk[a]! dk[i]!) = true := by simpa using HB.out
          have HU2 : Hid (scanUp (fun x => !ltOf cf dk[a]! x) dk j0 (i + 1) = scanUp (fun x => !ltOf cf dk[a]! x) dk j0 i0) := by show _ = _; rw [← HU.out]; exact (scanUp_go hgo.1 hgo.2).symm
          have hgo1 := hgo.1
          have w1 : IntKind.i64.wrap ((i : Int) + 1) = ((i + 1 : Nat) : Int) := by rw [IntKind.wrap_i64]; omega
          clear HB HU hgo
          go_wp2
          go_roundw
          case rel => exact ⟨i + 1, rfl, by omega, by omega, hsw, HU2⟩
          case measure => simp [intOf]; omega
end

end Go.Proofs.YtlkemmdcjnaepaaDoor
