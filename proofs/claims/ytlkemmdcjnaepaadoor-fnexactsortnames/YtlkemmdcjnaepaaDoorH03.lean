/- Names in order: the library's partition, at places that are held against each other by the names that stand there. -/
import Derived.Test.YtlkemmdcjnaepaaDoorRows
import Derived.Test.YtlkemmdcjnaepaaDoorH00
import Derived.Sort.LotC
namespace Go.Proofs.YtlkemmdcjnaepaaDoor

section
open Go.RowKit Go.Sort Go.Shelf Go.Lib

section
variable {α : Type} [Inhabited α] {p : α → Bool} {d : Array α}
theorem scanUp_go {i j : Nat} (h1 : i ≤ j) (h2 : p d[i]! = true) : scanUp p d j i = scanUp p d j (i + 1) := by
  conv => lhs; rw [scanUp, if_pos (by rw [decide_eq_true h1, h2]; rfl)]
theorem scanUp_stop {i j : Nat} (h : i ≤ j → p d[i]! = false) : scanUp p d j i = i := by
  rw [scanUp, if_neg]
  intro hc
  simp only [Bool.and_eq_true, decide_eq_true_eq] at hc
  rw [h hc.1] at hc
  cases hc.2
theorem scanDown_go {i j : Nat} (h1 : i ≤ j) (hj : 1 ≤ j) (h2 : p d[j]! = true) : scanDown p d i j = scanDown p d i (j - 1) := by
  obtain ⟨k, rfl⟩ : ∃ k, j = k + 1 := ⟨j - 1, by omega⟩
  conv => lhs; rw [scanDown, if_pos (by rw [decide_eq_true h1, h2]; rfl)]
  rfl
theorem scanDown_stop {i j : Nat} (h : i ≤ j → p d[j]! = false) : scanDown p d i j = j := by
  cases j with
  | zero => rfl
  | succ k =>
    rw [scanDown, if_neg]
    intro hc
    simp only [Bool.and_eq_true, decide_eq_true_eq] at hc
    rw [h hc.1] at hc
    cases hc.2
end

/-- what partition says: the pivot's place, and whether nothing had to be moved -/
def PartF {m : Nat} (w0 : World) (blk off mid : Nat) (d4 : Array (Fin (m + 1))) (e : Ending) (w' : World) : Prop :=
  ∃ ap : Bool, e = .returned (.tuple #[.int .i64 (mid : Int), .bool ap]) ∧ SW encF w0 blk off d4 w'

set_option maxRecDepth 100000 in
set_option maxHeartbeats 8000000 in
theorem part_any {m : Nat} {w0 : World} {blk off : Nat} {d0 : Array (Fin (m + 1))} {rv : Value} {cf : Fin (m + 1) → Fin (m + 1) → Int} (S : Sby m w0 blk off d0 rv cf) (cap a b pv : Nat) (d : Array (Fin (m + 1))) (w : World) (hw : SW encF w0 blk off d w) (hs : d.size = d0.size) (hpa : a ≤ pv) (hpb : pv < b) (hb : b ≤ d.size) :
    Calls Tryd.prog 79 #[.slice (some ⟨blk, off, none⟩) d.size cap, .int .i64 a, .int .i64 b, .int .i64 pv, .func (.func 37) #[rv] #[]] w fun e w' => PartF w0 blk off (Sort.partition (ltOf cf) d a b pv).1 (Sort.partition (ltOf cf) d a b pv).2.2 e w' := by
  have mixed : Tryd.prog.follows .mixedOrders = true := by kernel_rfl
  have hsz := S.hs
  have HSW : Hid (∀ (dk : Array (Fin (m + 1))) (W : World) (i j : Nat), dk.size = d.size → SW encF w0 blk off dk W → i < d.size → j < d.size → (W.cell? ⟨blk, off + i, none⟩ = some (.int .i64 ((dk[i]!.val : Nat) : Int)) ∧ W.cell? ⟨blk, off + j, none⟩ = some (.int .i64 ((dk[j]!.val : Nat) : Int))) ∧ (W.frozen? ⟨blk, off + i, none⟩ = false ∧ W.frozen? ⟨blk, off + j, none⟩ = false) ∧
    (∃ u, (W.setCell ⟨blk, off + i, none⟩ (.int .i64 ((dk[j]!.val : Nat) : Int))).cell? ⟨blk, off + j, none⟩ = some u) ∧
    SW encF w0 blk off (swp dk i j) ((W.setCell ⟨blk, off + i, none⟩ (.int .i64 ((dk[j]!.val : Nat) : Int))).setCell ⟨blk, off + j, none⟩ (.int .i64 ((dk[i]!.val : Nat) : Int)))) := fun dk W i j h1 h2 h3 h4 => S.swap h2 (h1.trans hs) i j (by omega) (by omega)
  have HCL : Hid (∀ (dk : Array (Fin (m + 1))) (W : World) (i : Nat), dk.size = d.size → SW encF w0 blk off dk W → i < d.size → W.cell? ⟨blk, off + i, none⟩ = some (.int .i64 ((dk[i]!.val : Nat) : Int))) := fun dk W i h1 h2 h3 => S.cell h2 (h1.trans hs) i (by omega)
  have HCM : Hid (∀ (dk : Array (Fin (m + 1))) (W : World), dk.size = d.size → SW encF w0 blk off dk W → ∀ (x y : Fin (m + 1)) (q : Nat), Calls Tryd.prog 37 #[rv, .int .i64 ((x.val : Nat) : Int), .int .i64 ((y.val : Nat) : Int)] (W.drewN q) fun e w' => e = .returned (.int .i64 (cf x y)) ∧ ∃ p, w' = (W.drewN q).drewN p) := fun dk W h1 h2 x y q => S.cmp dk (W.drewN q) (h1.trans hs) (h2.drewN q) x y
  rw [partition_fst, partition_arr]
  obtain ⟨PL, HP0⟩ : ∃ PL, partLoop (ltOf cf) a (a + 1) (b - 1) (swp d a pv) = PL := ⟨_, rfl⟩
  rw [HP0]
  have HL0 : Hid (partLoop (ltOf cf) a (a + 1) (b - 1) (swp d a pv) = PL) := HP0
  have HEQ : Hid (∀ i0 j0 (dk : Array (Fin (m + 1))), partLoop (ltOf cf) a i0 j0 dk = PL → ∀ I J, scanUp (fun x => ltOf cf x dk[a]!) dk j0 i0 = I → scanDown (fun x => !ltOf cf x dk[a]!) dk I j0 = J → (J < I → PL = (J, dk)) ∧ (¬ J < I → partLoop (ltOf cf) a (I + 1) (J - 1) (swp dk I J) = PL)) := fun i0 j0 dk h I J h1 h2 => by
    subst h1 h2
    rw [partLoop_eq] at h
    constructor
    · intro hc; rw [if_pos hc] at h; exact h.symm
    · intro hc; rw [if_neg hc] at h; exact h
  have HW : Hid (SW encF w0 blk off d w) := hw
  have HSD : Hid (d.size = d.size) := rfl
  clear hw HP0
  obtain ⟨n, HN⟩ : ∃ n, Hid (n = d.size) := ⟨_, rfl⟩
  have hn : n ≤ 1048576 := by rw [HN.out, hs]; exact hsz
  rw [← HN.out] at HSW HCL HCM hb ⊢
  have v1 : IntKind.i64.wrap ((a : Int) + 1) = ((a + 1 : Nat) : Int) := by rw [IntKind.wrap_i64]; omega
  have v2 : IntKind.i64.wrap ((b : Int) - 1) = ((b - 1 : Nat) : Int) := by rw [IntKind.wrap_i64]; omega
  have ia : (a : Int) < (n : Int) := by omega
  have ip : (pv : Int) < (n : Int) := by omega
  have hsd : Hid (d.size = n) := HN.out.symm
  go_enter Tryd.func79, Tryd.ntmps79
  obtain ⟨⟨s1, s2⟩, ⟨f1, f2⟩, ⟨u, s3⟩, hsw2⟩ := HSW.out d w (a) (pv) hsd.out HW.out (by omega) (by omega)
  have HX : Hid (SW encF w0 blk off (swp d (a) (pv)) ((w.setCell ⟨blk, off + (a), none⟩ (.int .i64 ((d[pv]!.val : Nat) : Int))).setCell ⟨blk, off + (pv), none⟩ (.int .i64 ((d[a]!.val : Nat) : Int))).drew) := hsw2.drewN 1
  generalize ((d[a]!.val : Nat) : Int) = x0 at s1 s2 s3 HX
  generalize ((d[pv]!.val : Nat) : Int) = y0 at s1 s2 s3 HX
  clear hsw2
  go_upto_region 1 with fail
  go_big_region_o
  generalize ((w.setCell ⟨blk, off + (a), none⟩ (.int .i64 y0)).setCell ⟨blk, off + (pv), none⟩ (.int .i64 x0)).drew = wHX at HX ⊢
  clear s1 s2 f1 f2 s3
  have hsk : Hid ((swp d a pv).size = n) := by show _ = _; rw [size_swp]; exact hsd.out
  have hsw : Hid (SW encF w0 blk off (swp d a pv) wHX) := HX
  obtain ⟨i0, hi0e⟩ : ∃ i0, i0 = a + 1 := ⟨_, rfl⟩
  obtain ⟨j0, hj0e⟩ : ∃ j0, j0 = b - 1 := ⟨_, rfl⟩
  rw [← hi0e, ← hj0e] at HL0
  rw [← hi0e] at v1
  rw [← hj0e] at v2
  have hi0 : a + 1 ≤ i0 := by omega
  have hij0 : i0 ≤ j0 + 1 := by omega
  have hj0 : j0 ≤ b - 1 := by omega
  generalize swp d a pv = dk at hsk hsw HL0
  have HL : Hid (partLoop (ltOf cf) a i0 j0 dk = PL) := HL0
  clear HX HW HL0 HSD hsd hi0e hj0e
  go_wp2
  go_loopw [12] (fun iv wr => ∃ i : Nat, iv = .int .i64 i ∧ i0 ≤ i ∧ i ≤ j0 + 1 ∧ Hid (SW encF w0 blk off dk wr) ∧ Hid (scanUp (fun x => ltOf cf x dk[a]!) dk j0 i = scanUp (fun x => ltOf cf x dk[a]!) dk j0 i0)) (fun iv _ => j0 + 1 - (intOf iv).toNat)
  case atStart => exact ⟨i0, rfl, Nat.le_refl _, hij0, hsw, rfl⟩
  case round =>
    clear hsw
    obtain ⟨i, rfl, hi1, hi2, hsw, HU⟩ := hrel
    obtain ⟨bb, hbb⟩ : ∃ bb, (decide (i ≤ j0) && ltOf cf dk[i]! dk[a]!) = bb := ⟨_, rfl⟩
    have HB : Hid ((decide (i ≤ j0) && ltOf cf dk[i]! dk[a]!) = bb) := hbb
    clear hbb
    go_upto_region 3 with fail
    go_cut [47] from 32 to 47 (fun bv wx => bv = .bool bb ∧ Hid (SW encF w0 blk off dk wx))
    case first =>
      by_cases hij : i ≤ j0
      · have hijz : (i : Int) ≤ (j0 : Int) := by omega
        have i1 : (i : Int) < (n : Int) := by omega
        have i2 : (a : Int) < (n : Int) := by omega
        obtain ⟨q1, hb1⟩ : ∃ q, ltOf cf dk[i]! dk[a]! = q := ⟨_, rfl⟩
        have hbq : (q1) = bb := by rw [← HB.out, hb1, decide_eq_true hij]; rfl
        subst hbq
        have c1a := HCL.out dk wr i hsk.out hsw.out (by omega)
        have c1b := HCL.out dk wr a hsk.out hsw.out (by omega)
        have HC1 := HCM.out dk wr hsk.out hsw.out dk[i]! dk[a]!
        have HQ1 : Hid (∀ q, SW encF w0 blk off dk (wr.drewN q)) := fun q => hsw.out.drewN q
        have hq1 : decide (cf dk[i]! dk[a]! < 0) = q1 := hb1
        generalize cf dk[i]! dk[a]! = k1 at HC1 hq1
        generalize ((dk[i]!.val : Nat) : Int) = xa1 at c1a HC1
        generalize ((dk[a]!.val : Nat) : Int) = xb1 at c1b HC1
        go_quiet ((go_at_call 37; exact Calls.quiet_of (HC1 _)))
        have w6H : Hid (SW encF w0 blk off dk (wr.drewN nq)) := HQ1.out nq
        clear c1a c1b HC1 HQ1
        generalize wr.drewN nq = w6 at w6H ⊢
        cases q1
        · go_wp2_with fail
          go_meet
          exact ⟨rfl, w6H⟩
        · go_wp2_with fail
          go_meet
          exact ⟨rfl, w6H⟩
      · have hijz : ¬ (i : Int) ≤ (j0 : Int) := by omega
        obtain rfl : bb = false := by rw [← HB.out, decide_eq_false hij]; rfl
        have HSQ : Hid (∀ q, SW encF w0 blk off dk (wr.drewN q)) := fun q => hsw.out.drewN q
        go_quiet (fail)
        have w6H : Hid (SW encF w0 blk off dk (wr.drewN nq)) := HSQ.out nq
        clear HSQ
        generalize wr.drewN nq = w6 at w6H ⊢
        go_wp2_with fail
        go_meet
        exact ⟨rfl, w6H⟩
    case rest =>
      obtain ⟨rfl, hsc⟩ := hcut
      clear hsw
      have hsw := hsc
      clear hsc
      cases bb
      · have HI : Hid (scanUp (fun x => ltOf cf x dk[a]!) dk j0 i0 = i) := by show _ = _; rw [← HU.out]; exact scanUp_stop (by simpa using HB.out)
        have H1 : Hid (i ≤ j0 → ltOf cf dk[i]! dk[a]! = false) := fun h => by have := HB.out; rw [decide_eq_true h, Bool.true_and] at this; exact this
        clear HU HB
        go_wp2
        go_loopw [13] (fun iv wr => ∃ j : Nat, iv = .int .i64 j ∧ i ≤ j + 1 ∧ j ≤ j0 ∧ Hid (SW encF w0 blk off dk wr) ∧ Hid (scanDown (fun x => !ltOf cf x dk[a]!) dk i j = scanDown (fun x => !ltOf cf x dk[a]!) dk i j0)) (fun iv _ => (intOf iv).toNat)
        case atStart => exact ⟨j0, rfl, hi2, Nat.le_refl _, hsw, rfl⟩
        case round =>
          clear hsw
          obtain ⟨j, rfl, hj1, hj2, hsw, HD⟩ := hrel
          obtain ⟨bb, hbb⟩ : ∃ bb, (decide (i ≤ j) && !ltOf cf dk[j]! dk[a]!) = bb := ⟨_, rfl⟩
          have HB : Hid ((decide (i ≤ j) && !ltOf cf dk[j]! dk[a]!) = bb) := hbb
          clear hbb
          go_upto_region 5 with fail
          go_cut [66] from 50 to 66 (fun bv wx => bv = .bool bb ∧ Hid (SW encF w0 blk off dk wx))
          case first =>
            by_cases hij : i ≤ j
            · have hijz : (i : Int) ≤ (j : Int) := by omega
              have i1 : (j : Int) < (n : Int) := by omega
              have i2 : (a : Int) < (n : Int) := by omega
              obtain ⟨q1, hb1⟩ : ∃ q, ltOf cf dk[j]! dk[a]! = q := ⟨_, rfl⟩
              have hbq : (!q1) = bb := by rw [← HB.out, hb1, decide_eq_true hij]; rfl
              subst hbq
              have c1a := HCL.out dk wr j hsk.out hsw.out (by omega)
              have c1b := HCL.out dk wr a hsk.out hsw.out (by omega)
              have HC1 := HCM.out dk wr hsk.out hsw.out dk[j]! dk[a]!
              have HQ1 : Hid (∀ q, SW encF w0 blk off dk (wr.drewN q)) := fun q => hsw.out.drewN q
              have hq1 : decide (cf dk[j]! dk[a]! < 0) = q1 := hb1
              generalize cf dk[j]! dk[a]! = k1 at HC1 hq1
              generalize ((dk[j]!.val : Nat) : Int) = xa1 at c1a HC1
              generalize ((dk[a]!.val : Nat) : Int) = xb1 at c1b HC1
              go_quiet ((go_at_call 37; exact Calls.quiet_of (HC1 _)))
              have w6H : Hid (SW encF w0 blk off dk (wr.drewN nq)) := HQ1.out nq
              clear c1a c1b HC1 HQ1
              generalize wr.drewN nq = w6 at w6H ⊢
              cases q1
              · go_wp2_with fail
                go_meet
                exact ⟨rfl, w6H⟩
              · go_wp2_with fail
                go_meet
                exact ⟨rfl, w6H⟩
            · have hijz : ¬ (i : Int) ≤ (j : Int) := by omega
              obtain rfl : bb = false := by rw [← HB.out, decide_eq_false hij]; rfl
              have HSQ : Hid (∀ q, SW encF w0 blk off dk (wr.drewN q)) := fun q => hsw.out.drewN q
              go_quiet (fail)
              have w6H : Hid (SW encF w0 blk off dk (wr.drewN nq)) := HSQ.out nq
              clear HSQ
              generalize wr.drewN nq = w6 at w6H ⊢
              go_wp2_with fail
              go_meet
              exact ⟨rfl, w6H⟩
          case rest =>
            obtain ⟨rfl, hsc⟩ := hcut
            clear hsw
            have hsw := hsc
            clear hsc
            cases bb
            · have HJ : Hid (scanDown (fun x => !ltOf cf x dk[a]!) dk i j0 = j) := by show _ = _; rw [← HD.out]; exact scanDown_stop (by simpa using HB.out)
              have H2 : Hid (i ≤ j → ltOf cf dk[j]! dk[a]! = true) := fun h => by have := HB.out; rw [decide_eq_true h, Bool.true_and] at this; simpa using this
              clear HD HB
              have hlt0 : Hid True := trivial
              by_cases hJI : j < i
              · have hJIz : (j : Int) < (i : Int) := by omega
                have hr := (HEQ.out _ _ _ HL.out _ _ HI.out HJ.out).1 (by omega)
                obtain rfl := hr
                clear HEQ HI HJ H1 H2 HL
                have ij : (j : Int) < (n : Int) := by omega
                obtain ⟨⟨s1, s2⟩, ⟨f1, f2⟩, ⟨u, s3⟩, hsw2⟩ := HSW.out dk wc (j) (a) hsk.out hsw.out (by omega) (by omega)
                have HY : Hid (SW encF w0 blk off (swp dk (j) (a)) ((wc.setCell ⟨blk, off + (j), none⟩ (.int .i64 ((dk[a]!.val : Nat) : Int))).setCell ⟨blk, off + (a), none⟩ (.int .i64 ((dk[j]!.val : Nat) : Int))).drew) := hsw2.drewN 1
                generalize ((dk[j]!.val : Nat) : Int) = x0 at s1 s2 s3 HY
                generalize ((dk[a]!.val : Nat) : Int) = y0 at s1 s2 s3 HY
                clear hsw2
                go_upto_region 8 with fail
                go_big_region_o
                generalize ((wc.setCell ⟨blk, off + (j), none⟩ (.int .i64 y0)).setCell ⟨blk, off + (a), none⟩ (.int .i64 x0)).drew = wHY at HY ⊢
                clear s1 s2 f1 f2 s3
                go_wp2
                go_ret2
                exact ⟨_, rfl, HY.out⟩
              · have hJIz : ¬ (j : Int) < (i : Int) := by omega
                have hne : i ≠ j := fun e => by
                  subst e
                  have h1 := H1.out (by omega)
                  have h2 := H2.out (Nat.le_refl _)
                  rw [h1] at h2
                  cases h2
                have HL2 : Hid (partLoop (ltOf cf) a (i + 1) (j - 1) (swp dk i j) = PL) := (HEQ.out _ _ _ HL.out _ _ HI.out HJ.out).2 hJI
                clear HI HJ H1 H2 HL
                have ii : (i : Int) < (n : Int) := by omega
                have ij : (j : Int) < (n : Int) := by omega
                have wi : IntKind.i64.wrap ((i : Int) + 1) = ((i + 1 : Nat) : Int) := by rw [IntKind.wrap_i64]; omega
                have wj : IntKind.i64.wrap ((j : Int) - 1) = ((j - 1 : Nat) : Int) := by rw [IntKind.wrap_i64]; omega
                obtain ⟨⟨s1, s2⟩, ⟨f1, f2⟩, ⟨u, s3⟩, hsw2⟩ := HSW.out dk wc (i) (j) hsk.out hsw.out (by omega) (by omega)
                have HZ : Hid (SW encF w0 blk off (swp dk (i) (j)) ((wc.setCell ⟨blk, off + (i), none⟩ (.int .i64 ((dk[j]!.val : Nat) : Int))).setCell ⟨blk, off + (j), none⟩ (.int .i64 ((dk[i]!.val : Nat) : Int))).drew) := hsw2.drewN 1
                generalize ((dk[i]!.val : Nat) : Int) = x0 at s1 s2 s3 HZ
                generalize ((dk[j]!.val : Nat) : Int) = y0 at s1 s2 s3 HZ
                clear hsw2
                go_upto_region 10 with fail
                go_big_region_o
                generalize ((wc.setCell ⟨blk, off + (i), none⟩ (.int .i64 y0)).setCell ⟨blk, off + (j), none⟩ (.int .i64 x0)).drew = wHZ at HZ ⊢
                clear s1 s2 f1 f2 s3
                have hsz2 : Hid ((swp dk i j).size = n) := by show _ = _; rw [size_swp]; exact hsk.out
                have hbd1 : a + 1 ≤ i + 1 := by omega
                have hbd2 : i + 1 ≤ j - 1 + 1 := by omega
                have hbd3 : j - 1 + 1 ≤ b - 1 := by omega
                generalize swp dk i j = dn at HL2 HZ hsz2
                clear hsw hsk
                go_wp2
                go_loopw [12, 13] (fun iv jv wr => ∃ (i0 j0 : Nat) (dk : Array (Fin (m + 1))), iv = .int .i64 i0 ∧ jv = .int .i64 j0 ∧ a + 1 ≤ i0 ∧ i0 ≤ j0 + 1 ∧ j0 ≤ b - 1 ∧ Hid (dk.size = n) ∧ Hid (SW encF w0 blk off dk wr) ∧ Hid (partLoop (ltOf cf) a i0 j0 dk = PL)) (fun iv jv _ => (intOf jv + 1).toNat - (intOf iv).toNat)
                case atStart => exact ⟨i + 1, j - 1, dn, rfl, rfl, by omega, by omega, by omega, hsz2, HZ, HL2⟩
                case round =>
                  clear HZ HL2 hsz2
                  obtain ⟨i0, j0, dk, rfl, rfl, hi0, hij0, hj0, hsk, hsw, HL⟩ := hrel
                  go_wp2
                  go_loopw [12] (fun iv wr => ∃ i : Nat, iv = .int .i64 i ∧ i0 ≤ i ∧ i ≤ j0 + 1 ∧ Hid (SW encF w0 blk off dk wr) ∧ Hid (scanUp (fun x => ltOf cf x dk[a]!) dk j0 i = scanUp (fun x => ltOf cf x dk[a]!) dk j0 i0)) (fun iv _ => j0 + 1 - (intOf iv).toNat)
                  case atStart => exact ⟨i0, rfl, Nat.le_refl _, hij0, hsw, rfl⟩
                  case round =>
                    clear hsw
                    obtain ⟨i, rfl, hi1, hi2, hsw, HU⟩ := hrel
                    obtain ⟨bb, hbb⟩ : ∃ bb, (decide (i ≤ j0) && ltOf cf dk[i]! dk[a]!) = bb := ⟨_, rfl⟩
                    have HB : Hid ((decide (i ≤ j0) && ltOf cf dk[i]! dk[a]!) = bb) := hbb
                    clear hbb
                    go_upto_region 13 with fail
                    go_cut [120] from 105 to 120 (fun bv wx => bv = .bool bb ∧ Hid (SW encF w0 blk off dk wx))
                    case first =>
                      by_cases hij : i ≤ j0
                      · have hijz : (i : Int) ≤ (j0 : Int) := by omega
                        have i1 : (i : Int) < (n : Int) := by omega
                        have i2 : (a : Int) < (n : Int) := by omega
                        obtain ⟨q1, hb1⟩ : ∃ q, ltOf cf dk[i]! dk[a]! = q := ⟨_, rfl⟩
                        have hbq : (q1) = bb := by rw [← HB.out, hb1, decide_eq_true hij]; rfl
                        subst hbq
                        have c1a := HCL.out dk wr i hsk.out hsw.out (by omega)
                        have c1b := HCL.out dk wr a hsk.out hsw.out (by omega)
                        have HC1 := HCM.out dk wr hsk.out hsw.out dk[i]! dk[a]!
                        have HQ1 : Hid (∀ q, SW encF w0 blk off dk (wr.drewN q)) := fun q => hsw.out.drewN q
                        have hq1 : decide (cf dk[i]! dk[a]! < 0) = q1 := hb1
                        generalize cf dk[i]! dk[a]! = k1 at HC1 hq1
                        generalize ((dk[i]!.val : Nat) : Int) = xa1 at c1a HC1
                        generalize ((dk[a]!.val : Nat) : Int) = xb1 at c1b HC1
                        go_quiet ((go_at_call 37; exact Calls.quiet_of (HC1 _)))
                        have w6H : Hid (SW encF w0 blk off dk (wr.drewN nq)) := HQ1.out nq
                        clear c1a c1b HC1 HQ1
                        generalize wr.drewN nq = w6 at w6H ⊢
                        cases q1
                        · go_wp2_with fail
                          go_meet
                          exact ⟨rfl, w6H⟩
                        · go_wp2_with fail
                          go_meet
                          exact ⟨rfl, w6H⟩
                      · have hijz : ¬ (i : Int) ≤ (j0 : Int) := by omega
                        obtain rfl : bb = false := by rw [← HB.out, decide_eq_false hij]; rfl
                        have HSQ : Hid (∀ q, SW encF w0 blk off dk (wr.drewN q)) := fun q => hsw.out.drewN q
                        go_quiet (fail)
                        have w6H : Hid (SW encF w0 blk off dk (wr.drewN nq)) := HSQ.out nq
                        clear HSQ
                        generalize wr.drewN nq = w6 at w6H ⊢
                        go_wp2_with fail
                        go_meet
                        exact ⟨rfl, w6H⟩
                    case rest =>
                      obtain ⟨rfl, hsc⟩ := hcut
                      clear hsw
                      have hsw := hsc
                      clear hsc
                      cases bb
                      · have HI : Hid (scanUp (fun x => ltOf cf x dk[a]!) dk j0 i0 = i) := by show _ = _; rw [← HU.out]; exact scanUp_stop (by simpa using HB.out)
                        have H1 : Hid (i ≤ j0 → ltOf cf dk[i]! dk[a]! = false) := fun h => by have := HB.out; rw [decide_eq_true h, Bool.true_and] at this; exact this
                        clear HU HB
                        go_wp2
                        go_loopw [13] (fun iv wr => ∃ j : Nat, iv = .int .i64 j ∧ i ≤ j + 1 ∧ j ≤ j0 ∧ Hid (SW encF w0 blk off dk wr) ∧ Hid (scanDown (fun x => !ltOf cf x dk[a]!) dk i j = scanDown (fun x => !ltOf cf x dk[a]!) dk i j0)) (fun iv _ => (intOf iv).toNat)
                        case atStart => exact ⟨j0, rfl, hi2, Nat.le_refl _, hsw, rfl⟩
                        case round =>
                          clear hsw
                          obtain ⟨j, rfl, hj1, hj2, hsw, HD⟩ := hrel
                          obtain ⟨bb, hbb⟩ : ∃ bb, (decide (i ≤ j) && !ltOf cf dk[j]! dk[a]!) = bb := ⟨_, rfl⟩
                          have HB : Hid ((decide (i ≤ j) && !ltOf cf dk[j]! dk[a]!) = bb) := hbb
                          clear hbb
                          go_upto_region 15 with fail
                          go_cut [139] from 123 to 139 (fun bv wx => bv = .bool bb ∧ Hid (SW encF w0 blk off dk wx))
                          case first =>
                            by_cases hij : i ≤ j
                            · have hijz : (i : Int) ≤ (j : Int) := by omega
                              have i1 : (j : Int) < (n : Int) := by omega
                              have i2 : (a : Int) < (n : Int) := by omega
                              obtain ⟨q1, hb1⟩ : ∃ q, ltOf cf dk[j]! dk[a]! = q := ⟨_, rfl⟩
                              have hbq : (!q1) = bb := by rw [← HB.out, hb1, decide_eq_true hij]; rfl
                              subst hbq
                              have c1a := HCL.out dk wr j hsk.out hsw.out (by omega)
                              have c1b := HCL.out dk wr a hsk.out hsw.out (by omega)
                              have HC1 := HCM.out dk wr hsk.out hsw.out dk[j]! dk[a]!
                              have HQ1 : Hid (∀ q, SW encF w0 blk off dk (wr.drewN q)) := fun q => hsw.out.drewN q
                              have hq1 : decide (cf dk[j]! dk[a]! < 0) = q1 := hb1
                              generalize cf dk[j]! dk[a]! = k1 at HC1 hq1
                              generalize ((dk[j]!.val : Nat) : Int) = xa1 at c1a HC1
                              generalize ((dk[a]!.val : Nat) : Int) = xb1 at c1b HC1
                              go_quiet ((go_at_call 37; exact Calls.quiet_of (HC1 _)))
                              have w6H : Hid (SW encF w0 blk off dk (wr.drewN nq)) := HQ1.out nq
                              clear c1a c1b HC1 HQ1
                              generalize wr.drewN nq = w6 at w6H ⊢
                              cases q1
                              · go_wp2_with fail
                                go_meet
                                exact ⟨rfl, w6H⟩
                              · go_wp2_with fail
                                go_meet
                                exact ⟨rfl, w6H⟩
                            · have hijz : ¬ (i : Int) ≤ (j : Int) := by omega
                              obtain rfl : bb = false := by rw [← HB.out, decide_eq_false hij]; rfl
                              have HSQ : Hid (∀ q, SW encF w0 blk off dk (wr.drewN q)) := fun q => hsw.out.drewN q
                              go_quiet (fail)
                              have w6H : Hid (SW encF w0 blk off dk (wr.drewN nq)) := HSQ.out nq
                              clear HSQ
                              generalize wr.drewN nq = w6 at w6H ⊢
                              go_wp2_with fail
                              go_meet
                              exact ⟨rfl, w6H⟩
                          case rest =>
                            obtain ⟨rfl, hsc⟩ := hcut
                            clear hsw
                            have hsw := hsc
                            clear hsc
                            cases bb
                            · have HJ : Hid (scanDown (fun x => !ltOf cf x dk[a]!) dk i j0 = j) := by show _ = _; rw [← HD.out]; exact scanDown_stop (by simpa using HB.out)
                              have H2 : Hid (i ≤ j → ltOf cf dk[j]! dk[a]! = true) := fun h => by have := HB.out; rw [decide_eq_true h, Bool.true_and] at this; simpa using this
                              clear HD HB
                              have hlt0 : Hid True := trivial
                              by_cases hJI : j < i
                              · have hJIz : (j : Int) < (i : Int) := by omega
                                have hr := (HEQ.out _ _ _ HL.out _ _ HI.out HJ.out).1 (by omega)
                                obtain rfl := hr
                                clear HEQ HI HJ H1 H2 HL
                                have ij : (j : Int) < (n : Int) := by omega
                                obtain ⟨⟨s1, s2⟩, ⟨f1, f2⟩, ⟨u, s3⟩, hsw2⟩ := HSW.out dk wc (j) (a) hsk.out hsw.out (by omega) (by omega)
                                have HY : Hid (SW encF w0 blk off (swp dk (j) (a)) ((wc.setCell ⟨blk, off + (j), none⟩ (.int .i64 ((dk[a]!.val : Nat) : Int))).setCell ⟨blk, off + (a), none⟩ (.int .i64 ((dk[j]!.val : Nat) : Int))).drew) := hsw2.drewN 1
                                generalize ((dk[j]!.val : Nat) : Int) = x0 at s1 s2 s3 HY
                                generalize ((dk[a]!.val : Nat) : Int) = y0 at s1 s2 s3 HY
                                clear hsw2
                                go_upto_region 21 with fail
                                go_big_region_o
                                generalize ((wc.setCell ⟨blk, off + (j), none⟩ (.int .i64 y0)).setCell ⟨blk, off + (a), none⟩ (.int .i64 x0)).drew = wHY at HY ⊢
                                clear s1 s2 f1 f2 s3
                                go_wp2
                                go_ret2
                                exact ⟨_, rfl, HY.out⟩
                              · have hJIz : ¬ (j : Int) < (i : Int) := by omega
                                have hne : i ≠ j := fun e => by
                                  subst e
                                  have h1 := H1.out (by omega)
                                  have h2 := H2.out (Nat.le_refl _)
                                  rw [h1] at h2
                                  cases h2
                                have HL2 : Hid (partLoop (ltOf cf) a (i + 1) (j - 1) (swp dk i j) = PL) := (HEQ.out _ _ _ HL.out _ _ HI.out HJ.out).2 hJI
                                clear HI HJ H1 H2 HL
                                have ii : (i : Int) < (n : Int) := by omega
                                have ij : (j : Int) < (n : Int) := by omega
                                have wi : IntKind.i64.wrap ((i : Int) + 1) = ((i + 1 : Nat) : Int) := by rw [IntKind.wrap_i64]; omega
                                have wj : IntKind.i64.wrap ((j : Int) - 1) = ((j - 1 : Nat) : Int) := by rw [IntKind.wrap_i64]; omega
                                obtain ⟨⟨s1, s2⟩, ⟨f1, f2⟩, ⟨u, s3⟩, hsw2⟩ := HSW.out dk wc (i) (j) hsk.out hsw.out (by omega) (by omega)
                                have HZ : Hid (SW encF w0 blk off (swp dk (i) (j)) ((wc.setCell ⟨blk, off + (i), none⟩ (.int .i64 ((dk[j]!.val : Nat) : Int))).setCell ⟨blk, off + (j), none⟩ (.int .i64 ((dk[i]!.val : Nat) : Int))).drew) := hsw2.drewN 1
                                generalize ((dk[i]!.val : Nat) : Int) = x0 at s1 s2 s3 HZ
                                generalize ((dk[j]!.val : Nat) : Int) = y0 at s1 s2 s3 HZ
                                clear hsw2
                                go_upto_region 18 with fail
                                go_big_region_o
                                generalize ((wc.setCell ⟨blk, off + (i), none⟩ (.int .i64 y0)).setCell ⟨blk, off + (j), none⟩ (.int .i64 x0)).drew = wHZ at HZ ⊢
                                clear s1 s2 f1 f2 s3
                                have hsz2 : Hid ((swp dk i j).size = n) := by show _ = _; rw [size_swp]; exact hsk.out
                                have hbd1 : a + 1 ≤ i + 1 := by omega
                                have hbd2 : i + 1 ≤ j - 1 + 1 := by omega
                                have hbd3 : j - 1 + 1 ≤ b - 1 := by omega
                                generalize swp dk i j = dn at HL2 HZ hsz2
                                clear hsw hsk
                                go_wp2
                                go_roundw
                                case rel => exact ⟨i + 1, j - 1, dn, rfl, rfl, by omega, by omega, by omega, hsz2, HZ, HL2⟩
                                case measure => simp [intOf]; omega
                            · have hgo : i ≤ j ∧ (!ltOf cf dk[j]! dk[a]!) = true := by simpa using HB.out
                              have HD2 : Hid (scanDown (fun x => !ltOf cf x dk[a]!) dk i (j - 1) = scanDown (fun x => !ltOf cf x dk[a]!) dk i j0) := by show _ = _; rw [← HD.out]; exact (scanDown_go hgo.1 (by omega) hgo.2).symm
                              have hgo1 := hgo.1
                              have w1 : IntKind.i64.wrap ((j : Int) - 1) = ((j - 1 : Nat) : Int) := by rw [IntKind.wrap_i64]; omega
                              clear HB HD hgo
                              go_wp2
                              go_roundw
                              case rel => exact ⟨j - 1, rfl, by omega, by omega, hsw, HD2⟩
                              case measure => simp [intOf]; omega
                      · have hgo : i ≤ j0 ∧ ltOf cf dk[i]! dk[a]! = true := by simpa using HB.out
                        have HU2 : Hid (scanUp (fun x => ltOf cf x dk[a]!) dk j0 (i + 1) = scanUp (fun x => ltOf cf x dk[a]!) dk j0 i0) := by show _ = _; rw [← HU.out]; exact (scanUp_go hgo.1 hgo.2).symm
                        have hgo1 := hgo.1
                        have w1 : IntKind.i64.wrap ((i : Int) + 1) = ((i + 1 : Nat) : Int) := by rw [IntKind.wrap_i64]; omega
                        clear HB HU hgo
                        go_wp2
                        go_roundw
                        case rel => exact ⟨i + 1, rfl, by omega, by omega, hsw, HU2⟩
                        case measure => simp [intOf]; omega
            · have hgo : i ≤ j ∧ (!ltOf cf dk[j]! dk[a]!) = true := by simpa using HB.out
              have HD2 : Hid (scanDown (fun x => !ltOf cf x dk[a]!) dk i (j - 1) = scanDown (fun x => !ltOf cf x dk[a]!) dk i j0) := by show _ = _; rw [← HD.out]; exact (scanDown_go hgo.1 (by omega) hgo.2).symm
              have hgo1 := hgo.1
              have w1 : IntKind.i64.wrap ((j : Int) - 1) = ((j - 1 : Nat) : Int) := by rw [IntKind.wrap_i64]; omega
              clear HB HD hgo
              go_wp2
              go_roundw
              case rel => exact ⟨j - 1, rfl, by omega, by omega, hsw, HD2⟩
              case measure => simp [intOf]; omega
      · have hgo : i ≤ j0 ∧ ltOf cf dk[i]! dk[a]! = true := by simpa using HB.out
        have HU2 : Hid (scanUp (fun x => ltOf cf x dk[a]!) dk j0 (i + 1) = scanUp (fun x => ltOf cf x dk[a]!) dk j0 i0) := by show _ = _; rw [← HU.out]; exact (scanUp_go hgo.1 hgo.2).symm
        have hgo1 := hgo.1
        have w1 : IntKind.i64.wrap ((i : Int) + 1) = ((i + 1 : Nat) : Int) := by rw [IntKind.wrap_i64]; omega
        clear HB HU hgo
        go_wp2
        go_roundw
        case rel => exact ⟨i + 1, rfl, by omega, by omega, hsw, HU2⟩
        case measure => simp [intOf]; omega
end

end Go.Proofs.YtlkemmdcjnaepaaDoor
