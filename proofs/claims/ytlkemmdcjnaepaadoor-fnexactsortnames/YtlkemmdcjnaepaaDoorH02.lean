/- Names in order: the library's siftDown and heapSort, at places that are held against each other by the names that stand there. -/
import Derived.Test.YtlkemmdcjnaepaaDoorRows
import Derived.Test.YtlkemmdcjnaepaaDoorH01
import Derived.Sort.LotB
namespace Go.Proofs.YtlkemmdcjnaepaaDoor

section
open Go.RowKit Go.Sort Go.Shelf Go.Lib

section
variable {α : Type} [Inhabited α] {lt : α → α → Bool}
theorem sd_end {hi F r : Nat} {d : Array α} (h : hi ≤ 2 * r + 1) : siftDown lt hi F r d = d := by rw [siftDown, dif_pos h]
theorem sd_left {hi F r : Nat} {d : Array α} (h : 2 * r + 1 < hi) (hl : ¬ 2 * r + 2 < hi ∨ lt d[F + (2 * r + 1)]! d[F + (2 * r + 2)]! = false) :
    (lt d[F + r]! d[F + (2 * r + 1)]! = false → siftDown lt hi F r d = d) ∧ (lt d[F + r]! d[F + (2 * r + 1)]! = true → siftDown lt hi F r d = siftDown lt hi F (2 * r + 1) (swp d (F + r) (F + (2 * r + 1)))) := by
  have hc : ¬ ((decide (2 * r + 1 + 1 < hi) && lt d[F + (2 * r + 1)]! d[F + (2 * r + 1) + 1]!) = true) := by
    rw [show F + (2 * r + 1) + 1 = F + (2 * r + 2) by omega]
    rcases hl with h1 | h1
    · rw [decide_eq_false (by omega)]; simp
    · rw [h1]; simp
  constructor
  · intro h1
    rw [siftDown, dif_neg (by omega), if_neg (by simpa using hc), h1]; rfl
  · intro h1
    conv => lhs; rw [siftDown, dif_neg (by omega), if_neg (by simpa using hc), h1]
    rfl
theorem sd_right {hi F r : Nat} {d : Array α} (h : 2 * r + 2 < hi) (hl : lt d[F + (2 * r + 1)]! d[F + (2 * r + 2)]! = true) :
    (lt d[F + r]! d[F + (2 * r + 2)]! = false → siftDown lt hi F r d = d) ∧ (lt d[F + r]! d[F + (2 * r + 2)]! = true → siftDown lt hi F r d = siftDown lt hi F (2 * r + 2) (swp d (F + r) (F + (2 * r + 2)))) := by
  have hc : (decide (2 * r + 1 + 1 < hi) && lt d[F + (2 * r + 1)]! d[F + (2 * r + 1) + 1]!) = true := by
    rw [show F + (2 * r + 1) + 1 = F + (2 * r + 2) by omega, hl, decide_eq_true (by omega)]; rfl
  constructor
  · intro h1
    rw [siftDown, dif_neg (by omega), if_pos (by simpa using hc), h1]; rfl
  · intro h1
    conv => lhs; rw [siftDown, dif_neg (by omega), if_pos (by simpa using hc), h1]
    simp [h]
theorem sd_size (hi F : Nat) : ∀ (n r : Nat) (d : Array α), hi - r = n → (siftDown lt hi F r d).size = d.size := by
  intro n
  induction n using Nat.strongRecOn with
  | _ n ih =>
    intro r d hn
    rw [siftDown]
    (repeat' split) <;> first | rfl | (rw [ih _ (by omega) _ _ rfl, size_swp])
end

set_option maxRecDepth 100000 in
set_option maxHeartbeats 4000000 in
theorem sift_any {m : Nat} {w0 : World} {blk off : Nat} {d0 : Array (Fin (m + 1))} {rv : Value} {cf : Fin (m + 1) → Fin (m + 1) → Int} (S : Sby m w0 blk off d0 rv cf) (cap lo hi F : Nat) (d : Array (Fin (m + 1))) (w : World) (hw : SW encF w0 blk off d w) (hs : d.size = d0.size) (hb : F + hi ≤ d.size) (hlo : lo ≤ hi) :
    Calls Tryd.prog 94 #[.slice (some ⟨blk, off, none⟩) d.size cap, .int .i64 lo, .int .i64 hi, .int .i64 F, .func (.func 37) #[rv] #[]] w fun e w' => e = .returned (.tuple #[]) ∧ SW encF w0 blk off (siftDown (ltOf cf) hi F lo d) w' := by
  have mixed : Tryd.prog.follows .mixedOrders = true := by kernel_rfl
  have hsz := S.hs
  have HSW : Hid (∀ (dk : Array (Fin (m + 1))) (W : World) (i j : Nat), dk.size = d.size → SW encF w0 blk off dk W → i < d.size → j < d.size → (W.cell? ⟨blk, off + i, none⟩ = some (.int .i64 ((dk[i]!.val : Nat) : Int)) ∧ W.cell? ⟨blk, off + j, none⟩ = some (.int .i64 ((dk[j]!.val : Nat) : Int))) ∧ (W.frozen? ⟨blk, off + i, none⟩ = false ∧ W.frozen? ⟨blk, off + j, none⟩ = false) ∧
    (∃ u, (W.setCell ⟨blk, off + i, none⟩ (.int .i64 ((dk[j]!.val : Nat) : Int))).cell? ⟨blk, off + j, none⟩ = some u) ∧
    SW encF w0 blk off (swp dk i j) ((W.setCell ⟨blk, off + i, none⟩ (.int .i64 ((dk[j]!.val : Nat) : Int))).setCell ⟨blk, off + j, none⟩ (.int .i64 ((dk[i]!.val : Nat) : Int)))) := fun dk W i j h1 h2 h3 h4 => S.swap h2 (h1.trans hs) i j (by omega) (by omega)
  have HCL : Hid (∀ (dk : Array (Fin (m + 1))) (W : World) (i : Nat), dk.size = d.size → SW encF w0 blk off dk W → i < d.size → W.cell? ⟨blk, off + i, none⟩ = some (.int .i64 ((dk[i]!.val : Nat) : Int))) := fun dk W i h1 h2 h3 => S.cell h2 (h1.trans hs) i (by omega)
  have HCM : Hid (∀ (dk : Array (Fin (m + 1))) (W : World), dk.size = d.size → SW encF w0 blk off dk W → ∀ (x y : Fin (m + 1)) (q : Nat), Calls Tryd.prog 37 #[rv, .int .i64 ((x.val : Nat) : Int), .int .i64 ((y.val : Nat) : Int)] (W.drewN q) fun e w' => e = .returned (.int .i64 (cf x y)) ∧ ∃ p, w' = (W.drewN q).drewN p) := fun dk W h1 h2 x y q => S.cmp dk (W.drewN q) (h1.trans hs) (h2.drewN q) x y
  have HW : Hid (SW encF w0 blk off d w) := hw
  clear hw
  obtain ⟨R, HR⟩ : ∃ R, R = siftDown (ltOf cf) hi F lo d := ⟨_, rfl⟩
  rw [← HR]
  have HM0 : Hid (siftDown (ltOf cf) hi F lo d = R) := HR.symm
  clear HR
  obtain ⟨n, HN⟩ : ∃ n, Hid (n = d.size) := ⟨_, rfl⟩
  have hn : n ≤ 1048576 := by rw [HN.out, hs]; exact hsz
  rw [← HN.out] at HSW HCL HCM hb ⊢
  go_enter Tryd.func94, Tryd.ntmps94
  go_wp2
  go_loopw [10] (fun vr wr => ∃ (r : Nat) (dk : Array (Fin (m + 1))), r ≤ hi ∧ r ≤ hi ∧ vr = .int .i64 r ∧ Hid (dk.size = n) ∧ Hid (SW encF w0 blk off dk wr) ∧ Hid (siftDown (ltOf cf) hi F r dk = R)) (fun vr _ => hi - (intOf vr).toNat)
  case atStart => exact ⟨lo, d, hlo, hlo, rfl, HN.out.symm, HW, HM0⟩
  case round =>
    clear HW HM0
    obtain ⟨r, dk, hr1, -, rfl, hsk, hsw, HM⟩ := hrel
    have v1 : IntKind.i64.wrap (2 * (r : Int)) = 2 * (r : Int) := by rw [IntKind.wrap_i64]; omega
    obtain ⟨c, hc⟩ : ∃ c, c = 2 * r + 1 := ⟨_, rfl⟩
    have v2 : IntKind.i64.wrap (2 * (r : Int) + 1) = (c : Int) := by rw [IntKind.wrap_i64]; omega
    by_cases hend : hi ≤ c
    · have HE : Hid (dk = R) := by show _ = _; rw [← HM.out, sd_end (by omega)]
      have hendz : (hi : Int) ≤ (c : Int) := by omega
      clear HM
      go_wp2
      go_end0
      exact ⟨rfl, by rw [← HE.out]; exact hsw.out⟩
    · have hendz : ¬ (hi : Int) ≤ (c : Int) := by omega
      obtain ⟨c1, hc1⟩ : ∃ c1, c1 = 2 * r + 2 := ⟨_, rfl⟩
      obtain ⟨fr, hfr⟩ : ∃ fr, fr = F + r := ⟨_, rfl⟩
      obtain ⟨fc, hfc⟩ : ∃ fc, fc = F + (2 * r + 1) := ⟨_, rfl⟩
      obtain ⟨fc1, hfc1⟩ : ∃ fc1, fc1 = F + (2 * r + 2) := ⟨_, rfl⟩
      have v3 : IntKind.i64.wrap ((c : Int) + 1) = (c1 : Int) := by rw [IntKind.wrap_i64]; omega
      have v4 : IntKind.i64.wrap ((F : Int) + (c : Int)) = (fc : Int) := by rw [IntKind.wrap_i64]; omega
      have v5 : IntKind.i64.wrap ((fc : Int) + 1) = (fc1 : Int) := by rw [IntKind.wrap_i64]; omega
      have v6 : IntKind.i64.wrap ((F : Int) + (r : Int)) = (fr : Int) := by rw [IntKind.wrap_i64]; omega
      have v7 : IntKind.i64.wrap ((F : Int) + (c1 : Int)) = (fc1 : Int) := by rw [IntKind.wrap_i64]; omega
      have i1 : (fr : Int) < (n : Int) := by omega
      have i2 : (fc : Int) < (n : Int) := by omega
      have HL : Hid (¬ c1 < hi ∨ ltOf cf dk[fc]! dk[fc1]! = false → (ltOf cf dk[fr]! dk[fc]! = false → dk = R) ∧ (ltOf cf dk[fr]! dk[fc]! = true → siftDown (ltOf cf) hi F c (swp dk fr fc) = R)) := fun h => by
        subst hc hc1 hfr hfc hfc1
        have := sd_left (lt := ltOf cf) (d := dk) (F := F) (by omega : 2 * r + 1 < hi) h
        rw [HM.out] at this
        exact ⟨fun h => (this.1 h).symm, fun h => (this.2 h).symm⟩
      have HRT : Hid (c1 < hi → ltOf cf dk[fc]! dk[fc1]! = true → (ltOf cf dk[fr]! dk[fc1]! = false → dk = R) ∧ (ltOf cf dk[fr]! dk[fc1]! = true → siftDown (ltOf cf) hi F c1 (swp dk fr fc1) = R)) := fun h1 h2 => by
        subst hc hc1 hfr hfc hfc1
        have := sd_right (lt := ltOf cf) (d := dk) (F := F) h1 h2
        rw [HM.out] at this
        exact ⟨fun h => (this.1 h).symm, fun h => (this.2 h).symm⟩
      have hrc : r < c := by omega
      have hrc1 : r < c1 := by omega
      have bd1 : fr < n := by omega
      have bd2 : fc < n := by omega
      have bd3 : c1 < hi → fc1 < n := by omega
      clear hc hc1 hfr hfc hfc1
      by_cases hc2 : c1 < hi
      · have bd3 := bd3 hc2
        have hc2z : (c1 : Int) < (hi : Int) := by omega
        have i3 : (fc1 : Int) < (n : Int) := by omega
        obtain ⟨q1, hb1⟩ : ∃ q, ltOf cf dk[fc]! dk[fc1]! = q := ⟨_, rfl⟩
        rw [hb1] at HL HRT
        go_upto_region 3 with fail
        have c1a := HCL.out dk wr fc hsk.out hsw.out (by omega)
        have c1b := HCL.out dk wr fc1 hsk.out hsw.out (by omega)
        have HC1 := HCM.out dk wr hsk.out hsw.out dk[fc]! dk[fc1]!
        have HQ1 : Hid (∀ q, SW encF w0 blk off dk (wr.drewN q)) := fun q => hsw.out.drewN q
        have hq1 : decide (cf dk[fc]! dk[fc1]! < 0) = q1 := hb1
        generalize cf dk[fc]! dk[fc1]! = k1 at HC1 hq1
        generalize ((dk[fc]!.val : Nat) : Int) = xa1 at c1a HC1
        generalize ((dk[fc1]!.val : Nat) : Int) = xb1 at c1b HC1
        cases q1
        · have HT : Hid _ := HL.out (.inr rfl)
          clear HL HRT hsw
          go_quiet ((go_at_call 37; exact Calls.quiet_of (HC1 _)))
          have w6H : Hid (SW encF w0 blk off dk (wr.drewN nq)) := HQ1.out nq
          clear c1a c1b HC1 HQ1
          generalize wr.drewN nq = w6 at w6H ⊢
          obtain ⟨q2, hb2⟩ : ∃ q, ltOf cf dk[fr]! dk[fc]! = q := ⟨_, rfl⟩
          rw [hb2] at HT
          go_upto_region 5 with fail
          have c2a := HCL.out dk w6 fr hsk.out w6H.out (by omega)
          have c2b := HCL.out dk w6 fc hsk.out w6H.out (by omega)
          have HC2 := HCM.out dk w6 hsk.out w6H.out dk[fr]! dk[fc]!
          have HQ2 : Hid (∀ q, SW encF w0 blk off dk (w6.drewN q)) := fun q => w6H.out.drewN q
          have hq2 : decide (cf dk[fr]! dk[fc]! < 0) = q2 := hb2
          generalize cf dk[fr]! dk[fc]! = k2 at HC2 hq2
          generalize ((dk[fr]!.val : Nat) : Int) = xa2 at c2a HC2
          generalize ((dk[fc]!.val : Nat) : Int) = xb2 at c2b HC2
          cases q2
          · have HE : Hid (dk = R) := HT.out.1 rfl
            clear HT HM
            go_quiet ((go_at_call 37; exact Calls.quiet_of (HC2 _)))
            have w7H : Hid (SW encF w0 blk off dk (w6.drewN nq)) := HQ2.out nq
            clear c2a c2b HC2 HQ2
            generalize w6.drewN nq = w7 at w7H ⊢
            go_wp2
            first
              | go_end0
              | ((try simp only [Exit.inBlock, Exit.then]); refine bodyPost_ret (results_none rfl _ _ _) rfl ?_)
            exact ⟨rfl, by rw [← HE.out]; exact w7H.out⟩
          · have HE : Hid (siftDown (ltOf cf) hi F c (swp dk fr fc) = R) := HT.out.2 rfl
            clear HT HM
            go_quiet ((go_at_call 37; exact Calls.quiet_of (HC2 _)))
            have w7H : Hid (SW encF w0 blk off dk (w6.drewN nq)) := HQ2.out nq
            clear c2a c2b HC2 HQ2
            generalize w6.drewN nq = w7 at w7H ⊢
            obtain ⟨⟨s1, s2⟩, ⟨f1, f2⟩, ⟨u, s3⟩, hsw2⟩ := HSW.out dk w7 (fr) (fc) hsk.out w7H.out (by omega) (by omega)
            have HX : Hid (SW encF w0 blk off (swp dk (fr) (fc)) ((w7.setCell ⟨blk, off + (fr), none⟩ (.int .i64 ((dk[fc]!.val : Nat) : Int))).setCell ⟨blk, off + (fc), none⟩ (.int .i64 ((dk[fr]!.val : Nat) : Int))).drew) := hsw2.drewN 1
            generalize ((dk[fr]!.val : Nat) : Int) = x0 at s1 s2 s3 HX
            generalize ((dk[fc]!.val : Nat) : Int) = y0 at s1 s2 s3 HX
            clear hsw2
            go_upto_region 6 with fail
            go_big_region_o
            generalize ((w7.setCell ⟨blk, off + (fr), none⟩ (.int .i64 y0)).setCell ⟨blk, off + (fc), none⟩ (.int .i64 x0)).drew = wHX at HX ⊢
            clear s1 s2 f1 f2 s3
            go_wp2
            go_roundw
            case rel => exact ⟨c, _, by omega, by omega, rfl, by show _ = _; rw [size_swp]; exact hsk.out, HX, HE⟩
            case measure => simp [intOf]; omega
        · have HT : Hid _ := HRT.out hc2 rfl
          clear HL HRT hsw
          go_quiet ((go_at_call 37; exact Calls.quiet_of (HC1 _)))
          have w6H : Hid (SW encF w0 blk off dk (wr.drewN nq)) := HQ1.out nq
          clear c1a c1b HC1 HQ1
          generalize wr.drewN nq = w6 at w6H ⊢
          obtain ⟨q2, hb2⟩ : ∃ q, ltOf cf dk[fr]! dk[fc1]! = q := ⟨_, rfl⟩
          rw [hb2] at HT
          go_upto_region 5 with fail
          have c2a := HCL.out dk w6 fr hsk.out w6H.out (by omega)
          have c2b := HCL.out dk w6 fc1 hsk.out w6H.out (by omega)
          have HC2 := HCM.out dk w6 hsk.out w6H.out dk[fr]! dk[fc1]!
          have HQ2 : Hid (∀ q, SW encF w0 blk off dk (w6.drewN q)) := fun q => w6H.out.drewN q
          have hq2 : decide (cf dk[fr]! dk[fc1]! < 0) = q2 := hb2
          generalize cf dk[fr]! dk[fc1]! = k2 at HC2 hq2
          generalize ((dk[fr]!.val : Nat) : Int) = xa2 at c2a HC2
          generalize ((dk[fc1]!.val : Nat) : Int) = xb2 at c2b HC2
          cases q2
          · have HE : Hid (dk = R) := HT.out.1 rfl
            clear HT HM
            go_quiet ((go_at_call 37; exact Calls.quiet_of (HC2 _)))
            have w7H : Hid (SW encF w0 blk off dk (w6.drewN nq)) := HQ2.out nq
            clear c2a c2b HC2 HQ2
            generalize w6.drewN nq = w7 at w7H ⊢
            go_wp2
            first
              | go_end0
              | ((try simp only [Exit.inBlock, Exit.then]); refine bodyPost_ret (results_none rfl _ _ _) rfl ?_)
            exact ⟨rfl, by rw [← HE.out]; exact w7H.out⟩
          · have HE : Hid (siftDown (ltOf cf) hi F c1 (swp dk fr fc1) = R) := HT.out.2 rfl
            clear HT HM
            go_quiet ((go_at_call 37; exact Calls.quiet_of (HC2 _)))
            have w7H : Hid (SW encF w0 blk off dk (w6.drewN nq)) := HQ2.out nq
            clear c2a c2b HC2 HQ2
            generalize w6.drewN nq = w7 at w7H ⊢
            obtain ⟨⟨s1, s2⟩, ⟨f1, f2⟩, ⟨u, s3⟩, hsw2⟩ := HSW.out dk w7 (fr) (fc1) hsk.out w7H.out (by omega) (by omega)
            have HX : Hid (SW encF w0 blk off (swp dk (fr) (fc1)) ((w7.setCell ⟨blk, off + (fr), none⟩ (.int .i64 ((dk[fc1]!.val : Nat) : Int))).setCell ⟨blk, off + (fc1), none⟩ (.int .i64 ((dk[fr]!.val : Nat) : Int))).drew) := hsw2.drewN 1
            generalize ((dk[fr]!.val : Nat) : Int) = x0 at s1 s2 s3 HX
            generalize ((dk[fc1]!.val : Nat) : Int) = y0 at s1 s2 s3 HX
            clear hsw2
            go_upto_region 6 with fail
            go_big_region_o
            generalize ((w7.setCell ⟨blk, off + (fr), none⟩ (.int .i64 y0)).setCell ⟨blk, off + (fc1), none⟩ (.int .i64 x0)).drew = wHX at HX ⊢
            clear s1 s2 f1 f2 s3
            go_wp2
            go_roundw
            case rel => exact ⟨c1, _, by omega, by omega, rfl, by show _ = _; rw [size_swp]; exact hsk.out, HX, HE⟩
            case measure => simp [intOf]; omega
      · have hc2z : ¬ (c1 : Int) < (hi : Int) := by omega
        have HT : Hid _ := HL.out (.inl hc2)
        have HSQ : Hid (∀ q, SW encF w0 blk off dk (wr.drewN q)) := fun q => hsw.out.drewN q
        clear HL HRT hsw
        go_upto_region 3 with fail
        go_quiet (fail)
        have w6H : Hid (SW encF w0 blk off dk (wr.drewN nq)) := HSQ.out nq
        clear HSQ
        generalize wr.drewN nq = w6 at w6H ⊢
        obtain ⟨q2, hb2⟩ : ∃ q, ltOf cf dk[fr]! dk[fc]! = q := ⟨_, rfl⟩
        rw [hb2] at HT
        go_upto_region 5 with fail
        have c2a := HCL.out dk w6 fr hsk.out w6H.out (by omega)
        have c2b := HCL.out dk w6 fc hsk.out w6H.out (by omega)
        have HC2 := HCM.out dk w6 hsk.out w6H.out dk[fr]! dk[fc]!
        have HQ2 : Hid (∀ q, SW encF w0 blk off dk (w6.drewN q)) := fun q => w6H.out.drewN q
        have hq2 : decide (cf dk[fr]! dk[fc]! < 0) = q2 := hb2
        generalize cf dk[fr]! dk[fc]! = k2 at HC2 hq2
        generalize ((dk[fr]!.val : Nat) : Int) = xa2 at c2a HC2
        generalize ((dk[fc]!.val : Nat) : Int) = xb2 at c2b HC2
        cases q2
        · have HE : Hid (dk = R) := HT.out.1 rfl
          clear HT HM
          go_quiet ((go_at_call 37; exact Calls.quiet_of (HC2 _)))
          have w7H : Hid (SW encF w0 blk off dk (w6.drewN nq)) := HQ2.out nq
          clear c2a c2b HC2 HQ2
          generalize w6.drewN nq = w7 at w7H ⊢
          go_wp2
          first
            | go_end0
            | ((try simp only [Exit.inBlock, Exit.then]); refine bodyPost_ret (results_none rfl _ _ _) rfl ?_)
          exact ⟨rfl, by rw [← HE.out]; exact w7H.out⟩
        · have HE : Hid (siftDown (ltOf cf) hi F c (swp dk fr fc) = R) := HT.out.2 rfl
          clear HT HM
          go_quiet ((go_at_call 37; exact Calls.quiet_of (HC2 _)))
          have w7H : Hid (SW encF w0 blk off dk (w6.drewN nq)) := HQ2.out nq
          clear c2a c2b HC2 HQ2
          generalize w6.drewN nq = w7 at w7H ⊢
          obtain ⟨⟨s1, s2⟩, ⟨f1, f2⟩, ⟨u, s3⟩, hsw2⟩ := HSW.out dk w7 (fr) (fc) hsk.out w7H.out (by omega) (by omega)
          have HX : Hid (SW encF w0 blk off (swp dk (fr) (fc)) ((w7.setCell ⟨blk, off + (fr), none⟩ (.int .i64 ((dk[fc]!.val : Nat) : Int))).setCell ⟨blk, off + (fc), none⟩ (.int .i64 ((dk[fr]!.val : Nat) : Int))).drew) := hsw2.drewN 1
          generalize ((dk[fr]!.val : Nat) : Int) = x0 at s1 s2 s3 HX
          generalize ((dk[fc]!.val : Nat) : Int) = y0 at s1 s2 s3 HX
          clear hsw2
          go_upto_region 6 with fail
          go_big_region_o
          generalize ((w7.setCell ⟨blk, off + (fr), none⟩ (.int .i64 y0)).setCell ⟨blk, off + (fc), none⟩ (.int .i64 x0)).drew = wHX at HX ⊢
          clear s1 s2 f1 f2 s3
          go_wp2
          go_roundw
          case rel => exact ⟨c, _, by omega, by omega, rfl, by show _ = _; rw [size_swp]; exact hsk.out, HX, HE⟩
          case measure => simp [intOf]; omega

set_option maxRecDepth 100000 in
set_option maxHeartbeats 4000000 in
theorem heap_any {m : Nat} {w0 : World} {blk off : Nat} {d0 : Array (Fin (m + 1))} {rv : Value} {cf : Fin (m + 1) → Fin (m + 1) → Int} (S : Sby m w0 blk off d0 rv cf) (cap a b l : Nat) (d : Array (Fin (m + 1))) (w : World) (hw : SW encF w0 blk off d w) (hs : d.size = d0.size) (hl : 1 ≤ l) (hbl : a + l = b) (hb : b ≤ d.size) :
    Calls Tryd.prog 73 #[.slice (some ⟨blk, off, none⟩) d.size cap, .int .i64 a, .int .i64 b, .func (.func 37) #[rv] #[]] w fun e w' => e = .returned (.tuple #[]) ∧ SW encF w0 blk off (Sort.heapSort (ltOf cf) d a b) w' := by
  have mixed : Tryd.prog.follows .mixedOrders = true := by kernel_rfl
  have hsz := S.hs
  have HSW : Hid (∀ (dk : Array (Fin (m + 1))) (W : World) (i j : Nat), dk.size = d.size → SW encF w0 blk off dk W → i < d.size → j < d.size → (W.cell? ⟨blk, off + i, none⟩ = some (.int .i64 ((dk[i]!.val : Nat) : Int)) ∧ W.cell? ⟨blk, off + j, none⟩ = some (.int .i64 ((dk[j]!.val : Nat) : Int))) ∧ (W.frozen? ⟨blk, off + i, none⟩ = false ∧ W.frozen? ⟨blk, off + j, none⟩ = false) ∧
    (∃ u, (W.setCell ⟨blk, off + i, none⟩ (.int .i64 ((dk[j]!.val : Nat) : Int))).cell? ⟨blk, off + j, none⟩ = some u) ∧
    SW encF w0 blk off (swp dk i j) ((W.setCell ⟨blk, off + i, none⟩ (.int .i64 ((dk[j]!.val : Nat) : Int))).setCell ⟨blk, off + j, none⟩ (.int .i64 ((dk[i]!.val : Nat) : Int)))) := fun dk W i j h1 h2 h3 h4 => S.swap h2 (h1.trans hs) i j (by omega) (by omega)
  have HCL : Hid (∀ (dk : Array (Fin (m + 1))) (W : World) (i : Nat), dk.size = d.size → SW encF w0 blk off dk W → i < d.size → W.cell? ⟨blk, off + i, none⟩ = some (.int .i64 ((dk[i]!.val : Nat) : Int))) := fun dk W i h1 h2 h3 => S.cell h2 (h1.trans hs) i (by omega)
  have HCM : Hid (∀ (dk : Array (Fin (m + 1))) (W : World), dk.size = d.size → SW encF w0 blk off dk W → ∀ (x y : Fin (m + 1)) (q : Nat), Calls Tryd.prog 37 #[rv, .int .i64 ((x.val : Nat) : Int), .int .i64 ((y.val : Nat) : Int)] (W.drewN q) fun e w' => e = .returned (.int .i64 (cf x y)) ∧ ∃ p, w' = (W.drewN q).drewN p) := fun dk W h1 h2 x y q => S.cmp dk (W.drewN q) (h1.trans hs) (h2.drewN q) x y
  have HSI : ∀ (dk : Array (Fin (m + 1))) (W : World) (lo hi : Nat), dk.size = d.size → SW encF w0 blk off dk W → a + hi ≤ d.size → lo ≤ hi → Calls Tryd.prog 94 #[.slice (some ⟨blk, off, none⟩) d.size cap, .int .i64 lo, .int .i64 hi, .int .i64 a, .func (.func 37) #[rv] #[]] W fun e w' => e = .returned (.tuple #[]) ∧ SW encF w0 blk off (siftDown (ltOf cf) hi a lo dk) w' := fun dk W lo hi h1 h2 h3 h4 => by
    have := sift_any S cap lo hi a dk W h2 (h1.trans hs) (by omega) h4
    rwa [h1] at this
  have HSS : Hid (∀ (dk : Array (Fin (m + 1))) (lo hi : Nat), (siftDown (ltOf cf) hi a lo dk).size = dk.size) := fun dk lo hi => sd_size hi a _ lo dk rfl
  have HW : Hid (SW encF w0 blk off d w) := hw
  obtain ⟨R, HR⟩ : ∃ R, R = Sort.heapSort (ltOf cf) d a b := ⟨_, rfl⟩
  rw [← HR]
  have HM0 : Hid (heapPop (ltOf cf) a l (heapBuild (ltOf cf) l a ((l - 1) / 2 + 1) d) = R) := by
    show _ = _
    rw [HR, Sort.heapSort, show b - a = l by omega]
  clear HR hw
  obtain ⟨n, HN⟩ : ∃ n, Hid (n = d.size) := ⟨_, rfl⟩
  have hn : n ≤ 1048576 := by rw [HN.out, hs]; exact hsz
  rw [← HN.out] at HSW HCL HCM HSI hb ⊢
  have v1 : IntKind.i64.wrap ((b : Int) - (a : Int)) = (l : Int) := by rw [IntKind.wrap_i64]; omega
  have v2 : IntKind.i64.wrap ((l : Int) - 1) = (l : Int) - 1 := by rw [IntKind.wrap_i64]; omega
  obtain ⟨h, hh⟩ : ∃ h, h = (l - 1) / 2 := ⟨_, rfl⟩
  have v3 : IntKind.i64.wrap (((l : Int) - 1).tdiv 2) = (h : Int) := by rw [Int.tdiv_eq_ediv_of_nonneg (by omega), IntKind.wrap_i64]; omega
  have v4 : IntKind.i64.wrap (((l : Int) - 1) / 2) = (h : Int) := by rw [IntKind.wrap_i64]; omega
  have v5 : ((l - 1 : Nat) : Int) / 2 = (h : Int) := by omega
  have v6 : IntKind.i64.wrap (h : Int) = (h : Int) := by rw [IntKind.wrap_i64]; omega
  rw [← hh] at HM0
  clear hh
  go_enter Tryd.func73, Tryd.ntmps73
  go_wp2_with fail
  go_loopw [11] (fun vi wr => ∃ (k : Nat) (dk : Array (Fin (m + 1))), vi = .int .i64 ((k : Int) - 1) ∧ k ≤ h + 1 ∧ Hid (dk.size = n) ∧ Hid (SW encF w0 blk off dk wr) ∧ Hid (heapPop (ltOf cf) a l (heapBuild (ltOf cf) l a k dk) = R)) (fun vi _ => (intOf vi + 1).toNat)
  case atStart => exact ⟨h + 1, d, by congr 1; omega, Nat.le_refl _, HN.out.symm, HW, HM0⟩
  case round =>
    clear HW HM0
    obtain ⟨k, dk, rfl, hk, hsk, hsw, HM⟩ := hrel
    cases k with
    | zero =>
      have hkz : ¬ (0 : Int) ≤ ((0 : Nat) : Int) - 1 := by omega
      have HM : Hid (heapPop (ltOf cf) a l dk = R) := HM
      go_wp2
      go_loopw [12] (fun vi wr => ∃ (k : Nat) (dk : Array (Fin (m + 1))), vi = .int .i64 ((k : Int) - 1) ∧ k ≤ l ∧ Hid (dk.size = n) ∧ Hid (SW encF w0 blk off dk wr) ∧ Hid (heapPop (ltOf cf) a k dk = R)) (fun vi _ => (intOf vi + 1).toNat)
      case atStart => exact ⟨l, dk, rfl, Nat.le_refl _, hsk, hsw, HM⟩
      case round =>
        clear hsk hsw HM
        obtain ⟨k, dk, rfl, hk, hsk, hsw, HM⟩ := hrel
        cases k with
        | zero =>
          have hkz : ¬ (0 : Int) ≤ ((0 : Nat) : Int) - 1 := by omega
          have HE : Hid (dk = R) := HM
          go_wp2
          go_end0
          exact ⟨rfl, by rw [← HE.out]; exact hsw.out⟩
        | succ k =>
          have HE : Hid (heapPop (ltOf cf) a k (siftDown (ltOf cf) k a 0 (swp dk a (a + k))) = R) := HM
          have e1 : ((k + 1 : Nat) : Int) - 1 = (k : Int) := by omega
          rw [e1]
          obtain ⟨f, hf⟩ : ∃ f, f = a + k := ⟨_, rfl⟩
          rw [← hf] at HE
          have v5 : IntKind.i64.wrap ((a : Int) + (k : Int)) = (f : Int) := by rw [IntKind.wrap_i64]; omega
          have v6 : IntKind.i64.wrap ((k : Int) - 1) = (k : Int) - 1 := by rw [IntKind.wrap_i64]; omega
          have i1 : (a : Int) < (n : Int) := by omega
          have i2 : (f : Int) < (n : Int) := by omega
          have hk0 : (0 : Int) ≤ (k : Int) := by omega
          have bd1 : f < n := by omega
          clear HM e1 hf
          obtain ⟨⟨s1, s2⟩, ⟨f1, f2⟩, ⟨u, s3⟩, hsw2⟩ := HSW.out dk wr (a) (f) hsk.out hsw.out (by omega) (by omega)
          have HX : Hid (SW encF w0 blk off (swp dk (a) (f)) ((wr.setCell ⟨blk, off + (a), none⟩ (.int .i64 ((dk[f]!.val : Nat) : Int))).setCell ⟨blk, off + (f), none⟩ (.int .i64 ((dk[a]!.val : Nat) : Int))).drew) := hsw2.drewN 1
          generalize ((dk[a]!.val : Nat) : Int) = x0 at s1 s2 s3 HX
          generalize ((dk[f]!.val : Nat) : Int) = y0 at s1 s2 s3 HX
          clear hsw2
          go_upto_region 10 with fail
          go_big_region_o
          generalize ((wr.setCell ⟨blk, off + (a), none⟩ (.int .i64 y0)).setCell ⟨blk, off + (f), none⟩ (.int .i64 x0)).drew = wHX at HX ⊢
          clear s1 s2 f1 f2 s3
          have HSX := HSI (swp dk a f) wHX 0 k (by rw [size_swp]; exact hsk.out) HX.out (by omega) (Nat.zero_le _)
          have hsy : Hid ((siftDown (ltOf cf) k a 0 (swp dk a f)).size = n) := by show _ = _; rw [HSS.out, size_swp]; exact hsk.out
          generalize siftDown (ltOf cf) k a 0 (swp dk a f) = dy at HSX hsy HE
          clear hsk hsw HX
          go_wp2_with fail
          refine HSX.mono ?_
          rintro e w5 ⟨rfl, hs5⟩
          have HS5 : Hid (SW encF w0 blk off dy w5) := hs5
          clear hs5 HSX
          go_wp2
          go_roundw
          case rel => exact ⟨k, dy, rfl, by omega, hsy, HS5, HE⟩
          case measure => simp [intOf]
    | succ k =>
      have HE : Hid (heapPop (ltOf cf) a l (heapBuild (ltOf cf) l a k (siftDown (ltOf cf) l a k dk)) = R) := HM
      have e1 : ((k + 1 : Nat) : Int) - 1 = (k : Int) := by omega
      rw [e1]
      have v6 : IntKind.i64.wrap ((k : Int) - 1) = (k : Int) - 1 := by rw [IntKind.wrap_i64]; omega
      have hk0 : (0 : Int) ≤ (k : Int) := by omega
      have HSX := HSI dk wr k l hsk.out hsw.out (by omega) (by omega)
      have hsy : Hid ((siftDown (ltOf cf) l a k dk).size = n) := by show _ = _; rw [HSS.out]; exact hsk.out
      generalize siftDown (ltOf cf) l a k dk = dy at HSX hsy HE
      clear HM hsk hsw e1
      go_wp2_with fail
      refine HSX.mono ?_
      rintro e w5 ⟨rfl, hs5⟩
      have HS5 : Hid (SW encF w0 blk off dy w5) := hs5
      clear hs5 HSX
      go_wp2
      go_roundw
      case rel => exact ⟨k, dy, rfl, by omega, hsy, HS5, HE⟩
      case measure => simp [intOf]
end

end Go.Proofs.YtlkemmdcjnaepaaDoor
