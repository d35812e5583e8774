/- Names in order: the library's partialInsertionSort, at places that are held against each other by the names that stand there. -/
import Derived.Test.YtlkemmdcjnaepaaDoorRows
import Derived.Test.YtlkemmdcjnaepaaDoorH03
import Derived.Sort.LotA
namespace Go.Proofs.YtlkemmdcjnaepaaDoor

section
open Go.RowKit Go.Sort Go.Shelf Go.Lib

section
variable {α : Type} [Inhabited α] {lt : α → α → Bool} {d : Array α}
theorem ss_go {b i : Nat} (h1 : i < b) (h2 : lt d[i]! d[i - 1]! = false) : scanSorted lt d b i = scanSorted lt d b (i + 1) := by
  conv => lhs; rw [scanSorted, if_pos (by rw [decide_eq_true h1, h2]; rfl)]
theorem ss_stop {b i : Nat} (h : i < b → lt d[i]! d[i - 1]! = true) : scanSorted lt d b i = i := by
  rw [scanSorted, if_neg]
  intro hc
  simp only [Bool.and_eq_true, decide_eq_true_eq, Bool.not_eq_true'] at hc
  rw [h hc.1] at hc
  cases hc.2
theorem sdn_stop {j : Nat} (h : lt d[j + 1]! d[j]! = false) : shiftDown lt (j + 1) d = d := by rw [shiftDown, h]; rfl
theorem sdn_go {j : Nat} (h : lt d[j + 1]! d[j]! = true) : shiftDown lt (j + 1) d = shiftDown lt j (swp d (j + 1) j) := by rw [shiftDown, h]; rfl
theorem sup_end {b j : Nat} (h : ¬ j < b) : shiftUp lt b j d = d := by rw [shiftUp, if_neg h]
theorem sup_stop {b j : Nat} (h : lt d[j]! d[j - 1]! = false) : shiftUp lt b j d = d := by
  rw [shiftUp, h]; split <;> rfl
theorem sup_go {b j : Nat} (h1 : j < b) (h : lt d[j]! d[j - 1]! = true) : shiftUp lt b j d = shiftUp lt b (j + 1) (swp d j (j - 1)) := by
  conv => lhs; rw [shiftUp, if_pos h1, h]
  rfl
end

set_option maxRecDepth 100000 in
set_option maxHeartbeats 8000000 in
theorem pins_any {m : Nat} {w0 : World} {blk off : Nat} {d0 : Array (Fin (m + 1))} {rv : Value} {cf : Fin (m + 1) → Fin (m + 1) → Int} (S : Sby m w0 blk off d0 rv cf) (cap a b : Nat) (d : Array (Fin (m + 1))) (w : World) (hw : SW encF w0 blk off d w) (hs : d.size = d0.size) (hab : a < b) (hb : b ≤ d.size) :
    Calls Tryd.prog 77 #[.slice (some ⟨blk, off, none⟩) d.size cap, .int .i64 a, .int .i64 b, .func (.func 37) #[rv] #[]] w fun e w' => e = .returned (.bool (Sort.partialInsertionSort (ltOf cf) d a b).2) ∧ SW encF w0 blk off (Sort.partialInsertionSort (ltOf cf) d a b).1 w' := by
  have mixed : Tryd.prog.follows .mixedOrders = true := by kernel_rfl
  have hsz := S.hs
  have HSW : Hid (∀ (dk : Array (Fin (m + 1))) (W : World) (i j : Nat), dk.size = d.size → SW encF w0 blk off dk W → i < d.size → j < d.size → (W.cell? ⟨blk, off + i, none⟩ = some (.int .i64 ((dk[i]!.val : Nat) : Int)) ∧ W.cell? ⟨blk, off + j, none⟩ = some (.int .i64 ((dk[j]!.val : Nat) : Int))) ∧ (W.frozen? ⟨blk, off + i, none⟩ = false ∧ W.frozen? ⟨blk, off + j, none⟩ = false) ∧
    (∃ u, (W.setCell ⟨blk, off + i, none⟩ (.int .i64 ((dk[j]!.val : Nat) : Int))).cell? ⟨blk, off + j, none⟩ = some u) ∧
    SW encF w0 blk off (swp dk i j) ((W.setCell ⟨blk, off + i, none⟩ (.int .i64 ((dk[j]!.val : Nat) : Int))).setCell ⟨blk, off + j, none⟩ (.int .i64 ((dk[i]!.val : Nat) : Int)))) := fun dk W i j h1 h2 h3 h4 => S.swap h2 (h1.trans hs) i j (by omega) (by omega)
  have HCL : Hid (∀ (dk : Array (Fin (m + 1))) (W : World) (i : Nat), dk.size = d.size → SW encF w0 blk off dk W → i < d.size → W.cell? ⟨blk, off + i, none⟩ = some (.int .i64 ((dk[i]!.val : Nat) : Int))) := fun dk W i h1 h2 h3 => S.cell h2 (h1.trans hs) i (by omega)
  have HCM : Hid (∀ (dk : Array (Fin (m + 1))) (W : World), dk.size = d.size → SW encF w0 blk off dk W → ∀ (x y : Fin (m + 1)) (q : Nat), Calls Tryd.prog 37 #[rv, .int .i64 ((x.val : Nat) : Int), .int .i64 ((y.val : Nat) : Int)] (W.drewN q) fun e w' => e = .returned (.int .i64 (cf x y)) ∧ ∃ p, w' = (W.drewN q).drewN p) := fun dk W h1 h2 x y q => S.cmp dk (W.drewN q) (h1.trans hs) (h2.drewN q) x y
  rw [Sort.partialInsertionSort]
  obtain ⟨R, HR0⟩ : ∃ R, partialIns (ltOf cf) a b 5 (a + 1) d = R := ⟨_, rfl⟩
  rw [HR0]
  have HM0 : Hid (partialIns (ltOf cf) a b 5 (a + 1) d = R) := HR0
  have HMQ : Hid (∀ s i0 (dk : Array (Fin (m + 1))), partialIns (ltOf cf) a b (s + 1) i0 dk = R → ∀ I, scanSorted (ltOf cf) dk b i0 = I → (I = b → R = (dk, true)) ∧ (I ≠ b → b - a < 50 → R = (dk, false)) ∧ (I ≠ b → ¬ b - a < 50 → partialIns (ltOf cf) a b s I (fixUp (ltOf cf) b I (fixDown (ltOf cf) a I (swp dk I (I - 1)))) = R)) := fun s i0 dk h I h1 => by
    rw [partialIns_succ, h1] at h
    refine ⟨fun e => ?_, fun e1 e2 => ?_, fun e1 e2 => ?_⟩
    · rw [if_pos e] at h; exact h.symm
    · rw [if_neg e1, if_pos e2] at h; exact h.symm
    · rw [if_neg e1, if_neg e2] at h; exact h
  have HW : Hid (SW encF w0 blk off d w) := hw
  clear hw HR0
  obtain ⟨n, HN⟩ : ∃ n, Hid (n = d.size) := ⟨_, rfl⟩
  have hn : n ≤ 1048576 := by rw [HN.out, hs]; exact hsz
  rw [← HN.out] at HSW HCL HCM hb ⊢
  have v1 : IntKind.i64.wrap ((a : Int) + 1) = ((a + 1 : Nat) : Int) := by rw [IntKind.wrap_i64]; omega
  obtain ⟨l, hl⟩ : ∃ l, l = b - a := ⟨_, rfl⟩
  have v2 : IntKind.i64.wrap ((b : Int) - (a : Int)) = (l : Int) := by rw [IntKind.wrap_i64]; omega
  go_enter Tryd.func77, Tryd.ntmps77
  go_wp2
  go_loopw [9, 10] (fun iv jv wr => ∃ (s i0 : Nat) (dk : Array (Fin (m + 1))) (jz : Int), iv = .int .i64 i0 ∧ jv = .int .i64 jz ∧ a < i0 ∧ i0 ≤ b ∧ s ≤ 5 ∧ Hid (jz = 5 - (s : Int)) ∧ Hid (dk.size = n) ∧ Hid (SW encF w0 blk off dk wr) ∧ Hid (partialIns (ltOf cf) a b s i0 dk = R)) (fun _ jv _ => (5 - intOf jv).toNat)
  case atStart => exact ⟨5, a + 1, d, 0, rfl, rfl, by omega, by omega, Nat.le_refl _, rfl, HN.out.symm, HW, HM0⟩
  case round =>
    clear HW HM0
    obtain ⟨s, i0, dk, jz, rfl, rfl, hi1, hi2, hs5, hjz, hsk, hsw, HM⟩ := hrel
    cases s with
    | zero =>
      have hjb : ¬ jz < 5 := by have := hjz.out; omega
      have HE : R = (dk, false) := HM.out.symm
      subst HE
      clear HMQ HM
      go_wp2
      go_ret
      exact ⟨rfl, hsw.out⟩
    | succ s =>
      have hjb : jz < 5 := by have := hjz.out; omega
      have wjz : IntKind.i64.wrap (jz + 1) = jz + 1 := by have := hjz.out; rw [IntKind.wrap_i64]; omega
      have HQ := HMQ.out s i0 dk HM.out
      have HQ : Hid (∀ I, scanSorted (ltOf cf) dk b i0 = I → (I = b → R = (dk, true)) ∧ (I ≠ b → b - a < 50 → R = (dk, false)) ∧ (I ≠ b → ¬ b - a < 50 → partialIns (ltOf cf) a b s I (fixUp (ltOf cf) b I (fixDown (ltOf cf) a I (swp dk I (I - 1)))) = R)) := HQ
      clear HM
      go_wp2
      go_loopw [9] (fun iv wr => ∃ i : Nat, iv = .int .i64 i ∧ a < i ∧ i ≤ b ∧ Hid (SW encF w0 blk off dk wr) ∧ Hid (scanSorted (ltOf cf) dk b i = scanSorted (ltOf cf) dk b i0)) (fun iv _ => b - (intOf iv).toNat)
      case atStart => exact ⟨i0, rfl, hi1, hi2, hsw, rfl⟩
      case round =>
        clear hsw
        obtain ⟨i, rfl, hj1, hj2, hsw, HU⟩ := hrel
        obtain ⟨k, rfl⟩ : ∃ k, i = k + 1 := ⟨i - 1, by omega⟩
        obtain ⟨bb, hbb⟩ : ∃ bb, (decide (k + 1 < b) && !ltOf cf dk[k + 1]! dk[k]!) = bb := ⟨_, rfl⟩
        have HB : Hid ((decide (k + 1 < b) && !ltOf cf dk[k + 1]! dk[k]!) = bb) := hbb
        have vk : IntKind.i64.wrap ((k : Int) + 1 - 1) = (k : Int) := by rw [IntKind.wrap_i64]; omega
        have vk0 : IntKind.i64.wrap (k : Int) = (k : Int) := by rw [IntKind.wrap_i64]; omega
        clear hbb
        go_upto_region 5 with fail
        go_cut [36] from 19 to 36 (fun bv wx => bv = .bool bb ∧ Hid (SW encF w0 blk off dk wx))
        case first =>
          by_cases hij : k + 1 < b
          · have hijz : (k : Int) + 1 < (b : Int) := by omega
            have i1 : (k : Int) + 1 < (n : Int) := by omega
            have i2 : (k : Int) < (n : Int) := by omega
            obtain ⟨q1, hb1⟩ : ∃ q, ltOf cf dk[k + 1]! dk[k]! = q := ⟨_, rfl⟩
            have hbq : (!q1) = bb := by rw [← HB.out, hb1, decide_eq_true hij]; rfl
            subst hbq
            have c1a := HCL.out dk wr (k + 1) hsk.out hsw.out (by omega)
            have c1b := HCL.out dk wr k hsk.out hsw.out (by omega)
            have HC1 := HCM.out dk wr hsk.out hsw.out dk[k + 1]! dk[k]!
            have HQ1 : Hid (∀ q, SW encF w0 blk off dk (wr.drewN q)) := fun q => hsw.out.drewN q
            have hq1 : decide (cf dk[k + 1]! dk[k]! < 0) = q1 := hb1
            generalize cf dk[k + 1]! dk[k]! = k1 at HC1 hq1
            generalize ((dk[k + 1]!.val : Nat) : Int) = xa1 at c1a HC1
            generalize ((dk[k]!.val : Nat) : Int) = xb1 at c1b HC1
            go_quiet ((go_at_call 37; exact Calls.quiet_of (HC1 _)))
            have w6H : Hid (SW encF w0 blk off dk (wr.drewN nq)) := HQ1.out nq
            clear c1a c1b HC1 HQ1
            generalize wr.drewN nq = w6 at w6H ⊢
            cases q1
            · go_wp2_with fail
              go_meet
              exact ⟨rfl, w6H⟩
            · go_wp2_with fail
              go_meet
              exact ⟨rfl, w6H⟩
          · have hijz : ¬ (k : Int) + 1 < (b : Int) := by omega
            obtain rfl : bb = false := by rw [← HB.out, decide_eq_false hij]; rfl
            have HSQ : Hid (∀ q, SW encF w0 blk off dk (wr.drewN q)) := fun q => hsw.out.drewN q
            go_quiet (fail)
            have w6H : Hid (SW encF w0 blk off dk (wr.drewN nq)) := HSQ.out nq
            clear HSQ
            generalize wr.drewN nq = w6 at w6H ⊢
            go_wp2_with fail
            go_meet
            exact ⟨rfl, w6H⟩
        case rest =>
          obtain ⟨rfl, hsc⟩ := hcut
          clear hsw
          have hsw := hsc
          clear hsc
          cases bb
          · have HI : Hid (scanSorted (ltOf cf) dk b i0 = k + 1) := by show _ = _; rw [← HU.out]; exact ss_stop (by simpa using HB.out)
            clear HU HB
            by_cases hkb : k + 1 = b
            · have hkz : ((k : Int) + 1 == (b : Int)) = true := by rw [beq_iff_eq]; omega
              have HE : R = (dk, true) := (HQ.out _ HI.out).1 hkb
              subst HE
              clear HQ HMQ HI
              go_wp2
              go_ret
              exact ⟨rfl, hsw.out⟩
            · have hkz : ((k : Int) + 1 == (b : Int)) = false := by rw [beq_eq_false_iff_ne]; omega
              by_cases hl50 : b - a < 50
              · have hlz : (l : Int) < 50 := by omega
                have HE : R = (dk, false) := (HQ.out _ HI.out).2.1 hkb hl50
                subst HE
                clear HQ HMQ HI
                go_wp2
                go_ret
                exact ⟨rfl, hsw.out⟩
              · have hlz : ¬ (l : Int) < 50 := by omega
                have HNX := (HQ.out _ HI.out).2.2 hkb hl50
                rw [Nat.add_sub_cancel] at HNX
                have i1 : (k : Int) + 1 < (n : Int) := by omega
                have i2 : (k : Int) < (n : Int) := by omega
                obtain ⟨z1, hz1⟩ : ∃ z, z = k + 1 - a := ⟨_, rfl⟩
                obtain ⟨z2, hz2⟩ : ∃ z, z = b - (k + 1) := ⟨_, rfl⟩
                have v3 : IntKind.i64.wrap ((k : Int) + 1 - (a : Int)) = (z1 : Int) := by rw [IntKind.wrap_i64]; omega
                have v4 : IntKind.i64.wrap ((b : Int) - ((k : Int) + 1)) = (z2 : Int) := by rw [IntKind.wrap_i64]; omega
                have v5 : IntKind.i64.wrap ((k : Int) + 1 + 1) = ((k + 1 + 1 : Nat) : Int) := by rw [IntKind.wrap_i64]; omega
                have HDN1 : Hid (2 ≤ z1 → fixDown (ltOf cf) a (k + 1) (swp dk (k + 1) k) = shiftDown (ltOf cf) k (swp dk (k + 1) k)) := fun h => by unfold fixDown; rw [if_pos (by omega)]; rfl
                have HDN2 : Hid (¬ 2 ≤ z1 → fixDown (ltOf cf) a (k + 1) (swp dk (k + 1) k) = swp dk (k + 1) k) := fun h => by unfold fixDown; rw [if_neg (by omega)]
                have HUP1 : Hid (∀ dx : Array (Fin (m + 1)), 2 ≤ z2 → fixUp (ltOf cf) b (k + 1) dx = shiftUp (ltOf cf) b (k + 1 + 1) dx) := fun dx h => by unfold fixUp; rw [if_pos (by omega)]
                have HUP2 : Hid (∀ dx : Array (Fin (m + 1)), ¬ 2 ≤ z2 → fixUp (ltOf cf) b (k + 1) dx = dx) := fun dx h => by unfold fixUp; rw [if_neg (by omega)]
                have HNX : Hid (partialIns (ltOf cf) a b s (k + 1) (fixUp (ltOf cf) b (k + 1) (fixDown (ltOf cf) a (k + 1) (swp dk (k + 1) k))) = R) := HNX
                clear HQ HI hz1 hz2
                obtain ⟨⟨s1, s2⟩, ⟨f1, f2⟩, ⟨u, s3⟩, hsw2⟩ := HSW.out dk wc (k + 1) (k) hsk.out hsw.out (by omega) (by omega)
                have HX : Hid (SW encF w0 blk off (swp dk (k + 1) (k)) ((wc.setCell ⟨blk, off + (k + 1), none⟩ (.int .i64 ((dk[k]!.val : Nat) : Int))).setCell ⟨blk, off + (k), none⟩ (.int .i64 ((dk[k + 1]!.val : Nat) : Int))).drew) := hsw2.drewN 1
                generalize ((dk[k + 1]!.val : Nat) : Int) = x0 at s1 s2 s3 HX
                generalize ((dk[k]!.val : Nat) : Int) = y0 at s1 s2 s3 HX
                clear hsw2
                go_upto_region 11 with fail
                go_big_region_o
                generalize ((wc.setCell ⟨blk, off + (k + 1), none⟩ (.int .i64 y0)).setCell ⟨blk, off + (k), none⟩ (.int .i64 x0)).drew = wHX at HX ⊢
                clear s1 s2 f1 f2 s3
                have hs2 : Hid ((swp dk (k + 1) k).size = n) := by show _ = _; rw [size_swp]; exact hsk.out
                generalize swp dk (k + 1) k = d2 at HX hs2 HNX HDN1 HDN2
                generalize fixDown (ltOf cf) a (k + 1) d2 = D3 at HNX HDN1 HDN2
                clear hsw hsk
                go_upto_if 65 with fail
                go_cut [11] from 62 to 100 (fun _ wx => Hid (SW encF w0 blk off D3 wx) ∧ Hid (D3.size = n))
                case first =>
                  clear HNX HUP1 HUP2 HMQ
                  by_cases h2 : 2 ≤ z1
                  · have h2z : (2 : Int) ≤ (z1 : Int) := by omega
                    obtain rfl := HDN1.out h2
                    clear HDN1 HDN2
                    go_wp2_with fail
                    go_loopw [11] (fun iv wr => ∃ (j : Nat) (dj : Array (Fin (m + 1))), iv = .int .i64 j ∧ j ≤ k ∧ Hid (dj.size = n) ∧ Hid (SW encF w0 blk off dj wr) ∧ Hid (shiftDown (ltOf cf) j dj = shiftDown (ltOf cf) k d2)) (fun iv _ => (intOf iv).toNat)
                    case atStart => exact ⟨k, d2, by go_num, Nat.le_refl _, hs2, HX, rfl⟩
                    case round =>
                      clear HX hs2
                      obtain ⟨j, dj, rfl, hjk, hsj, hswj, HD⟩ := hrel
                      cases j with
                      | zero =>
                        have HE : Hid (dj = shiftDown (ltOf cf) k d2) := HD
                        go_wp2_with fail
                        go_meet
                        exact ⟨by show SW _ _ _ _ _ _; rw [← HE.out]; exact hswj.out, by show _ = _; rw [← HE.out]; exact hsj.out⟩
                      | succ t =>
                        have i3 : (t : Int) + 1 < (n : Int) := by omega
                        have i4 : (t : Int) < (n : Int) := by omega
                        have vt : IntKind.i64.wrap ((t : Int) + 1 - 1) = (t : Int) := by rw [IntKind.wrap_i64]; omega
                        have vt0 : IntKind.i64.wrap (t : Int) = (t : Int) := by rw [IntKind.wrap_i64]; omega
                        have ht1 : (1 : Int) ≤ (t : Int) + 1 := by omega
                        obtain ⟨q1, hb1⟩ : ∃ q, ltOf cf dj[t + 1]! dj[t]! = q := ⟨_, rfl⟩
                        have HST : Hid (q1 = false → dj = shiftDown (ltOf cf) k d2) := fun h => by rw [← HD.out, sdn_stop (by rw [hb1]; exact h)]
                        have HGO : Hid (q1 = true → shiftDown (ltOf cf) t (swp dj (t + 1) t) = shiftDown (ltOf cf) k d2) := fun h => by rw [← HD.out, sdn_go (by rw [hb1]; exact h)]
                        clear HD
                        go_upto_region 16 with fail
                        have c1a := HCL.out dj wr (t + 1) hsj.out hswj.out (by omega)
                        have c1b := HCL.out dj wr t hsj.out hswj.out (by omega)
                        have HC1 := HCM.out dj wr hsj.out hswj.out dj[t + 1]! dj[t]!
                        have HQ1 : Hid (∀ q, SW encF w0 blk off dj (wr.drewN q)) := fun q => hswj.out.drewN q
                        have hq1 : decide (cf dj[t + 1]! dj[t]! < 0) = q1 := hb1
                        generalize cf dj[t + 1]! dj[t]! = k1 at HC1 hq1
                        generalize ((dj[t + 1]!.val : Nat) : Int) = xa1 at c1a HC1
                        generalize ((dj[t]!.val : Nat) : Int) = xb1 at c1b HC1
                        cases q1
                        · have HE : Hid (dj = shiftDown (ltOf cf) k d2) := HST.out rfl
                          clear HST HGO hswj
                          go_quiet ((go_at_call 37; exact Calls.quiet_of (HC1 _)))
                          have w6H : Hid (SW encF w0 blk off dj (wr.drewN nq)) := HQ1.out nq
                          clear c1a c1b HC1 HQ1
                          generalize wr.drewN nq = w6 at w6H ⊢
                          go_wp2_with fail
                          go_meet
                          exact ⟨by show SW _ _ _ _ _ _; rw [← HE.out]; exact w6H.out, by show _ = _; rw [← HE.out]; exact hsj.out⟩
                        · have HE : Hid (shiftDown (ltOf cf) t (swp dj (t + 1) t) = shiftDown (ltOf cf) k d2) := HGO.out rfl
                          clear HST HGO hswj
                          go_quiet ((go_at_call 37; exact Calls.quiet_of (HC1 _)))
                          have w6H : Hid (SW encF w0 blk off dj (wr.drewN nq)) := HQ1.out nq
                          clear c1a c1b HC1 HQ1
                          generalize wr.drewN nq = w6 at w6H ⊢
                          obtain ⟨⟨s1, s2⟩, ⟨f1, f2⟩, ⟨u, s3⟩, hsw2⟩ := HSW.out dj w6 (t + 1) (t) hsj.out w6H.out (by omega) (by omega)
                          have HY : Hid (SW encF w0 blk off (swp dj (t + 1) (t)) ((w6.setCell ⟨blk, off + (t + 1), none⟩ (.int .i64 ((dj[t]!.val : Nat) : Int))).setCell ⟨blk, off + (t), none⟩ (.int .i64 ((dj[t + 1]!.val : Nat) : Int))).drew) := hsw2.drewN 1
                          generalize ((dj[t + 1]!.val : Nat) : Int) = x0 at s1 s2 s3 HY
                          generalize ((dj[t]!.val : Nat) : Int) = y0 at s1 s2 s3 HY
                          clear hsw2
                          go_upto_region 17 with fail
                          go_big_region_o
                          generalize ((w6.setCell ⟨blk, off + (t + 1), none⟩ (.int .i64 y0)).setCell ⟨blk, off + (t), none⟩ (.int .i64 x0)).drew = wHY at HY ⊢
                          clear s1 s2 f1 f2 s3
                          go_wp2
                          go_roundw
                          case rel => exact ⟨t, _, rfl, by omega, by show _ = _; rw [size_swp]; exact hsj.out, HY, HE⟩
                          case measure => simp [intOf]
                  · have h2z : ¬ (2 : Int) ≤ (z1 : Int) := by omega
                    obtain rfl := HDN2.out h2
                    go_wp2_with fail
                    go_meet
                    exact ⟨HX, hs2⟩
                case rest =>
                  obtain ⟨hw3, hs3⟩ := hcut
                  clear HX hs2 HDN1 HDN2
                  have HU1 : Hid (2 ≤ z2 → fixUp (ltOf cf) b (k + 1) D3 = shiftUp (ltOf cf) b (k + 1 + 1) D3) := HUP1.out D3
                  have HU2 : Hid (¬ 2 ≤ z2 → fixUp (ltOf cf) b (k + 1) D3 = D3) := HUP2.out D3
                  clear HUP1 HUP2
                  generalize fixUp (ltOf cf) b (k + 1) D3 = D4 at HNX HU1 HU2
                  by_cases h2 : 2 ≤ z2
                  · have h2z : (2 : Int) ≤ (z2 : Int) := by omega
                    obtain rfl := HU1.out h2
                    clear HU1 HU2 HMQ
                    go_wp2_with fail
                    go_loopw [12] (fun iv wr => ∃ (j : Nat) (dj : Array (Fin (m + 1))), iv = .int .i64 ((j : Int) + 1) ∧ k + 1 ≤ j ∧ j + 1 ≤ b + 1 ∧ Hid (dj.size = n) ∧ Hid (SW encF w0 blk off dj wr) ∧ Hid (shiftUp (ltOf cf) b (j + 1) dj = shiftUp (ltOf cf) b (k + 1 + 1) D3)) (fun iv _ => b - (intOf iv).toNat)
                    case atStart => exact ⟨k + 1, D3, by go_num, Nat.le_refl _, by omega, hs3, hw3, rfl⟩
                    case round =>
                      clear hw3 hs3
                      obtain ⟨t, dj, rfl, hjk, hjb2, hsj, hswj, HD⟩ := hrel
                      by_cases htb : t + 1 < b
                      · have htz : (t : Int) + 1 < (b : Int) := by omega
                        have i3 : (t : Int) + 1 < (n : Int) := by omega
                        have i4 : (t : Int) < (n : Int) := by omega
                        have vt : IntKind.i64.wrap ((t : Int) + 1 - 1) = (t : Int) := by rw [IntKind.wrap_i64]; omega
                        have vt0 : IntKind.i64.wrap (t : Int) = (t : Int) := by rw [IntKind.wrap_i64]; omega
                        have vt2 : IntKind.i64.wrap ((t : Int) + 1 + 1) = ((t + 1 : Nat) : Int) + 1 := by rw [IntKind.wrap_i64]; omega
                        obtain ⟨q1, hb1⟩ : ∃ q, ltOf cf dj[t + 1]! dj[t]! = q := ⟨_, rfl⟩
                        have HST : Hid (q1 = false → dj = shiftUp (ltOf cf) b (k + 1 + 1) D3) := fun h => by rw [← HD.out, sup_stop (by rw [Nat.add_sub_cancel, hb1]; exact h)]
                        have HGO : Hid (q1 = true → shiftUp (ltOf cf) b (t + 1 + 1) (swp dj (t + 1) t) = shiftUp (ltOf cf) b (k + 1 + 1) D3) := fun h => by rw [← HD.out, sup_go (d := dj) htb (by rw [Nat.add_sub_cancel, hb1]; exact h), Nat.add_sub_cancel]
                        clear HD
                        go_upto_region 22 with fail
                        have c1a := HCL.out dj wr (t + 1) hsj.out hswj.out (by omega)
                        have c1b := HCL.out dj wr t hsj.out hswj.out (by omega)
                        have HC1 := HCM.out dj wr hsj.out hswj.out dj[t + 1]! dj[t]!
                        have HQ1 : Hid (∀ q, SW encF w0 blk off dj (wr.drewN q)) := fun q => hswj.out.drewN q
                        have hq1 : decide (cf dj[t + 1]! dj[t]! < 0) = q1 := hb1
                        generalize cf dj[t + 1]! dj[t]! = k1 at HC1 hq1
                        generalize ((dj[t + 1]!.val : Nat) : Int) = xa1 at c1a HC1
                        generalize ((dj[t]!.val : Nat) : Int) = xb1 at c1b HC1
                        cases q1
                        · have HE : Hid (dj = shiftUp (ltOf cf) b (k + 1 + 1) D3) := HST.out rfl
                          clear HST HGO hswj
                          go_quiet ((go_at_call 37; exact Calls.quiet_of (HC1 _)))
                          have w6H : Hid (SW encF w0 blk off dj (wr.drewN nq)) := HQ1.out nq
                          clear c1a c1b HC1 HQ1
                          generalize wr.drewN nq = w6 at w6H ⊢
                          rw [← HE.out] at HNX
                          go_wp2
                          go_roundw
                          case rel => exact ⟨s, k + 1, dj, jz + 1, rfl, rfl, by omega, by omega, by omega, by show _ = _; have := hjz.out; omega, hsj, w6H, HNX⟩
                          case measure => simp [intOf]; have := hjz.out; omega
                        · have HE : Hid (shiftUp (ltOf cf) b (t + 1 + 1) (swp dj (t + 1) t) = shiftUp (ltOf cf) b (k + 1 + 1) D3) := HGO.out rfl
                          clear HST HGO hswj
                          go_quiet ((go_at_call 37; exact Calls.quiet_of (HC1 _)))
                          have w6H : Hid (SW encF w0 blk off dj (wr.drewN nq)) := HQ1.out nq
                          clear c1a c1b HC1 HQ1
                          generalize wr.drewN nq = w6 at w6H ⊢
                          obtain ⟨⟨s1, s2⟩, ⟨f1, f2⟩, ⟨u, s3⟩, hsw2⟩ := HSW.out dj w6 (t + 1) (t) hsj.out w6H.out (by omega) (by omega)
                          have HY : Hid (SW encF w0 blk off (swp dj (t + 1) (t)) ((w6.setCell ⟨blk, off + (t + 1), none⟩ (.int .i64 ((dj[t]!.val : Nat) : Int))).setCell ⟨blk, off + (t), none⟩ (.int .i64 ((dj[t + 1]!.val : Nat) : Int))).drew) := hsw2.drewN 1
                          generalize ((dj[t + 1]!.val : Nat) : Int) = x0 at s1 s2 s3 HY
                          generalize ((dj[t]!.val : Nat) : Int) = y0 at s1 s2 s3 HY
                          clear hsw2
                          go_upto_region 23 with fail
                          go_big_region_o
                          generalize ((w6.setCell ⟨blk, off + (t + 1), none⟩ (.int .i64 y0)).setCell ⟨blk, off + (t), none⟩ (.int .i64 x0)).drew = wHY at HY ⊢
                          clear s1 s2 f1 f2 s3
                          go_wp2
                          go_roundw
                          case rel => exact ⟨t + 1, _, rfl, by omega, by omega, by show _ = _; rw [size_swp]; exact hsj.out, HY, HE⟩
                          case measure => simp [intOf]; omega
                      · have htz : ¬ (t : Int) + 1 < (b : Int) := by omega
                        have HE : Hid (dj = shiftUp (ltOf cf) b (k + 1 + 1) D3) := by show _ = _; rw [← HD.out, sup_end htb]
                        rw [← HE.out] at HNX
                        go_wp2
                        go_roundw
                        case rel => exact ⟨s, k + 1, dj, jz + 1, rfl, rfl, by omega, by omega, by omega, by show _ = _; have := hjz.out; omega, hsj, hswj, HNX⟩
                        case measure => simp [intOf]; have := hjz.out; omega
                  · have h2z : ¬ (2 : Int) ≤ (z2 : Int) := by omega
                    have e3 := HU2.out h2
                    rw [e3] at HNX
                    clear e3
                    go_wp2
                    go_roundw
                    case rel => first | exact ⟨s, k + 1, D4, jz + 1, rfl, rfl, by omega, by omega, by omega, by show _ = _; have := hjz.out; omega, hs3, hw3, HNX⟩ | (have e4 := HU2.out h2; subst e4; exact ⟨s, k + 1, _, jz + 1, rfl, rfl, by omega, by omega, by omega, by show _ = _; have := hjz.out; omega, hs3, hw3, HNX⟩)
                    case measure => simp [intOf]; have := hjz.out; omega
          · have hgo : k + 1 < b ∧ ltOf cf dk[k + 1]! dk[k]! = false := by simpa using HB.out
            have HU2 : Hid (scanSorted (ltOf cf) dk b (k + 1 + 1) = scanSorted (ltOf cf) dk b i0) := by show _ = _; rw [← HU.out]; exact (ss_go hgo.1 hgo.2).symm
            have hgo1 := hgo.1
            have w1 : IntKind.i64.wrap ((k : Int) + 1 + 1) = ((k + 1 + 1 : Nat) : Int) := by rw [IntKind.wrap_i64]; omega
            clear HB HU hgo
            go_wp2
            go_roundw
            case rel => exact ⟨k + 1 + 1, rfl, by omega, by omega, hsw, HU2⟩
            case measure => simp [intOf]; omega
end

end Go.Proofs.YtlkemmdcjnaepaaDoor
