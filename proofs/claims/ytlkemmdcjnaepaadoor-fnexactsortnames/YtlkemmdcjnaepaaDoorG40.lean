/- FnSorted's walk, given what the program's SortNames and Order answer. strings.Clone. -/
import Derived.Test.YtlkemmdcjnaepaaDoorRows
import Derived.Test.YtlkemmdcjnaepaaDoorG38
import Derived.Test.YtlkemmdcjnaepaaDoorG28
import Derived.Test.YtlkemmdcjnaepaaDoorG31
import Derived.Test.YtlkemmdcjnaepaaDoorShelf
import Derived.Lib.QuietBelow
import Derived.BigQuiet
import Derived.WalkKit
import Derived.WalkSpells
import Derived.WalkLawsBesides
namespace Go.Proofs.YtlkemmdcjnaepaaDoor

section
open Go.RowKit Go.Sort

/-- what impl.SortNames and impl.Order answer -/
structure SoImpl (w0 : World) : Prop where
  s : ∀ (v : Value) (l : List ByteArray) (w : World), Below w0.heap.size w0 w → TxtsAt w v l → l.length ≤ 1048576 → (∀ t, t < l.length → l[t]!.size ≤ 1048576) →
    Calls Tryd.prog 11 #[v] w fun e w' => ∃ u, e = .returned u ∧ TxtRow w' w.heap.size u (sort14 l) ∧ Below w.heap.size w w'
  o : ∀ (a b : ByteArray) (w : World), Below w0.heap.size w0 w → a.size ≤ 1048576 → b.size ≤ 1048576 →
    Calls Tryd.prog 14 #[.string a, .string b] w fun e w' => e = .returned (.int .i64 (ordN a b)) ∧ Below w.heap.size w w'
theorem sort_pair (l : List ByteArray) (i j : Nat) (hij : i < j) (hj : j < (sort14 l).length) : lt14 (sort14 l)[j]! (sort14 l)[i]! = false := by
  have := List.pairwise_iff_getElem.1 (sort14_right l).up i j (by omega) hj hij
  rw [getElem!_pos _ i (by omega), getElem!_pos _ j hj]
  exact this
theorem sort_size {l : List ByteArray} {m : Nat} (h : ∀ t ∈ l, t.size ≤ m) (i : Nat) (hi : i < (sort14 l).length) : (sort14 l)[i]!.size ≤ m := by
  rw [getElem!_pos _ i hi]
  exact h _ ((sort14_right l).perm.mem_iff.1 (List.getElem_mem hi))

set_option maxRecDepth 100000 in
set_option maxHeartbeats 1000000 in
theorem sorted_walk {w : World} (I : SoImpl w) (S : Src) (ok : S.ok) (hl : Lies S w) :
    Calls Tryd.prog 3 #[.slice S.a S.len S.cap] w fun e w' => e = .returned (.bool true) ∧ Below w.heap.size w w' := by
  have hlen : S.len ≤ 1048576 := ok.1
  have HDR := sdrawSortNames_any S ok w hl
  have HDO := fun W h => sdrawOrder_any S ok W (hl.below h)
  go_enter Tryd.func3, Tryd.ntmps3
  go_wp2_with (first | (go_at_call 9; go_in))
  refine HDR.mono ?_
  rintro _ w1 ⟨l, v, hll, hlz, rfl, rowl, b1⟩
  have hz : ∀ t, t < l.length → l[t]!.size ≤ 1048576 := fun t ht => by
    rw [getElem!_pos l t ht]
    have := hlz _ (List.getElem_mem ht)
    omega
  go_wp2_with fail
  refine (I.s v l w1 b1 rowl.at (by omega) hz).mono ?_
  rintro _ w2 ⟨u, rfl, rowu, b2⟩
  have B2 := b1.trans (b2.mono b1.size)
  have hl2 := rowl.at.below b2
  have hu2 := rowu.at
  clear rowl rowu b1 b2 HDR
  go_wp2_with fail
  refine (sSortNames v l w2 (by omega) hz hl2).mono ?_
  rintro _ w3 ⟨x, rfl, rowx, b3⟩
  have B3 := B2.trans (b3.mono B2.size)
  have hu3 := hu2.below b3
  have hl3 := hl2.below b3
  have hsl : (sort14 l).length = l.length := sort14_len l
  go_wp2_with fail
  refine (sameTexts_any u x (sort14 l) (sort14 l) w3 (by omega) hu3 rowx.at).mono ?_
  rintro _ w4 ⟨rfl, b4⟩
  rw [decide_eq_true rfl]
  have B4 := B3.trans (b4.mono B3.size)
  have hu4 := hu3.below b4
  obtain ⟨al, cl, rfl, -⟩ := hl3
  obtain ⟨au, cu, rfl, -, hcu⟩ := hu4
  have HPR : Hid (∀ i j, i < j → j < (sort14 l).length → lt14 (sort14 l)[j]! (sort14 l)[i]! = false) := fun i j h1 h2 => sort_pair l i j h1 h2
  have HSZ : Hid (∀ i, i < (sort14 l).length → (sort14 l)[i]!.size ≤ 100) := fun i h => sort_size hlz i h
  have HNL : Hid ((sort14 l).length ≤ 7) := by show _ ≤ _; omega
  rw [← hsl]
  clear hu2 hu3 hl2 rowx b3 b4 hsl hz hlz hll
  generalize sort14 l = s at *
  have hn7 : s.length ≤ 7 := HNL.out
  obtain ⟨n, HN⟩ : ∃ n, Hid (n = s.length) := ⟨_, rfl⟩
  rw [← HN.out] at hcu HPR HSZ hn7 ⊢
  have HCU : Hid (∀ W, Below w4.heap.size w4 W → ∀ t, t < n → ∃ b off, au = some ⟨b, off, none⟩ ∧ W.cell? ⟨b, off + t, none⟩ = some (.string s[t]!)) := fun W h t ht => by
    obtain ⟨b, off, e, hb, hc⟩ := hcu t ht
    exact ⟨b, off, e, (h.cell (p := ⟨b, off + t, none⟩) hb).trans hc⟩
  have HIO : Hid (∀ a b W, Below w4.heap.size w4 W → a.size ≤ 1048576 → b.size ≤ 1048576 → Calls Tryd.prog 14 #[.string a, .string b] W fun e w' => e = .returned (.int .i64 (ordN a b)) ∧ Below W.heap.size W w') := fun a b W h => I.o a b W (B4.trans (h.mono B4.size))
  have HB4 : Hid (Below w.heap.size w w4) := B4
  have hnn : ((n : Int) != (n : Int)) = false := by simp
  clear hcu I hl HNL B4 B3 B2 HN
  go_wp2_with fail
  go_loopw [5] (fun i wr => ∃ k : Nat, 1 ≤ k ∧ (k ≤ n ∨ k = 1) ∧ i = .int .i64 k ∧ Below w4.heap.size w4 wr) (fun i _ => n - (intOf i).toNat)
  case atStart => exact ⟨1, Nat.le_refl _, .inr rfl, rfl, Below.refl _ _⟩
  case round =>
    obtain ⟨k, hk1, hk2, rfl, hbel⟩ := hrel
    obtain ⟨j, rfl⟩ : ∃ j, k = j + 1 := ⟨k - 1, by omega⟩
    clear hk1
    by_cases hlt : j + 1 < n
    · obtain ⟨b1, o1, rfl, hc1⟩ := HCU.out _ hbel j (by omega)
      obtain ⟨b2, o2, e2, hc2⟩ := HCU.out _ hbel (j + 1) hlt
      cases e2
      have hcall := fun dd os => Calls.regrown_of (d := dd) (os := os) (w := wr) (HIO.out s[j]! s[j + 1]! (grow (redrawn wr dd) os) (hbel.trans ((below_regrown wr dd os).mono hbel.size)) (Nat.le_trans (HSZ.out j (by omega)) (by decide)) (Nat.le_trans (HSZ.out (j + 1) hlt) (by decide)))
      have hod : decide (ordN s[j]! s[j + 1]! > 0) = false := by
        refine decide_eq_false fun h => ?_
        have h1 := (ord_pos s[j]! s[j + 1]!).1 h
        rw [HPR.out j (j + 1) (by omega) hlt] at h1
        cases h1
      generalize ordN s[j]! s[j + 1]! = od at hcall hod
      generalize s[j]! = y1 at hc1 hcall
      generalize s[j + 1]! = y2 at hc2 hcall
      have k1 := cell_regrown hc1
      have k2 := cell_regrown hc2
      have hj1 : IntKind.i64.wrap ((j : Int) + 1 - 1) = (j : Int) := by rw [IntKind.wrap_i64]; omega
      have hj2 : IntKind.i64.wrap (j : Int) = (j : Int) := by rw [IntKind.wrap_i64]; omega
      have hj3 : (j : Int) + 1 < (n : Int) := by omega
      have hj4 : (j : Int) < (n : Int) := by omega
      clear hc1 hc2 HCU HIO HPR HSZ
      go_upto_region 10 with fail
      refine wp_region_quiet_below (by kernel_rfl) (by kernel_rfl) ?_
      repeat (go_big_quiet_step (exact hcall _ _))
      refine wpQuiet_nil ?_
      rintro w' ⟨⟨dq, osq⟩, rfl⟩
      have hbq := below_regrown wr dq osq
      generalize grow (redrawn wr dq) osq = w5 at hbq ⊢
      have hbel5 := hbel.trans (hbq.mono hbel.size)
      go_wp2
      go_roundw
      case rel => exact ⟨j + 1 + 1, by omega, by omega, by go_num, hbel5⟩
      case measure => simp [intOf]; omega
    · clear hk2
      have hlt' : ¬ ((j : Int) + 1 < (n : Int)) := by omega
      obtain ⟨wp, HWP⟩ : ∃ wp : World, wp = wr := ⟨_, rfl⟩
      have hbp : Hid (Below w4.heap.size w4 wr) := hbel
      clear HWP hbel
      go_wp2
      go_loopw [6] (fun i wr => ∃ k : Nat, k ≤ n ∧ i = .int .i64 k ∧ Below w4.heap.size w4 wr) (fun i _ => n - (intOf i).toNat)
      case atStart => exact ⟨0, Nat.zero_le _, rfl, hbp.out⟩
      case round =>
        obtain ⟨i, hi, rfl, hbel⟩ := hrel
        clear hbp hlt hlt'
        by_cases hin : i < n
        · have hbi : Hid (Below w4.heap.size w4 wr) := hbel
          have hwi : IntKind.i64.wrap ((i : Int) + 2) = (((i + 2 : Nat)) : Int) := by rw [IntKind.wrap_i64]; omega
          clear hbel
          go_wp2
          go_loopw [7] (fun kv wr => ∃ k : Nat, i + 2 ≤ k ∧ kv = .int .i64 k ∧ Below w4.heap.size w4 wr) (fun kv _ => n - (intOf kv).toNat)
          case atStart => exact ⟨i + 2, Nat.le_refl _, by go_num, hbi.out⟩
          case round =>
            obtain ⟨k, hik, rfl, hbel⟩ := hrel
            clear hbi
            by_cases hkn : k < n
            · obtain ⟨b1, o1, rfl, hc1⟩ := HCU.out _ hbel i hin
              obtain ⟨b2, o2, e2, hc2⟩ := HCU.out _ hbel (i + 1) (by omega)
              cases e2
              obtain ⟨b3, o3, e3, hc3⟩ := HCU.out _ hbel k hkn
              cases e3
              have z1 : s[i]!.size ≤ 1048576 := Nat.le_trans (HSZ.out i hin) (by decide)
              have z2 : s[i + 1]!.size ≤ 1048576 := Nat.le_trans (HSZ.out (i + 1) (by omega)) (by decide)
              have z3 : s[k]!.size ≤ 1048576 := Nat.le_trans (HSZ.out k hkn) (by decide)
              have hA1 := fun dd os => Calls.regrown_of (d := dd) (os := os) (w := wr) (sAlike s[i]! s[k]! (grow (redrawn wr dd) os) z1 z3)
              have hA2 := fun dd os => Calls.regrown_of (d := dd) (os := os) (w := wr) (sAlike s[i]! s[i + 1]! (grow (redrawn wr dd) os) z1 z2)
              have hNO := fun dd os => Calls.regrown_of (d := dd) (os := os) (w := wr) (sNameOk s[i + 1]! (grow (redrawn wr dd) os) z2)
              have HM : Hid (alikeB s[i]! s[k]! = true → (nameL s[i + 1]!).isSome = true → alikeB s[i]! s[i + 1]! = true) := fun h1 h2 => alike_mid (HPR.out i (i + 1) (by omega) (by omega)) (HPR.out (i + 1) k (by omega) hkn) h1 h2
              generalize alikeB s[i]! s[k]! = qa at hA1 HM
              generalize alikeB s[i]! s[i + 1]! = qb at hA2 HM
              generalize (nameL s[i + 1]!).isSome = qn at hNO HM
              generalize s[i]! = y1 at hc1 hA1 hA2
              generalize s[i + 1]! = y2 at hc2 hA2 hNO
              generalize s[k]! = y3 at hc3 hA1
              have k1 := cell_regrown hc1
              have k2 := cell_regrown hc2
              have k3 := cell_regrown hc3
              have hi1 : (i : Int) + 1 < (n : Int) := by omega
              have hi2 : (i : Int) < (n : Int) := by omega
              have hi3 : (k : Int) < (n : Int) := by omega
              have hw1 : IntKind.i64.wrap ((i : Int) + 1) = (i : Int) + 1 := by rw [IntKind.wrap_i64]; omega
              clear hc1 hc2 hc3 HCU HIO HPR HSZ z1 z2 z3
              go_upto_region 18 with fail
              cases qa
              · clear HM hA2 hNO
                refine wp_region_quiet_below (by kernel_rfl) (by kernel_rfl) ?_
                repeat (go_big_quiet_step (exact hA1 _ _))
                refine wpQuiet_nil ?_
                rintro w' ⟨⟨dq, osq⟩, rfl⟩
                have hbq := below_regrown wr dq osq
                generalize grow (redrawn wr dq) osq = w5 at hbq ⊢
                have hbel5 := hbel.trans (hbq.mono hbel.size)
                go_wp2
                go_roundw
                case rel => exact ⟨k + 1, by omega, by go_num, hbel5⟩
                case measure => simp [intOf]; omega
              · cases qn
                · clear HM hA2
                  refine wp_region_quiet_below (by kernel_rfl) (by kernel_rfl) ?_
                  repeat (go_big_quiet_step (first | exact hA1 _ _ | exact hNO _ _))
                  refine wpQuiet_nil ?_
                  rintro w' ⟨⟨dq, osq⟩, rfl⟩
                  have hbq := below_regrown wr dq osq
                  generalize grow (redrawn wr dq) osq = w5 at hbq ⊢
                  have hbel5 := hbel.trans (hbq.mono hbel.size)
                  go_wp2
                  go_roundw
                  case rel => exact ⟨k + 1, by omega, by go_num, hbel5⟩
                  case measure => simp [intOf]; omega
                · obtain rfl := HM.out rfl rfl
                  clear HM
                  refine wp_region_quiet_below (by kernel_rfl) (by kernel_rfl) ?_
                  repeat (go_big_quiet_step (first | with_reducible exact hA1 _ _ | with_reducible exact hNO _ _ | with_reducible exact hA2 _ _))
                  refine wpQuiet_nil ?_
                  rintro w' ⟨⟨dq, osq⟩, rfl⟩
                  have hbq := below_regrown wr dq osq
                  generalize grow (redrawn wr dq) osq = w5 at hbq ⊢
                  have hbel5 := hbel.trans (hbq.mono hbel.size)
                  go_wp2
                  go_roundw
                  case rel => exact ⟨k + 1, by omega, by go_num, hbel5⟩
                  case measure => simp [intOf]; omega
            · have hkn' : ¬ ((k : Int) < (n : Int)) := by omega
              have hwi1 : IntKind.i64.wrap ((i : Int) + 1) = (i : Int) + 1 := by rw [IntKind.wrap_i64]; omega
              clear hik
              go_wp2
              go_roundw
              case rel => exact ⟨i + 1, by omega, by go_num, hbel⟩
              case measure => simp [intOf]; omega
        · obtain rfl : i = n := by omega
          have hin' : ¬ ((i : Int) < (i : Int)) := by omega
          have HBF : Hid (∀ W, Below w4.heap.size w4 W → Below w.heap.size w W) := fun W h => HB4.out.trans (h.mono HB4.out.size)
          clear HCU HPR HSZ hn7 hnn hi hin HB4
          go_wp2_with fail
          refine (HDO wr (HBF.out _ hbel)).mono ?_
          rintro _ w6 ⟨a, b, ha, hb, rfl, b6⟩
          have B6 := hbel.trans (b6.mono hbel.size)
          have hO1 := fun W h => HIO.out a b W h (by omega) (by omega)
          have hO2 := fun W h => HIO.out b a W h (by omega) (by omega)
          have hO3 := fun W => sOrder a b W (by omega) (by omega)
          have hsw := ord_swap a b
          have hcs : (ordN a b = 0 ∧ (a.toList == b.toList) = true) ∨ ((ordN a b = 1 ∨ ordN a b = -1) ∧ (a.toList == b.toList) = false) := by
            by_cases e : a = b
            · exact .inl ⟨(ord_zero a b).2 e, by rw [e]; simp⟩
            · refine .inr ⟨?_, by rw [beq_eq_false_iff_ne]; exact fun h => e (toList_inj h)⟩
              have h0 : ordN a b ≠ 0 := fun h => e ((ord_zero a b).1 h)
              unfold ordN at h0 ⊢
              split
              · exact .inr rfl
              · split
                · rename_i h1 h2; rw [if_neg h1, if_pos h2] at h0; exact absurd rfl h0
                · exact .inl rfl
          clear HIO HDO
          generalize ordN a b = x at hO1 hO3 hsw hcs
          generalize ordN b a = y at hO2 hsw
          go_wp2_with fail
          refine (hO1 w6 B6).mono ?_
          rintro _ w7 ⟨rfl, b7⟩
          have B7 := B6.trans (b7.mono B6.size)
          go_wp2_with fail
          refine (hO2 w7 B7).mono ?_
          rintro _ w8 ⟨rfl, b8⟩
          have B8 := B7.trans (b8.mono B7.size)
          have HBF8 : Hid (Below w.heap.size w w8) := HBF.out _ B8
          clear b6 b7 b8 B6 B7 hbel hO1 hO2
          rcases hcs with ⟨rfl, he⟩ | ⟨rfl | rfl, he⟩
          · obtain rfl : y = 0 := by omega
            clear hsw
            go_wp2_with fail
            refine (hO3 w8).mono ?_
            rintro _ w9 ⟨rfl, b9⟩
            go_wp2
            go_ret
            exact ⟨rfl, HBF8.out.trans (b9.mono HBF8.out.size)⟩
          · obtain rfl : y = -1 := by omega
            clear hsw
            go_wp2_with fail
            refine (hO3 w8).mono ?_
            rintro _ w9 ⟨rfl, b9⟩
            go_wp2
            go_ret
            exact ⟨rfl, HBF8.out.trans (b9.mono HBF8.out.size)⟩
          · obtain rfl : y = 1 := by omega
            clear hsw
            go_wp2_with fail
            refine (hO3 w8).mono ?_
            rintro _ w9 ⟨rfl, b9⟩
            go_wp2
            go_ret
            exact ⟨rfl, HBF8.out.trans (b9.mono HBF8.out.size)⟩
end

section
open Go.RowKit

theorem clone_text (s : ByteArray) (w : World) (hs : s.size ≤ 1048576) : Calls Tryd.prog 38 #[.string s] w fun e w' => e = .returned (.string s) ∧ Below w.heap.size w w' := by
  have H := fun w' => Any.stringslite_Clone Tryd.laysM316 s w' (by omega)
  have H : ∀ w', Calls Tryd.prog 60 #[.string s] w' fun e w'' => e = .returned (.string s) ∧ Below w'.heap.size w' w'' := H
  go_enter Tryd.func38, Tryd.ntmps38
  go_wp2_with (go_at_call 60; refine (H _).mono ?_; rintro e w1 ⟨rfl, b1⟩)
  go_ret
  exact ⟨rfl, b1⟩
end

end Go.Proofs.YtlkemmdcjnaepaaDoor
