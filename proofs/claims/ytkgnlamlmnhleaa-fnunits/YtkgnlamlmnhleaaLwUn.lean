/- FnUnits' walk, given what the program's Units answers. -/
import Derived.Test.YtkgnlamlmnhleaaRows
import Derived.Test.YtkgnlamlmnhleaaSUo
import Derived.Test.YtkgnlamlmnhleaaSmI
import Derived.Test.YtkgnlamlmnhleaaSd4
import Derived.Deep.Cut
import Derived.Deep.CutRange
namespace Go.Proofs.Ytkgnlamlmnhleaa
open Go.RowKit

/-- what impl.Units answers -/
def UnImpl : Prop := ∀ (v : Value) (l : List Int) (w : World), IntsC w v l → l.length ≤ 1048576 →
    Calls Try.prog 9 #[v] w fun e w' => ∃ u us, e = .returned u ∧ RwsRow w' w.heap.size u us (unitsN l) ∧ Below w.heap.size w w'
theorem lD_mem {ls : List (List Int)} {t : Nat} (h : t < ls.length) : lD ls t ∈ ls := by
  have : lD ls t = ls[t] := by simp [lD, List.getD, h]
  rw [this]; exact List.getElem_mem h
theorem flat_take (ls : List (List Int)) (t : Nat) (h : t < ls.length) : (ls.take (t + 1)).flatten = (ls.take t).flatten ++ lD ls t := by
  rw [List.take_add_one, List.getElem?_eq_getElem h, List.flatten_append]
  simp [lD, List.getD, h]
/-- what a row of units is -/
theorem unit_row (l : List Int) (t : Nat) (h : t < (unitsN l).length) : 0 < (lD (unitsN l) t).length ∧ (0 < t → clsN ((lD (unitsN l) t).getD 0 0) = 0) ∧ ∀ k, 0 < k → k < (lD (unitsN l) t).length → clsN ((lD (unitsN l) t).getD k 0) ≠ 0 := by
  have hr := units_right l
  obtain ⟨a, r, e, hc⟩ := hr.one _ (lD_mem h)
  refine ⟨by rw [e]; simp, fun ht => ?_, fun k hk hk2 => ?_⟩
  · have hm : lD (unitsN l) t ∈ (unitsN l).tail := by
      have : lD (unitsN l) t = (unitsN l).tail[t - 1]'(by rw [List.length_tail]; omega) := by
        simp [lD, List.getD, h, List.getElem_tail, show t - 1 + 1 = t by omega]
      rw [this]; exact List.getElem_mem _
    have := hr.beg _ hm
    rw [e] at this ⊢
    simpa using this
  · rw [e] at hk2 ⊢
    obtain ⟨q, rfl⟩ : ∃ q, k = q + 1 := ⟨k - 1, by omega⟩
    have hq : q < r.length := by simpa using hk2
    have := hc (r[q]) (List.getElem_mem hq)
    simpa [List.getD, hq] using this

set_option maxRecDepth 100000 in
set_option maxHeartbeats 4000000 in
theorem units_walk (I : UnImpl) (S : Src) (ok : S.ok) (w : World) (hl : Lies S w) :
    Calls Try.prog 3 #[.slice S.a S.len S.cap] w fun e w' => e = .returned (.bool true) ∧ Below w.heap.size w w' := by
  have hlen : S.len ≤ 1048576 := ok.1
  have HDR := sdrawUnits_any S ok w hl
  go_enter Try.func3, Try.ntmps3
  go_wp2_with (first | (go_at_call 7; go_in))
  refine HDR.mono ?_
  rintro _ w1 ⟨l, v, hll, rfl, rowl, b1⟩
  go_wp2_with fail
  refine (I v l w1 rowl.c (by omega)).mono ?_
  rintro _ w2 ⟨u, us, rfl, rowu, b2⟩
  have B2 := b1.trans (b2.mono b1.size)
  have hl2 := rowl.at.below b2
  have HUR : Hid (∀ t, t < (unitsN l).length → 0 < (lD (unitsN l) t).length ∧ (0 < t → clsN ((lD (unitsN l) t).getD 0 0) = 0) ∧ ∀ k, 0 < k → k < (lD (unitsN l) t).length → clsN ((lD (unitsN l) t).getD k 0) ≠ 0) := fun t h => unit_row l t h
  have HFL : Hid (((unitsN l).take (unitsN l).length).flatten = l) := by show _ = _; rw [List.take_length]; exact (units_right l).all
  have HFT : Hid (∀ t, t < (unitsN l).length → ((unitsN l).take (t + 1)).flatten = ((unitsN l).take t).flatten ++ lD (unitsN l) t) := fun t h => flat_take _ t h
  have HLE : Hid (∀ t, t < (unitsN l).length → ((unitsN l).take t).flatten.length + (lD (unitsN l) t).length ≤ 10) := fun t h => by
    show _ ≤ _
    have h1 := tot_take (unitsN l) t h
    have h2 := tot_take_le (unitsN l) (t + 1)
    rw [tot_flat (unitsN l), (units_right l).all] at h2
    rw [← tot_flat]
    omega
  have hun := units_len l
  obtain ⟨vs, ua, uc, rfl, hu⟩ := rowu.at
  generalize unitsN l = M at HUR HFL HFT HLE hu hun
  clear rowu rowl b1 b2 HDR
  have HS := fun W (h : Below w2.heap.size w2 W) (q : Value) (m : List Int) (hq : IntsAt W q m) (hm : m.length ≤ 10) => sameInts_any q v m l W (by omega) hq (hl2.below h)
  obtain ⟨la, lc, rfl, -⟩ := hl2
  obtain ⟨n, HN⟩ : ∃ n, Hid (n = M.length) := ⟨_, rfl⟩
  rw [← HN.out] at HUR HFL HFT HLE hu hun ⊢
  have hcl := fun c W => sClass c W
  go_wp2
  go_loopw [5, 6] (fun av iv wr => ∃ i : Nat, i ≤ n ∧ iv = .int .i64 i ∧ IntRow wr w2.heap.size av (M.take i).flatten ∧ Below w2.heap.size w2 wr) (fun _ iv _ => n - (intOf iv).toNat)
  case atStart => exact ⟨0, Nat.zero_le _, rfl, by simpa using lit_at w2 #[] [] 0 rfl rfl (by decide), below_lit _ _⟩
  case round =>
    obtain ⟨i, hi, rfl, hrow, hbel⟩ := hrel
    by_cases hlt : i < n
    · obtain ⟨⟨b1, o1, rfl, hb1, hc1⟩, hin⟩ := hu i hlt
      obtain ⟨hL0, hL1, hL2⟩ := HUR.out i hlt
      have hF := HFT.out i hlt
      have hE := HLE.out i hlt
      obtain ⟨p, z, hs, hcc⟩ := hin
      obtain ⟨bb, oo, rfl, hbb, hc0⟩ := hcc 0 hL0
      rw [hs] at hc1
      have HB : Hid (∀ W, Below w2.heap.size w2 W → W.cell? ⟨b1, o1 + i, none⟩ = some (.slice (some ⟨bb, oo, none⟩) (lD M i).length z)) := fun W h => (h.cell (p := ⟨b1, o1 + i, none⟩) hb1).trans hc1
      have HC : Hid (∀ W, Below w2.heap.size w2 W → ∀ t, t < (lD M i).length → W.cell? ⟨bb, oo + t, none⟩ = some (.int .i64 ((lD M i).getD t 0))) := fun W h t ht => by
        obtain ⟨b3, o3, e3, h3, h4⟩ := hcc t ht
        cases e3
        exact (h.cell (p := ⟨bb, oo + t, none⟩) h3).trans h4
      have HA : Hid (∀ W, Below w2.heap.size w2 W → IntsAt W (.slice (some ⟨bb, oo, none⟩) (lD M i).length z) (lD M i)) := fun W h => (show IntsAt w2 _ _ from ⟨_, _, rfl, hcc⟩).below h
      clear hcc hc0 hc1 hs hbb hu HUR HFT HLE HFL
      generalize lD M i = L at *
      generalize (M.take i).flatten = F at hrow hF hE
      have HF : Hid ((M.take (i + 1)).flatten = F ++ L) := hF
      have hLn : L ≠ [] := fun e => by rw [e] at hL0; simp at hL0
      have hLb : ((L.length : Int) == 0) = false := by simp; exact hLn
      have hL1' : (0 : Int) < (L.length : Int) := by omega
      have hin0 : (i : Int) < (n : Int) := by omega
      have HK0 : Hid (0 < i → clsN (L.getD 0 0) = 0) := hL1
      have HK1 : Hid (∀ k, 0 < k → k < L.length → clsN (L.getD k 0) ≠ 0) := hL2
      have HLE : Hid (F.length + L.length ≤ 10) := hE
      clear hF hL1 hL2 hE
      have hcI := HB.out wr hbel
      have hc0 := HC.out wr hbel 0 hL0
      rw [Nat.add_zero] at hc0
      have HCA : Hid (0 < i → ∀ W, Calls Try.prog 10 #[.int .i64 (L.getD 0 0)] W fun e w' => e = .returned (.int .i64 0) ∧ Below W.heap.size W w') := fun h W => by have := hcl (L.getD 0 0) W; rwa [HK0.out h] at this
      generalize L.getD 0 0 = d0 at hc0 HCA
      go_upto_region 9 with fail
      go_cut [40] from 15 to 64 (fun bv wx => bv = .bool false ∧ Below wr.heap.size wr wx)
      case first =>
        by_cases h0 : 0 < i
        · have h0' : (0 : Int) < (i : Int) := by omega
          have hcall := HCA.out h0 wr
          go_wp2_with fail
          refine hcall.mono ?_
          rintro e w3 ⟨rfl, b3⟩
          go_wp2_with fail
          go_meet
          exact ⟨rfl, b3⟩
        · have h0' : ¬ (0 : Int) < (i : Int) := by omega
          go_wp2_with fail
          go_meet
          exact ⟨rfl, Below.refl _ _⟩
      case rest =>
        obtain ⟨rfl, hbx⟩ := hcut
        have hbelc := hbel.trans (hbx.mono hbel.size)
        have rowc := hrow.below hbx
        clear hrow hbx hbel hcI hc0 HK0
        have hL10 : L.length ≤ 10 := by have := HLE.out; omega
        go_wp2
        go_loopw [7] (fun kv wx => ∃ k : Nat, (1 ≤ k ∧ k ≤ L.length) ∧ kv = .int .i64 k ∧ Below wc.heap.size wc wx) (fun kv _ => L.length - (intOf kv).toNat)
        case atStart => exact ⟨1, ⟨by omega, by omega⟩, rfl, Below.refl _ _⟩
        case round =>
          obtain ⟨k, ⟨hk1, hk2⟩, rfl, hbk⟩ := hrel
          have hbelk := hbelc.trans (hbk.mono hbelc.size)
          have hcI := HB.out _ hbelk
          by_cases hkl : k < L.length
          · have hck := HC.out _ hbelk k hkl
            have hkl' : (k : Int) < (L.length : Int) := by omega
            have hcall := hcl (L.getD k 0) wr
            have hne := HK1.out k (by omega) hkl
            have hnb : (clsN (L.getD k 0) == 0) = false := beq_eq_false_iff_ne.2 hne
            have HKL : Hid (k + 1 ≤ L.length) := hkl
            generalize clsN (L.getD k 0) = kc at hcall hne hnb
            generalize L.getD k 0 = d at hck hcall
            go_wp2_with fail
            refine hcall.mono ?_
            rintro e w3 ⟨rfl, b3⟩
            go_wp2_with fail
            go_roundw
            case rel => exact ⟨k + 1, ⟨Nat.le_add_left 1 k, HKL.out⟩, by go_num, hbk.trans (b3.mono hbk.size)⟩
            case measure => have := HKL.out; simp [intOf]; omega
          · obtain rfl : k = L.length := by omega
            have rowk := rowc.below hbk
            have hAt := HA.out _ hbelk
            go_wp2_with (at_builtin; refine append_ints wr rfl (.tmp 59) (.tmp 63) rfl w2.heap.size _ _ F L hLn (by have := HLE.out; omega) rowk hAt rfl rfl hbelk.size ?_; intro v8 w8 row8 b8)
            go_roundw
            case rel => exact ⟨i + 1, by omega, by go_num, by rw [HF.out]; exact row8, hbelk.trans b8⟩
            case measure => simp [intOf]; omega
    · obtain rfl : i = n := by omega
      rw [HFL.out] at hrow
      have hcall := HS wr hbel _ l hrow.at hll
      rw [decide_eq_true rfl] at hcall
      obtain ⟨fa, fc, rfl, -⟩ := hrow.at
      go_wp2_with fail
      refine hcall.mono ?_
      rintro e w3 ⟨rfl, b3⟩
      go_wp2
      go_ret
      exact ⟨rfl, B2.trans ((hbel.trans (b3.mono hbel.size)).mono B2.size)⟩
end Go.Proofs.Ytkgnlamlmnhleaa
