/- Signs in rows: impl.Units. -/
import Derived.Test.YtkgnlamlmnhleaaRows
import Derived.Test.YtkgnlamlmnhleaaIUn
namespace Go.Proofs.Ytkgnlamlmnhleaa
open Go.RowKit

theorem cell_same {w w' : World} {g j : Nat} (e : w'.heap[g]? = w.heap[g]?) : w'.cell? ⟨g, j, none⟩ = w.cell? ⟨g, j, none⟩ := by
  simp only [World.cell?, e]
theorem frozen_same {w w' : World} {g j : Nat} (e : w'.heap[g]? = w.heap[g]?) : w'.frozen? ⟨g, j, none⟩ = w.frozen? ⟨g, j, none⟩ := by
  simp only [World.frozen?, e]
set_option maxRecDepth 100000 in
set_option maxHeartbeats 2000000 in
theorem iUnits (v : Value) (l : List Int) (w : World) (hl : l.length ≤ 1048576) (hv : IntsC w v l) :
    Calls Try.prog 9 #[v] w fun e w' => ∃ u us, e = .returned u ∧ RwsRow w' w.heap.size u us (unitsN l) ∧ Below w.heap.size w w' := by
  obtain ⟨hva, a, cap, rfl, -⟩ := hv
  have HNW : Hid (∀ k, k < l.length → k = 0 ∨ clsN (l.getD k 0) = 0 → unitsN (l.take (k + 1)) = unitsN (l.take k) ++ [[] ++ [l.getD k 0]]) := fun k h1 h2 => units_new l k h1 h2
  have HOL : Hid (∀ k, k < l.length → k ≠ 0 → clsN (l.getD k 0) ≠ 0 → ∃ vs u, unitsN (l.take k) = vs ++ [u] ∧ unitsN (l.take (k + 1)) = vs ++ [u ++ [l.getD k 0]]) := fun k h1 h2 h3 => units_old l k h1 h2 h3
  have HLN : Hid (∀ k, (unitsN (l.take k)).length ≤ k) := fun k => units_take l k
  have HLS : Hid (∀ k u vs, k < l.length → unitsN (l.take k) = vs ++ [u] → u.length ≤ k) := fun k u vs h1 h2 => by
    have h3 := congrArg List.length (units_right (l.take k)).all
    rw [h2, List.length_take] at h3
    simp at h3
    omega
  have HEN : Hid (unitsN (l.take l.length) = unitsN l) := by show _ = _; rw [List.take_length]
  have H0 : unitsN (l.take 0) = [] := rfl
  obtain ⟨a2, c2, e0, hcs⟩ := id hva
  cases e0
  obtain ⟨n, HN⟩ : ∃ n, Hid (n = l.length) := ⟨_, rfl⟩
  rw [← HN.out] at hcs hl HNW HOL HLS HEN ⊢
  generalize unitsN l = r at HEN ⊢
  clear hva
  have hE : RwsRow w w.heap.size (.slice none 0 0) [] [] := ⟨World.ownsRow_nil _ _ _ _, fun t ht => by simp at ht, fun s t hs => by simp at hs⟩
  go_enter Try.func9, Try.ntmps9
  go_wp2
  go_loopw [3, 9] (fun ov iv wr => ∃ (k : Nat) (us : List Value), k ≤ n ∧ iv = .int .i64 k ∧ RwsRow wr w.heap.size ov us (unitsN (l.take k)) ∧ Below w.heap.size w wr) (fun _ iv _ => n - (intOf iv).toNat)
  case atStart => exact ⟨0, [], Nat.zero_le _, rfl, by rw [H0]; exact hE, Below.refl _ _⟩
  case round =>
    obtain ⟨k, us, hk, rfl, hrow, hbel⟩ := hrel
    by_cases hlt : k < n
    · obtain ⟨b1, o1, rfl, hb1, hc1⟩ := hcs k hlt
      have hc1' := (hbel.cell (p := ⟨b1, o1 + k, none⟩) hb1).trans hc1
      have HN1 := HNW.out k hlt
      have HO1 := HOL.out k hlt
      have HL1 := HLN.out k
      have HS1 := HLS.out k
      have HCI := iClass (l.getD k 0) wr
      have hkn : (k : Int) < (n : Int) := by omega
      generalize l.getD k 0 = x at hc1' HN1 HO1 HCI
      generalize clsN x = kc at HN1 HO1 HCI
      obtain ⟨RK, HRK⟩ : ∃ RK, Hid (RK = unitsN (l.take k)) := ⟨_, rfl⟩
      obtain ⟨RS, HRS⟩ : ∃ RS, Hid (RS = unitsN (l.take (k + 1))) := ⟨_, rfl⟩
      rw [← HRK.out] at hrow HN1 HO1 HL1 HS1
      rw [← HRS.out] at HN1 HO1
      clear hc1 hcs HNW HOL HLN HLS HEN
      obtain ⟨bb, HBB⟩ : ∃ bb, Hid (bb = (decide (k = 0) || decide (kc = 0))) := ⟨_, rfl⟩
      go_upto_region 5 with fail
      go_cut [20] from 10 to 37 (fun bv wx => bv = .bool bb ∧ Below wr.heap.size wr wx)
      case first =>
        clear HN1 HO1 HS1 hrow
        by_cases hk0 : k = 0
        · obtain rfl : bb = true := by rw [HBB.out, decide_eq_true hk0]; rfl
          subst hk0
          clear HCI
          go_wp2_with fail
          go_meet
          exact ⟨rfl, Below.refl _ _⟩
        · have hk0b : ((k : Int) == 0) = false := by simp; omega
          have hbk : bb = decide (kc = 0) := by rw [HBB.out, decide_eq_false hk0, Bool.false_or]
          go_wp2_with fail
          refine HCI.mono ?_
          rintro e w5 ⟨rfl, b5⟩
          by_cases hkc : kc = 0
          · have hkb : (kc == 0) = true := by simp [hkc]
            obtain rfl : bb = true := by rw [hbk, decide_eq_true hkc]
            clear hbk HBB hkc
            go_wp2_with fail
            go_meet
            exact ⟨rfl, b5⟩
          · have hkb : (kc == 0) = false := by simp [hkc]
            obtain rfl : bb = false := by rw [hbk, decide_eq_false hkc]
            clear hbk HBB hkc
            go_wp2_with fail
            go_meet
            exact ⟨rfl, b5⟩
      case rest =>
        obtain ⟨rfl, b5⟩ := hcut
        have row5 := hrow.below b5
        have hbel5 := hbel.trans (b5.mono hbel.size)
        clear hrow HCI hbel b5 hc1'
        cases bb
        · have hk0 : k ≠ 0 := fun e => by have := HBB.out; rw [decide_eq_true e] at this; cases this
          have hkc : kc ≠ 0 := fun e => by have := HBB.out; rw [decide_eq_true e, Bool.or_true] at this; cases this
          obtain ⟨vs, u, hRK, hRS⟩ := HO1 hk0 hkc
          have hul := HS1 u vs hlt hRK
          subst hRK
          have hU := row5.ulen
          obtain ⟨us2, y, rfl⟩ : ∃ us2 y, us = us2 ++ [y] := by
            have hne : us ≠ [] := fun e => by rw [e] at hU; simp at hU
            exact ⟨us.dropLast, us.getLast hne, (List.dropLast_concat_getLast hne).symm⟩
          obtain ⟨hul2, rowy, g, cap2, rfl, hcy, hfy, hgb, hgl, hyn⟩ := row5.tail
          have hvl : vs.length < 1048576 := by simp at HL1; omega
          have HRW : Hid (RwsRow wc w.heap.size (.slice (some ⟨g, 0, none⟩) (vs.length + 1) cap2) (us2 ++ [y]) (vs ++ [u])) := row5
          have HR : Hid (RS = vs ++ [u ++ [x]]) := hRS
          have hbz := hbel5
          have HK8 : Hid (∀ W o, (wc.alloc o).grownBy W y.ownBlock → W.cell? ⟨g, vs.length, none⟩ = some y ∧ W.frozen? ⟨g, vs.length, none⟩ = false) := fun W o h => by
            have e1 := (h.block g (by simp; omega) (fun e => hyn e.symm)).trans (Below.heap_alloc wc o g hgl)
            exact ⟨(cell_same e1).trans hcy, (frozen_same e1).trans hfy⟩
          obtain ⟨py, cy, rfl, -⟩ := rowy.at
          go_wp2_with (at_builtin; refine append_intH (wc.alloc (.cells #[.int .i64 x] 3)) rfl (.tmp 32) (.tmp 34) rfl w.heap.size _ wc.heap.size 1 u x (by omega) (World.ownsRow.alloc rowy _) (cell_one_int _ _ 0 _ rfl) rfl rfl (Nat.le_trans hbz.size (by simp)) ?_; intro v8 w8 row8 hg8 hk8; obtain ⟨hc8, hf8⟩ := HK8.out _ _ hg8; obtain ⟨a8, c8, rfl, -⟩ := row8.at)
          have hra := row5.below ((Below.refl wc.heap.size wc).alloc (Nat.le_refl _) (.cells #[.int .i64 x] 3))
          have HROW : Hid (RwsRow (w8.setCell ⟨g, vs.length, none⟩ (.slice a8 (u ++ [x]).length c8)) w.heap.size (.slice (some ⟨g, 0, none⟩) (vs.length + 1) cap2) (us2 ++ [.slice a8 (u ++ [x]).length c8]) (vs ++ [u ++ [x]])) := hra.last hul2 row8 hg8 hk8
          have HBE : Hid (Below w.heap.size w (w8.setCell ⟨g, vs.length, none⟩ (.slice a8 (u ++ [x]).length c8))) := by
            have e1 := (hbz.alloc hbz.size (.cells #[.int .i64 x] 3)).grown hg8 (Nat.le_trans hbz.size (by simp)) (fun q hq => (World.ownsRow.lt rowy q hq).1)
            exact e1.grown (gbi_set w8 g vs.length (.slice a8 (u ++ [x]).length c8)) e1.size (fun q hq => by injection hq with hq; omega)
          rw [show (u ++ [x]).length = u.length + 1 by simp] at HROW HBE
          go_roundw
          case rel => exact ⟨k + 1, us2 ++ [.slice a8 (u.length + 1) c8], by omega, by go_num, by rw [← HRS.out, HR.out]; exact HROW.out, HBE.out⟩
          case measure => simp [intOf]; omega
        · have hor : k = 0 ∨ kc = 0 := by
            have := HBB.out
            by_cases e1 : k = 0
            · exact .inl e1
            · by_cases e2 : kc = 0
              · exact .inr e2
              · rw [decide_eq_false e1, decide_eq_false e2] at this; cases this
          have HR : Hid (RS = RK ++ [[] ++ [x]]) := HN1 hor
          have hlr : RK.length + 1 ≤ 1099511627776 := by omega
          have hnl : ∀ t, t < RK.length → (vD us t).ownBlock = none ∨ (vD us t).ownBlock ≠ (Value.slice none 0 0).ownBlock := fun t _ => by
            cases (vD us t).ownBlock with
            | none => exact .inl rfl
            | some q => right; intro e; cases e
          obtain ⟨av, cv, dv, rfl, -⟩ := row5.at
          clear HN1 HO1 HS1 hor HBB
          go_upto_region 7 with (at_builtin; refine append_row wc rfl (.tmp 21) (.tmp 22) rfl w.heap.size _ (.slice none 0 0) us RK [] hlr row5 (World.ownsRow_nil _ _ _ _) hnl rfl rfl hbel5.size ?_; intro v6 w6 row6 b6)
          obtain ⟨hul2, rowy, g, cap2, rfl, hcy, hfy, hgb, hgl, hyn⟩ := row6.tail
          have hbz := hbel5.trans b6
          have hvl : RK.length < 1048576 := by omega
          have HK8 : Hid (∀ W o, (w6.alloc o).grownBy W (Value.slice none 0 0).ownBlock → W.cell? ⟨g, RK.length, none⟩ = some (.slice none 0 0) ∧ W.frozen? ⟨g, RK.length, none⟩ = false) := fun W o h => by
            have e1 := (h.block g (by simp; omega) (fun e => hyn e.symm)).trans (Below.heap_alloc w6 o g hgl)
            exact ⟨(cell_same e1).trans hcy, (frozen_same e1).trans hfy⟩
          clear hyn hnl
          go_wp2_with (at_builtin; refine append_intH (w6.alloc (.cells #[.int .i64 x] 3)) rfl (.tmp 32) (.tmp 34) rfl w.heap.size _ w6.heap.size 1 [] x (by simp) (World.ownsRow.alloc rowy _) (cell_one_int _ _ 0 _ rfl) rfl rfl (Nat.le_trans hbz.size (by simp)) ?_; intro v8 w8 row8 hg8 hk8; obtain ⟨hc8, hf8⟩ := HK8.out _ _ hg8; obtain ⟨a8, c8, rfl, -⟩ := row8.at)
          have hra := row6.below ((Below.refl w6.heap.size w6).alloc (Nat.le_refl _) (.cells #[.int .i64 x] 3))
          have HROW : Hid (RwsRow (w8.setCell ⟨g, RK.length, none⟩ (.slice a8 ([] ++ [x]).length c8)) w.heap.size (.slice (some ⟨g, 0, none⟩) (RK.length + 1) cap2) (us ++ [.slice a8 ([] ++ [x]).length c8]) (RK ++ [[] ++ [x]])) := hra.last hul2 row8 hg8 hk8
          have HBE : Hid (Below w.heap.size w (w8.setCell ⟨g, RK.length, none⟩ (.slice a8 ([] ++ [x]).length c8))) := by
            have e1 := (hbz.alloc hbz.size (.cells #[.int .i64 x] 3)).grown hg8 (Nat.le_trans hbz.size (by simp)) (fun q hq => (World.ownsRow.lt rowy q hq).1)
            exact e1.grown (gbi_set w8 g RK.length (.slice a8 ([] ++ [x]).length c8)) e1.size (fun q hq => by injection hq with hq; omega)
          rw [show (([] : List Int) ++ [x]).length = 1 by simp] at HROW HBE
          go_roundw
          case rel => exact ⟨k + 1, us ++ [.slice a8 1 c8], by omega, by go_num, by rw [← HRS.out, HR.out]; exact HROW.out, HBE.out⟩
          case measure => simp [intOf]; omega
    · obtain rfl : k = n := by omega
      rw [HEN.out] at hrow
      go_wp2
      go_ret
      exact ⟨_, _, rfl, hrow, hbel⟩
end Go.Proofs.Ytkgnlamlmnhleaa
