/- A bitmap: spec.FindRun, FreeOf, SetRun. -/
import Derived.Test.YthnpjlnilkbamaaDoorRows
import Derived.Test.YthnpjlnilkbamaaDoorBtS
namespace Go.Proofs.YthnpjlnilkbamaaDoor
open Go.RowKit Go.Sort

theorem findN_yes {b : List Bool} {n : Int} (hn : 1 ≤ n) {t : Nat} (ht : t < (runsN b).length) (h : n ≤ (runsN b)[t]!.n) (hf : ∀ s, s < t → ¬ n ≤ (runsN b)[s]!.n) : findN b n = (runsN b)[t]!.p := by
  unfold findN
  rw [if_pos hn]
  have e : (runsN b).find? (fun r => decide (n ≤ r.n)) = some (runsN b)[t]! := by
    rw [List.find?_eq_some_iff_getElem]
    refine ⟨decide_eq_true h, t, ht, by rw [getElem!_pos _ t ht], fun s hs => ?_⟩
    have := hf s hs
    rw [getElem!_pos _ s (by omega)] at this
    simpa using this
  rw [e]
theorem findN_no {b : List Bool} {n : Int} (h : n < 1 ∨ ∀ t, t < (runsN b).length → ¬ n ≤ (runsN b)[t]!.n) : findN b n = -1 := by
  unfold findN
  by_cases hn : 1 ≤ n
  · rw [if_pos hn]
    have e : (runsN b).find? (fun r => decide (n ≤ r.n)) = none := by
      rw [List.find?_eq_none]
      intro r hr
      obtain ⟨t, ht, rfl⟩ := List.getElem_of_mem hr
      rcases h with h | h
      · omega
      · have := h t ht
        rw [getElem!_pos _ t ht] at this
        simpa using this
    rw [e]
  · rw [if_neg hn]

set_option maxRecDepth 100000 in
set_option maxHeartbeats 1000000 in
theorem sFindRun (v : Value) (b : List Bool) (n : Int) (w : World) (hv : BosAt w v b) :
    Calls Tryd.prog 16 #[v, .int .i64 n] w fun e w' => e = .returned (.int .i64 (findN b n)) ∧ Below w.heap.size w w' := by
  have HR := sRuns v b w hv
  have hl := runsN_len b
  have HY : Hid (1 ≤ n → ∀ t, t < (runsN b).length → n ≤ (runsN b)[t]!.n → (∀ s, s < t → (runsN b)[s]!.n < n) → findN b n = (runsN b)[t]!.p) := fun hn t ht h hf => findN_yes hn ht h fun s hs => by have := hf s hs; omega
  have HN : Hid ((n < 1 ∨ ∀ t, t < (runsN b).length → (runsN b)[t]!.n < n) → findN b n = -1) := fun h => findN_no (h.imp id fun h t ht => by have := h t ht; omega)
  generalize findN b n = res at HY HN ⊢
  generalize runsN b = l at *
  go_enter Tryd.func16, Tryd.ntmps16
  go_wp2_with (go_at_call 17; refine HR.mono ?_; rintro e w1 ⟨u, rfl, r1, b1⟩)
  clear HR
  obtain ⟨a, ca, rfl, -, hva⟩ := r1.at
  obtain ⟨m, HM⟩ : ∃ m, Hid (m = l.length) := ⟨_, rfl⟩
  rw [← HM.out] at hva hl HY HN ⊢
  clear r1
  go_loopw [6] (fun iv wr => ∃ k : Nat, k ≤ m ∧ iv = .int .i64 k ∧ Hid (∀ t, t < k → l[t]!.n < n) ∧ wr = w1) (fun iv _ => m - (intOf iv).toNat)
  case atStart => exact ⟨0, Nat.zero_le _, rfl, fun t ht => by omega, rfl⟩
  case round =>
    obtain ⟨k, hk, rfl, HE, rfl⟩ := hrel
    by_cases hn : 1 ≤ n
    · by_cases hlt : k < m
      · obtain ⟨b2, o2, rfl, hb2, hc2⟩ := hva k hlt
        have HX : Hid (l[k]!.n < n → ∀ t, t < k + 1 → l[t]!.n < n) := fun h t ht => by
          by_cases e : t = k
          · rw [e]; exact h
          · exact HE.out t (by omega)
        have HK : Hid (n ≤ l[k]!.n → res = l[k]!.p) := fun h => HY.out hn k hlt h HE.out
        generalize l[k]! = x at hc2 HX HK
        obtain ⟨x0, x1⟩ := x
        obtain ⟨c0, c1⟩ := hc2
        dsimp only at c0 c1 HX HK
        clear hva HY HN
        by_cases hx : n ≤ x1
        · have hr : Hid (res = x0) := HK.out hx
          clear HX HK
          go_wp2
          go_ret
          exact ⟨ret_int hr.out.symm, b1⟩
        · have HX2 : Hid _ := HX.out (by omega)
          clear HX HK
          go_wp2
          go_roundw
          case rel => exact ⟨k + 1, by omega, by go_num, HX2.out, by first | rfl | trivial⟩
          case measure => simp [intOf]; omega
      · obtain rfl : k = m := by omega
        have hr : Hid (res = -1) := HN.out (.inr HE.out)
        clear hva HY HN
        go_wp2
        go_ret
        exact ⟨ret_int hr.out.symm, b1⟩
    · have hr : Hid (res = -1) := HN.out (.inl (by omega))
      clear hva HY HN
      by_cases hlt : k < m
      · go_wp2
        go_ret
        exact ⟨ret_int hr.out.symm, b1⟩
      · go_wp2
        go_ret
        exact ⟨ret_int hr.out.symm, b1⟩

theorem rnSum_take (l : List Rn) (k : Nat) (h : k < l.length) : rnSum (l.take (k + 1)) = rnSum (l.take k) + l[k]!.n := by
  rw [List.take_succ_eq_append_getElem h, rnSum_append, getElem!_pos l k h]
  simp [rnSum]
theorem RnR.take {l : List Rn} (h : RnR l) (k : Nat) : RnR (l.take k) := ⟨h.gap.sublist (List.take_sublist _ _), fun r hr => h.one r (List.mem_of_mem_take hr)⟩
theorem runsN_sum (b : List Bool) (k : Nat) : 0 ≤ rnSum ((runsN b).take k) ∧ rnSum ((runsN b).take k) ≤ 24 := by
  by_cases hb : b.length = 24
  · have h := (runsN_right hb).1.take k
    obtain ⟨h1, h2⟩ := rnSum_bd _ h
    exact ⟨h1, by have := h2 0 (fun r hr => (h.one r hr).1) (by omega); omega⟩
  · unfold runsN; rw [if_neg hb]; simp [rnSum]

set_option maxRecDepth 100000 in
set_option maxHeartbeats 1000000 in
theorem sFreeOf (v : Value) (b : List Bool) (w : World) (hv : BosAt w v b) :
    Calls Tryd.prog 14 #[v] w fun e w' => e = .returned (.int .i64 (freeN b)) ∧ Below w.heap.size w w' := by
  have HR := sRuns v b w hv
  have hl := runsN_len b
  have HS : Hid (∀ k, 0 ≤ rnSum ((runsN b).take k) ∧ rnSum ((runsN b).take k) ≤ 24) := runsN_sum b
  have HT : Hid (∀ k, k < (runsN b).length → rnSum ((runsN b).take (k + 1)) = rnSum ((runsN b).take k) + (runsN b)[k]!.n) := fun k hk => rnSum_take _ k hk
  have HE : Hid (freeN b = rnSum ((runsN b).take (runsN b).length)) := by show _ = _; rw [List.take_length]; rfl
  generalize freeN b = res at HE ⊢
  generalize runsN b = l at *
  go_enter Tryd.func14, Tryd.ntmps14
  go_wp2_with (go_at_call 17; refine HR.mono ?_; rintro e w1 ⟨u, rfl, r1, b1⟩)
  clear HR
  obtain ⟨a, ca, rfl, -, hva⟩ := r1.at
  obtain ⟨m, HM⟩ : ∃ m, Hid (m = l.length) := ⟨_, rfl⟩
  rw [← HM.out] at hva hl HT HE ⊢
  clear r1
  go_loopw [3, 5] (fun zv iv wr => ∃ (k : Nat) (s : Int), k ≤ m ∧ iv = .int .i64 k ∧ zv = .int .i64 s ∧ Hid (s = rnSum (l.take k)) ∧ wr = w1) (fun _ iv _ => m - (intOf iv).toNat)
  case atStart => exact ⟨0, 0, Nat.zero_le _, rfl, rfl, by show _ = _; simp [rnSum], rfl⟩
  case round =>
    obtain ⟨k, s, hk, rfl, rfl, HZ, rfl⟩ := hrel
    by_cases hlt : k < m
    · obtain ⟨b2, o2, rfl, hb2, hc2⟩ := hva k hlt
      have h1 := HS.out k
      have h2 := HS.out (k + 1)
      have h3 := HT.out k hlt
      rw [← HZ.out] at h1 h3
      rw [h3] at h2
      have HX : Hid (s + l[k]!.n = rnSum (l.take (k + 1))) := h3.symm
      generalize l[k]! = x at hc2 HX h2
      obtain ⟨x0, x1⟩ := x
      obtain ⟨c0, c1⟩ := hc2
      dsimp only at c0 c1 HX h2
      have hw : IntKind.i64.wrap (s + x1) = s + x1 := by rw [IntKind.wrap_i64]; omega
      clear hva h3
      go_wp2
      go_roundw
      case rel => exact ⟨k + 1, s + x1, by omega, by go_num, rfl, HX, by first | rfl | trivial⟩
      case measure => simp [intOf]; omega
    · obtain rfl : k = m := by omega
      have hr : Hid (res = s) := by show res = s; rw [HE.out, HZ.out]
      clear hva
      go_wp2
      go_ret
      exact ⟨ret_int hr.out.symm, b1⟩

theorem setRunN_no {b : List Bool} {p n : Int} {v : Bool} (hb : b.length ≠ 24) : setRunN b p n v = [] ∧ setRunB b p n v = false := by
  unfold setRunN setRunB
  rw [if_neg hb]
  exact ⟨rfl, by simp [hb]⟩
theorem setRunN_can {b : List Bool} {p n : Int} {v : Bool} (hb : b.length = 24) (h : canSet b p n v) : setRunN b p n v = setB b p n v ∧ setRunB b p n v = true := by
  unfold setRunN setRunB
  rw [if_pos hb, if_pos h]
  exact ⟨rfl, by simp [hb, h]⟩
theorem setRunN_cannot {b : List Bool} {p n : Int} {v : Bool} (hb : b.length = 24) (h : ¬ canSet b p n v) : setRunN b p n v = b ∧ setRunB b p n v = false := by
  unfold setRunN setRunB
  rw [if_pos hb, if_neg h]
  exact ⟨rfl, by simp [h]⟩
theorem setRunN_len (b : List Bool) (p n : Int) (v : Bool) : (setRunN b p n v).length ≤ 24 := by
  by_cases hb : b.length = 24
  · by_cases h : canSet b p n v
    · rw [(setRunN_can hb h).1, setB_len]; omega
    · rw [(setRunN_cannot hb h).1]; omega
  · rw [(setRunN_no hb).1]; simp

def SaysSt (w : World) (l : List Bool) (r : Bool) (e : Ending) (w' : World) : Prop := ∃ u, e = .returned (.tuple #[u, .bool r]) ∧ BoRow w' w.heap.size u l ∧ Below w.heap.size w w'

set_option maxRecDepth 100000 in
set_option maxHeartbeats 2000000 in
theorem sSetRun (v : Value) (b : List Bool) (p n : Int) (x : Bool) (w : World) (hv : BosAt w v b) :
    Calls Tryd.prog 10 #[v, .int .i64 p, .int .i64 n, .bool x] w fun e w' => SaysSt w (setRunN b p n x) (setRunB b p n x) e w' := by
  have HB := sBitsOk v b w hv
  by_cases hb : b.length = 24
  · rw [decide_eq_true hb] at HB
    have HC := fun h => setRunN_can (b := b) (p := p) (n := n) (v := x) hb h
    have HNC := fun h => setRunN_cannot (b := b) (p := p) (n := n) (v := x) hb h
    generalize setRunN b p n x = L at HC HNC ⊢
    generalize setRunB b p n x = r at HC HNC ⊢
    have B0 := below_lit w (.cells #[] 4)
    have R0 := lit_Bos w
    have hv0 := hv.below B0
    obtain ⟨a, ca, rfl, hnn, hva⟩ := id hv
    by_cases hin : 1 ≤ n ∧ n ≤ 24 ∧ 0 ≤ p ∧ p ≤ 24 - n
    · obtain ⟨h1, h2, h3, h4⟩ := hin
      have HCAN : Hid ((∀ j : Nat, p ≤ j → (j : Int) < p + n → b[j]! ≠ x) → canSet b p n x) := fun h => ⟨h1, h2, h3, h4, h⟩
      have HCN : Hid (∀ j : Nat, p ≤ j → (j : Int) < p + n → b[j]! = x → ¬ canSet b p n x) := fun j e1 e2 e3 h => h.2.2.2.2 j e1 e2 e3
      obtain ⟨q, rfl⟩ := Int.eq_ofNat_of_zero_le h3
      obtain ⟨m, rfl⟩ := Int.eq_ofNat_of_zero_le (show 0 ≤ n by omega)
      have HSB : Hid (∀ k : Nat, (setB b q k x).set (q + k) x = setB b q (k + 1 : Nat) x) := fun k => setB_step b q x k
      have HS0 : Hid (setB b q (0 : Nat) x = b) := setB_zero b q x _ (by simp)
      have HSL : Hid (∀ k : Nat, (setB b q k x).length = 24) := fun k => by rw [setB_len]; exact hb
      have HBL : Hid (b.length = 24) := hb
      rw [hb] at hva HB hv hv0 ⊢
      clear h3 hb
      have hw1 : IntKind.i64.wrap ((24 : Int) - (m : Int)) = 24 - (m : Int) := by rw [IntKind.wrap_i64]; omega
      have hw2 : IntKind.i64.wrap ((q : Int) + (m : Int)) = (q : Int) + (m : Int) := by rw [IntKind.wrap_i64]; omega
      have d1 : decide ((m : Int) < 1) = false := decide_eq_false (by omega)
      have d2 : decide (24 < (m : Int)) = false := decide_eq_false (by omega)
      go_enter Tryd.func10, Tryd.ntmps10
      go_wp2_with (first | (go_at_call 11; refine HB.mono ?_; rintro e w1 ⟨rfl, rfl⟩) | (at_builtin; refine append_Bos _ rfl (.tmp 16) (.tmp 17) rfl w.heap.size _ _ [] b (by have := HBL.out; simp; omega) R0 hv0 rfl rfl B0.size ?_; intro v2 w2 row2 b2; have B2 := B0.trans b2))
      rw [List.nil_append] at row2
      clear R0 hv0 HB b2
      have row3 : w2.ownsRow w.heap.size 4 1 v2 24 (flatBo (setB b q (0 : Nat) x)) := by
        have h := row2
        unfold BoRow at h
        rw [HBL.out] at h
        rw [HS0.out]; exact h
      clear row2
      rcases row3.2 with ⟨_, h0⟩ | ⟨g, cap, cur, rfl, hg, hh, hnc, hcp, hcs, htake⟩
      · omega
      clear hh hcs htake
      go_loopw [11] (fun iv wr => ∃ k : Nat, k ≤ m ∧ iv = .int .i64 ((q : Int) + (k : Int)) ∧ wr.ownsRow w.heap.size 4 1 (.slice (some ⟨g, 0, none⟩) 24 cap) 24 (flatBo (setB b q k x)) ∧ Hid (∀ j : Nat, q ≤ j → j < q + k → b[j]! ≠ x) ∧ Below w.heap.size w wr) (fun iv _ => q + m - (intOf iv).toNat)
      case atStart => exact ⟨0, Nat.zero_le _, by simp, row3, fun j e1 e2 => by omega, B2⟩
      case round =>
        obtain ⟨k, hk, rfl, hown, HNE, hbel⟩ := hrel
        by_cases hlt : k < m
        · obtain ⟨b1, o1, rfl, hb1, hc1⟩ := hva (q + k) (by omega)
          have c0 := (hc1.below hb1 hbel).c0
          rw [Nat.mul_one] at c0
          have HX : Hid (b[q + k]! ≠ x → ∀ j : Nat, q ≤ j → j < q + (k + 1) → b[j]! ≠ x) := fun h j e1 e2 => by
            by_cases e : j = q + k
            · rw [e]; exact h
            · exact HNE.out j e1 (by omega)
          have HNO : Hid (b[q + k]! = x → L = b ∧ r = false) := fun h => HNC (HCN.out (q + k) (by omega) (by omega) h)
          obtain ⟨⟨u0, d0⟩, f0⟩ := rowBo_cells hown (q + k) (by omega)
          have hst := (hown.stored (q + k) (.bool x)).1
          have e := flatBo_put (setB b q k x) (q + k) x (by rw [HSL.out]; omega)
          rw [Nat.mul_one] at e
          rw [e, HSB.out] at hst
          have HST : Hid ((wr.setCell ⟨g, q + k, none⟩ (.bool x)).ownsRow w.heap.size 4 1 (.slice (some ⟨g, 0, none⟩) 24 cap) 24 (flatBo (setB b q (k + 1 : Nat) x))) := hst
          generalize b[q + k]! = y at c0 HX HNO
          obtain ⟨i, HI⟩ : ∃ i, Hid (i = q + k) := ⟨_, rfl⟩
          have hi0 : (q : Int) + (k : Int) = (i : Int) := by have := HI.out; omega
          rw [← HI.out] at c0 d0 f0 HST
          rw [hi0]
          have hi24 : (i : Int) < 24 := by omega
          have hin0 : (0 : Int) ≤ (i : Int) := by omega
          have him : (i : Int) < (q : Int) + (m : Int) := by omega
          have hwi : IntKind.i64.wrap ((i : Int) + 1) = (i : Int) + 1 := by rw [IntKind.wrap_i64]; omega
          clear hst e hva hc1 hown
          by_cases hyx : y = x
          · obtain ⟨n1, n2⟩ := HNO.out hyx
            have N1 : Hid (L = b) := n1
            have N2 : Hid (r = false) := n2
            clear n1 n2 HC HNC
            have hd : (y == x) = true := by simp [hyx]
            have BL := below_lit wr (.cells #[] 4)
            have RL := lit_Bos wr
            have hvv := hv.below (hbel.trans (BL.mono hbel.size))
            clear HX HNO HST hyx
            go_wp2_with (at_builtin; refine append_Bos _ rfl (.tmp 54) (.tmp 55) rfl wr.heap.size _ _ [] b (by have := HBL.out; simp; omega) RL hvv rfl rfl BL.size ?_; intro v9 w9 row9 b9; have B9 := (hbel.trans (BL.mono hbel.size)).trans (b9.mono hbel.size))
            rw [List.nil_append] at row9
            exact bodyPost_ret (v := .tuple #[v9, .bool false]) (by simp [results, Tryd.results10, go_sem]) rfl ⟨v9, by rw [N2.out], by rw [N1.out]; exact row9.mono hbel.size, B9⟩
          · have HX2 : Hid _ := HX.out hyx
            have hd : (y == x) = false := by simp [hyx]
            clear HX HNO hyx
            go_wp2
            go_roundw
            case rel => exact ⟨k + 1, by omega, by rw [show (q : Int) + ((k + 1 : Nat) : Int) = (i : Int) + 1 by omega], HST.out, HX2.out, hbel.setCell hg _⟩
            case measure => simp [intOf]; omega
        · obtain rfl : k = m := by omega
          obtain ⟨n1, n2⟩ := HC (HCAN.out fun j e1 e2 => HNE.out j (by omega) (by omega))
          have N1 : Hid (L = setB b q k x) := n1
          have N2 : Hid (r = true) := n2
          clear n1 n2 HC HNC
          have hrow : BoRow wr w.heap.size (.slice (some ⟨g, 0, none⟩) 24 cap) (setB b q k x) := by unfold BoRow; rw [HSL.out]; exact hown
          clear hva hown
          go_wp2
          exact bodyPost_ret (v := .tuple #[.slice (some ⟨g, 0, none⟩) 24 cap, .bool true]) (by simp [results, Tryd.results10, go_sem]) rfl ⟨_, by rw [N2.out], by rw [N1.out]; exact hrow, hbel⟩
    · obtain ⟨n1, n2⟩ := HNC fun h => hin ⟨h.1, h.2.1, h.2.2.1, h.2.2.2.1⟩
      subst n1 n2
      have HBL : Hid (L.length = 24) := hb
      rw [hb] at hva HB hv hv0 ⊢
      clear hb HC HNC
      have hw1 : IntKind.i64.wrap ((24 : Int) - n) = 24 - n ∨ n < 1 ∨ 24 < n := by
        by_cases h : 1 ≤ n ∧ n ≤ 24
        · left; rw [IntKind.wrap_i64]; omega
        · right; omega
      have done : ∀ v2 w2, BoRow w2 w.heap.size v2 ([] ++ L) → Below w.heap.size (w.alloc (.cells #[] 4)) w2 → SaysSt w L false (.returned (.tuple #[v2, .bool false])) w2 := fun v2 w2 row b2 => ⟨v2, rfl, by rwa [List.nil_append] at row, B0.trans b2⟩
      by_cases h1 : n < 1
      · have d1 : decide (n < 1) = true := decide_eq_true h1
        go_enter Tryd.func10, Tryd.ntmps10
        go_wp2_with (first | (go_at_call 11; refine HB.mono ?_; rintro e w1 ⟨rfl, rfl⟩) | (at_builtin; refine append_Bos _ rfl (.tmp 16) (.tmp 17) rfl w.heap.size _ _ [] L (by have := HBL.out; simp; omega) R0 hv0 rfl rfl B0.size ?_; intro v2 w2 row2 b2))
        exact bodyPost_ret (v := .tuple #[v2, .bool false]) (by simp [results, Tryd.results10, go_sem]) rfl (done v2 w2 row2 b2)
      · have d1 : decide (n < 1) = false := decide_eq_false h1
        by_cases h2 : 24 < n
        · have d2 : decide (24 < n) = true := decide_eq_true h2
          go_enter Tryd.func10, Tryd.ntmps10
          go_wp2_with (first | (go_at_call 11; refine HB.mono ?_; rintro e w1 ⟨rfl, rfl⟩) | (at_builtin; refine append_Bos _ rfl (.tmp 16) (.tmp 17) rfl w.heap.size _ _ [] L (by have := HBL.out; simp; omega) R0 hv0 rfl rfl B0.size ?_; intro v2 w2 row2 b2))
          exact bodyPost_ret (v := .tuple #[v2, .bool false]) (by simp [results, Tryd.results10, go_sem]) rfl (done v2 w2 row2 b2)
        · have d2 : decide (24 < n) = false := decide_eq_false h2
          replace hw1 : IntKind.i64.wrap ((24 : Int) - n) = 24 - n := by rcases hw1 with h | h | h; exact h; omega; omega
          by_cases h3 : p < 0
          · have d3 : decide (p < 0) = true := decide_eq_true h3
            go_enter Tryd.func10, Tryd.ntmps10
            go_wp2_with (first | (go_at_call 11; refine HB.mono ?_; rintro e w1 ⟨rfl, rfl⟩) | (at_builtin; refine append_Bos _ rfl (.tmp 16) (.tmp 17) rfl w.heap.size _ _ [] L (by have := HBL.out; simp; omega) R0 hv0 rfl rfl B0.size ?_; intro v2 w2 row2 b2))
            exact bodyPost_ret (v := .tuple #[v2, .bool false]) (by simp [results, Tryd.results10, go_sem]) rfl (done v2 w2 row2 b2)
          · have d3 : decide (p < 0) = false := decide_eq_false h3
            have h4 : 24 - n < p := by omega
            have d4 : decide (24 - n < p) = true := decide_eq_true h4
            go_enter Tryd.func10, Tryd.ntmps10
            go_wp2_with (first | (go_at_call 11; refine HB.mono ?_; rintro e w1 ⟨rfl, rfl⟩) | (at_builtin; refine append_Bos _ rfl (.tmp 16) (.tmp 17) rfl w.heap.size _ _ [] L (by have := HBL.out; simp; omega) R0 hv0 rfl rfl B0.size ?_; intro v2 w2 row2 b2))
            exact bodyPost_ret (v := .tuple #[v2, .bool false]) (by simp [results, Tryd.results10, go_sem]) rfl (done v2 w2 row2 b2)
  · rw [decide_eq_false hb] at HB
    obtain ⟨e1, e2⟩ := setRunN_no (p := p) (n := n) (v := x) hb
    rw [e1, e2]
    have R0 := lit_Bos w
    have B0 := below_lit w (.cells #[] 4)
    go_enter Tryd.func10, Tryd.ntmps10
    go_wp2_with (go_at_call 11; refine HB.mono ?_; rintro e w1 ⟨rfl, rfl⟩)
    exact bodyPost_ret (v := .tuple #[.slice (some ⟨w.heap.size, 0, none⟩) 0 0, .bool false]) (by simp [results, Tryd.results10, go_sem]) rfl ⟨_, rfl, R0, B0⟩

end Go.Proofs.YthnpjlnilkbamaaDoor
