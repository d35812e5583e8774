/- Names: impl.orderMarks: the marks between two letters are put in order. Names: impl.Apart and impl.Fold: their contracts. Names: impl.Fold: its contract. Names: spec.Fold: its contract. Names: spec.l4Take and spec.Fold: their contracts. -/
import Derived.Test.YtlkemmdcjnaepaaDoorRows
import Derived.Test.YtlkemmdcjnaepaaDoorG16
import Derived.Test.YtlkemmdcjnaepaaDoorG10
import Derived.Test.YtlkemmdcjnaepaaDoorG09
import Derived.Test.YtlkemmdcjnaepaaDoorG00
import Derived.Test.YtlkemmdcjnaepaaDoorG06
namespace Go.Proofs.YtlkemmdcjnaepaaDoor

section
open Go.RowKit Go.Shelf Go.Lib Go.Sort

/-- a part of marks, sorted -/
theorem sort_part (g cap : Nat) (x y : List Int) (f i : Nat) (hu : Upto x i f y) (hi : i ≤ x.length) (w : World) (h : PAt w g cap y) (hl : x.length < 1152921504606846976) (n cap' : Nat) (hn : n = i - f) :
    Calls Tryd.prog 112 #[.slice (some ⟨g, f * 2, none⟩) n cap', .func (.func 113) #[] #[]] w fun e w' => e = .returned (.tuple #[]) ∧ PAt w' g cap (srtN (x.take f) ++ (srtN ((x.drop f).take (i - f)) ++ x.drop i)) ∧ w.grownBy w' (some g) := by
  subst hn
  have hle := hu.le
  have hlenS : (srtN (x.take f)).length = f := by unfold srtN; rw [List.length_reverse, srtR_len]; simp; omega
  have hylen : y.length = x.length := by rw [hu.split]; simp [hlenS]; omega
  have hdrop : (y.drop f).take (i - f) = (x.drop f).take (i - f) := by rw [hu.row, List.drop_append, hlenS, List.drop_of_length_le (by rw [hlenS]; omega)]; simp
  have htake : y.take f = srtN (x.take f) := by rw [hu.row, List.take_append_of_le_length (by omega), List.take_of_length_le (by omega)]
  have hdi : y.drop (f + (i - f)) = x.drop i := by
    rw [hu.row, List.drop_append, hlenS, List.drop_of_length_le (by rw [hlenS]; omega), List.nil_append, List.drop_drop]
    congr 1; omega
  obtain ⟨hH, hz⟩ := h.holds f (i - f) (by omega)
  rw [hdrop] at hH hz
  refine (sortStable_of g (f * 2) cap' (i - f) (fun N => sym_says _ _ _ _ (by omega) N) _ w hz hH h.lt (by omega)).mono ?_
  rintro e w' ⟨rfl, d', hD, hS, hM, hz'⟩
  have hp := h.sorted f (i - f) (by omega) hD hz'
  have hZ : d'.toList = srtN ((x.drop f).take (i - f)) := marks_one _ _ (hu.mid_marks hi) (srtd_list clsN (by rw [hz']; exact hS)) (fun k => by have := hM k; simpa using this)
  rw [htake, hZ, hdi] at hp
  exact ⟨rfl, hp.1, hp.2⟩

/-- no part at all -/
theorem sort_none (g cap : Nat) (y : List Int) (w : World) (h : PAt w g cap y) :
    Calls Tryd.prog 112 #[.slice (some ⟨g, 0, none⟩) 0 0, .func (.func 113) #[] #[]] w fun e w' => e = .returned (.tuple #[]) ∧ PAt w' g cap y ∧ w.grownBy w' (some g) := by
  obtain ⟨hH, hz⟩ := h.holds 0 0 (by omega)
  refine (sortStable_of g 0 0 0 (fun N => sym_says _ _ _ _ (by omega) N) _ w hz hH h.lt (by omega)).mono ?_
  rintro e w' ⟨rfl, d', hD, hS, hM, hz'⟩
  have hp := h.sorted 0 0 (by omega) hD hz'
  have e0 : d'.toList = [] := List.eq_nil_of_length_eq_zero (by simpa using hz')
  rw [e0] at hp
  exact ⟨rfl, by simpa using hp.1, hp.2⟩

set_option maxRecDepth 100000 in
set_option maxHeartbeats 400000 in
theorem orderMarks_any (g cap n : Nat) (x : List Int) (w : World) (h : PAt w g cap x) (hn : Hid (n = x.length)) (hnc : n ≤ cap) (hcap : cap ≤ 9223372036854775807) (hl : n ≤ 1099511627776) :
    Calls Tryd.prog 102 #[.slice (some ⟨g, 0, none⟩) n cap] w fun e w' => e = .returned (.tuple #[]) ∧ PAt w' g cap (srtN x) ∧ w.grownBy w' (some g) := by
  have HP : Hid (PAt w g cap x) := h
  clear h
  go_enter Tryd.func102, Tryd.ntmps102
  go_wp2
  go_loopw [2, 7] (fun vf vi wr => ∃ (i f : Nat) (y : List Int), i ≤ n ∧ f ≤ i ∧ vf = .int .i64 f ∧ vi = .int .i64 i ∧ Hid (PAt wr g cap y) ∧ Hid (Upto x i f y) ∧ Hid (w.grownBy wr (some g))) (fun _ vi _ => n - (intOf vi).toNat)
  case atStart => exact ⟨0, 0, x, by omega, by omega, rfl, rfl, HP, Upto.start x, (⟨rfl, rfl, rfl, Nat.le_refl _, fun _ _ _ => rfl⟩ : w.grownBy w (some g))⟩
  case round =>
    obtain ⟨i, f, y, hi, hfi, rfl, rfl, HA, HU, HG⟩ := hrel
    by_cases hlt : i < n
    · have hltz : (i : Int) < (n : Int) := by omega
      have hix : i < x.length := by have := hn.out; omega
      have hyi : y.getD i 0 = x.getD i 0 ∧ y.length = x.length := by
        have hlenS : (srtN (x.take f)).length = f := by unfold srtN; rw [List.length_reverse, srtR_len]; simp; omega
        rw [HU.out.row]
        constructor
        · simp only [List.getD]
          rw [List.getElem?_append_right (by omega), hlenS, List.getElem?_drop]
          congr 2; omega
        · simp [hlenS]; omega
      obtain ⟨l0, l1⟩ := HA.out.cells i (by omega)
      rw [hyi.1] at l0 l1
      have HMK : Hid (markB (x.getD i 0) ↔ 0 < clsN (x.getD i 0)) := Iff.rfl
      obtain ⟨k, HK⟩ : ∃ k, Hid (k = clsN (x.getD i 0)) := ⟨_, rfl⟩
      rw [← HK.out] at l1 HMK
      clear hyi
      have HXI : Hid (∃ z, x.getD i 0 = z) := ⟨_, rfl⟩
      by_cases hm : 0 < k
      · have HU2 : Hid (Upto x (i + 1) f y) := HU.out.mark (HMK.out.2 hm)
        have HA2 : Hid (∀ o, PAt (wr.alloc o) g cap y) := fun o => HA.out.below ((Below.refl _ _).alloc (Nat.le_refl _) _)
        have HG2 : Hid (∀ o, w.grownBy (wr.alloc o) (some g)) := fun o => ⟨HG.out.os, HG.out.tape, HG.out.output, by rw [hs_alloc]; exact Nat.le_succ_of_le HG.out.size, fun k hk hne => (Below.heap_alloc _ _ _ (Nat.lt_of_lt_of_le hk HG.out.size)).trans (HG.out.block k hk hne)⟩
        go_wp2
        go_roundw
        case rel => exact ⟨i + 1, f, y, by omega, by omega, rfl, by go_num, HA2.out _, HU2, HG2.out _⟩
        case measure => simp [intOf]; omega
      · have hm' : ¬ markB (x.getD i 0) := fun q => hm (HMK.out.1 q)
        have HU2 : Hid (Upto x (i + 1) (i + 1) (srtN (x.take f) ++ (srtN ((x.drop f).take (i - f)) ++ x.drop i))) := HU.out.letter hix hm' rfl
        have HA2 : Hid (∀ o, PAt (wr.alloc o) g cap y) := fun o => HA.out.below ((Below.refl _ _).alloc (Nat.le_refl _) _)
        have HG2 : Hid (∀ o, w.grownBy (wr.alloc o) (some g)) := fun o => ⟨HG.out.os, HG.out.tape, HG.out.output, by rw [hs_alloc]; exact Nat.le_succ_of_le HG.out.size, fun k hk hne => (Below.heap_alloc _ _ _ (Nat.lt_of_lt_of_le hk HG.out.size)).trans (HG.out.block k hk hne)⟩
        have HC : Hid (∀ o n' cap', n' = i - f → Calls Tryd.prog 112 #[.slice (some ⟨g, f * 2, none⟩) n' cap', .func (.func 113) #[] #[]] (wr.alloc o) fun e w' => e = .returned (.tuple #[]) ∧ PAt w' g cap (srtN (x.take f) ++ (srtN ((x.drop f).take (i - f)) ++ x.drop i)) ∧ (wr.alloc o).grownBy w' (some g)) := fun o n' cap' he => sort_part g cap x y f i HU.out (by omega) _ (HA2.out o) (by have := hn.out; omega) n' cap' he
        clear hm'
        go_wp2_with fail
        refine (HC.out _ _ _ rfl).mono ?_
        rintro _ w1 ⟨rfl, hA1, hG1⟩
        have HA1 : Hid (PAt w1 g cap (srtN (x.take f) ++ (srtN ((x.drop f).take (i - f)) ++ x.drop i))) := hA1
        have HG1 : Hid (w.grownBy w1 (some g)) := gbi_trans (HG2.out _) hG1
        clear hA1 hG1
        go_wp2
        go_roundw
        case rel => exact ⟨i + 1, i + 1, _, by omega, Nat.le_refl _, by go_num, by go_num, HA1, HU2, HG1⟩
        case measure => simp [intOf]; omega
    · obtain rfl : i = n := by omega
      have HC : Hid (∀ n' cap', n' = i - f → Calls Tryd.prog 112 #[.slice (some ⟨g, f * 2, none⟩) n' cap', .func (.func 113) #[] #[]] wr fun e w' => e = .returned (.tuple #[]) ∧ PAt w' g cap (srtN (x.take f) ++ (srtN ((x.drop f).take (i - f)) ++ x.drop i)) ∧ wr.grownBy w' (some g)) := fun n' cap' he => sort_part g cap x y f i HU.out (by have := hn.out; omega) _ HA.out (by have := hn.out; omega) n' cap' he
      have HE : Hid (srtN (x.take f) ++ (srtN ((x.drop f).take (i - f)) ++ x.drop i) = srtN x) := by
        show _ = _
        have hxi := hn.out
        have h1 : (x.drop f).take (i - f) = x.drop f := List.take_of_length_le (by simp; omega)
        have h2 : x.drop i = [] := List.drop_of_length_le (by omega)
        rw [h1, h2, List.append_nil]
        have hu := HU.out
        rw [hxi] at hu
        exact hu.last rfl
      by_cases hfc : f < cap
      · go_wp2_with fail
        refine (HC.out _ _ rfl).mono ?_
        rintro _ w1 ⟨rfl, hA1, hG1⟩
        rw [HE.out] at hA1
        have HA1 : Hid (PAt w1 g cap (srtN x)) := hA1
        have HG1 : Hid (w.grownBy w1 (some g)) := gbi_trans HG.out hG1
        clear hA1 hG1
        go_wp2
        go_end0
        exact ⟨rfl, HA1.out, HG1.out⟩
      · have HY : Hid (y = srtN x) := by
          show _ = _
          have hxi := hn.out
          rw [HU.out.row, List.take_of_length_le (by omega), List.drop_of_length_le (by omega), List.append_nil]
        have hC := sort_none g cap y wr HA.out
        have hif : i - f = 0 := by omega
        have hfc' : cap - f = 0 := by omega
        have hzz : (f : Int) = (cap : Int) := by omega
        clear HC
        go_wp2_with fail
        refine hC.mono ?_
        rintro _ w1 ⟨rfl, hA1, hG1⟩
        rw [HY.out] at hA1
        have HA1 : Hid (PAt w1 g cap (srtN x)) := hA1
        have HG1 : Hid (w.grownBy w1 (some g)) := gbi_trans HG.out hG1
        clear hA1 hG1
        go_wp2
        go_end0
        exact ⟨rfl, HA1.out, HG1.out⟩
end

section
open Go.RowKit

theorem takeI (l : List Int) (k : Nat) (h : k < l.length) : l.take (k + 1) = l.take k ++ [l.getD k 0] := by
  rw [List.take_add_one, List.getElem?_eq_getElem h]; simp [List.getD, h]

set_option maxRecDepth 100000 in
set_option maxHeartbeats 2000000 in
theorem iApart (v : Value) (l : List Int) (w : World) (hv : IntsAt w v l) (hl : l.length ≤ 1048576) :
    Calls Tryd.prog 83 #[v] w fun e w' => ∃ v', e = .returned v' ∧ IntRow w' w.heap.size v' (apartN l) ∧ Below w.heap.size w w' := by
  obtain ⟨i0, hi, hz0, hz1, hz2⟩ := info_parts Tryd.infoInt
  have hT := takeApart_any v l w hv hl
  have hTL := takes_len l
  have HA : Hid (apartN l = srtN (l.flatMap takeN)) := rfl
  generalize apartN l = ap at HA ⊢
  generalize l.flatMap takeN = x at *
  obtain ⟨ad, cp, rfl, _⟩ := hv
  go_enter Tryd.func83, Tryd.ntmps83
  go_wp2_with fail
  refine hT.mono ?_
  rintro _ w1 ⟨g, n, c, rfl, hr1, hb1⟩
  obtain ⟨hp1, hnx, hbg, hnc⟩ := hr1.at
  have HN : Hid (n = x.length) := hnx
  have hcm : c ≤ 9223372036854775807 := by
    rcases hr1.2 with ⟨e, _⟩ | ⟨_, _, _, e, _, _, _, hcp, _⟩
    · cases e
    · cases e; unfold maxLen at hcp; omega
  have hn9 : n ≤ 9437184 := by omega
  have hO := orderMarks_any g c n x w1 hp1 HN hnc hcm (by omega)
  clear hT hr1 hp1 hnx
  go_wp2_with fail
  refine hO.mono ?_
  rintro _ w2 ⟨rfl, hp2, hg2⟩
  have HP2 : Hid (PAt w2 g c (srtN x)) := hp2
  have hb2 : Below w.heap.size w w2 := hb1.trans ⟨hg2.os, hg2.tape, hg2.output, hg2.size, fun k hk => hg2.block k (Nat.lt_of_lt_of_le hk hb1.size) (fun e => by cases e; omega)⟩
  have HB2 : Hid (Below w.heap.size w w2) := hb2
  have hsx : (srtN x).length = n := by unfold srtN; rw [List.length_reverse, srtR_len, HN.out]; simp
  rw [← HA.out] at HP2 hsx
  clear hO hp2 hg2 hb2 HA
  go_wp2_with (at_make; refine wpList_make_own _ rfl _ _ 39 rfl w2.heap.size 3 i0 (.int .i64 0) 1 Tryd.underlying39 hi hz0 hz1 .i64 .i64 _ n rfl rfl (by omega) (by rw [hz2]; omega) (by unfold maxLen; omega) (Nat.le_refl _) ?_; intro w3 hown3 hgrow3)
  have hb3 : Below w2.heap.size w2 w3 := (Below.refl _ _).grown hgrow3 (Nat.le_refl _) (fun _ h => by cases h)
  clear hgrow3 hi hz0 hz1 hz2
  go_loopw [4, 16] (fun u i wr => ∃ k : Nat, k ≤ n ∧ i = .int .i64 k ∧ IntRow wr w2.heap.size u (ap.take k) ∧ Below w2.heap.size w2 wr) (fun _ i _ => n - (intOf i).toNat)
  case atStart => exact ⟨0, Nat.zero_le _, rfl, by simpa [IntRow, intsV] using hown3, hb3⟩
  case round =>
    obtain ⟨k, hk, rfl, hrow, hbel⟩ := hrel
    by_cases hlt : k < n
    · have hltz : (k : Int) < (n : Int) := by omega
      have hkl : k < ap.length := by omega
      obtain ⟨l0, l1⟩ := (HP2.out.below hbel).cells k hkl
      have HT : Hid (ap.take (k + 1) = ap.take k ++ [ap.getD k 0]) := takeI ap k hkl
      have hlen : (ap.take k).length + 1 ≤ 1099511627776 := by rw [List.length_take]; omega
      obtain ⟨y, HY⟩ : ∃ y, Hid (y = ap.getD k 0) := ⟨_, rfl⟩
      rw [← HY.out] at l0 l1 HT
      generalize clsN y = q at *
      have hrA := fun o => World.ownsRow.alloc hrow o
      have hbA := fun o => hbel.alloc hbel.size o
      have hsz : ∀ o, w2.heap.size ≤ (wr.alloc o).heap.size := fun o => (hbA o).size
      go_wp2_with (at_builtin; refine append_int (wr.alloc (.cells #[.int .i64 y, .int .i64 q] 108)) rfl (.tmp 20) (.tmp 23) rfl w2.heap.size _ _ y hlen (hrA _) rfl (by rw [hs_alloc]; rfl) (hsz _) ?_; intro v' w4 hrow4 hbel4)
      have HB4 := (hbA _).trans hbel4
      go_wp2
      go_roundw
      case rel => exact ⟨k + 1, by omega, by go_num, by rw [HT.out]; exact hrow4, HB4⟩
      case measure => simp [intOf]; omega
    · obtain rfl : k = n := by omega
      have hrow' : IntRow wr w2.heap.size u4 ap := by rw [List.take_of_length_le (by omega)] at hrow; exact hrow
      have hz := HB2.out.size
      go_wp2
      go_ret
      exact ⟨_, rfl, hrow'.mono hz, HB2.out.trans (hbel.mono hz)⟩
end

section
open Go.RowKit

theorem foldN_nn (c : Int) : foldN c ≠ [] ∧ (foldN c).length ≤ 2 := by
  unfold foldN
  split
  · simp
  · split
    · simp
    · split <;> simp
theorem folds_len (l : List Int) : (foldsN l).length ≤ 2 * l.length := by
  unfold foldsN
  induction l with
  | nil => simp
  | cons c l ih => rw [List.flatMap_cons, List.length_append, List.length_cons]; have := (foldN_nn c).2; omega

set_option maxRecDepth 100000 in
set_option maxHeartbeats 2000000 in
theorem iFold (v : Value) (l : List Int) (w : World) (hv : IntsAt w v l) (hl : l.length ≤ 16777216) :
    Calls Tryd.prog 84 #[v] w fun e w' => ∃ v', e = .returned v' ∧ IntRow w' w.heap.size v' (foldsN l) ∧ Below w.heap.size w w' := by
  obtain ⟨i0, hi, hz0, hz1, hz2⟩ := info_parts Tryd.infoInt
  obtain ⟨ad, cp, rfl, hc⟩ := hv
  have HC : Hid (∀ t, t < l.length → ∃ b off, ad = some ⟨b, off, none⟩ ∧ b < w.heap.size ∧ w.cell? ⟨b, off + t, none⟩ = some (.int .i64 (l.getD t 0))) := hc
  have hTL := folds_len
  have HA : Hid (foldsN l = l.flatMap foldN) := rfl
  obtain ⟨n, HN⟩ : ∃ n, Hid (n = l.length) := ⟨_, rfl⟩
  rw [← HN.out] at hl ⊢
  clear hc
  go_enter Tryd.func84, Tryd.ntmps84
  go_wp2_with (at_make; refine wpList_make_own _ rfl _ _ 39 rfl w.heap.size 3 i0 (.int .i64 0) 1 Tryd.underlying39 hi hz0 hz1 .i64 .i64 _ n rfl rfl (by omega) (by rw [hz2]; omega) (by unfold maxLen; omega) (Nat.le_refl _) ?_; intro w3 hown3 hgrow3)
  have hb3 : Below w.heap.size w w3 := (Below.refl _ _).grown hgrow3 (Nat.le_refl _) (fun _ h => by cases h)
  clear hgrow3 hi hz0 hz1 hz2
  go_loopw [3, 11] (fun u i wr => ∃ k : Nat, k ≤ n ∧ i = .int .i64 k ∧ IntRow wr w.heap.size u ((l.take k).flatMap foldN) ∧ Below w.heap.size w wr) (fun _ i _ => n - (intOf i).toNat)
  case atStart => exact ⟨0, Nat.zero_le _, rfl, by simpa [IntRow, intsV] using hown3, hb3⟩
  case round =>
    obtain ⟨k, hk, rfl, hrow, hbel⟩ := hrel
    by_cases hlt : k < n
    · have hltz : (k : Int) < (n : Int) := by omega
      have hkl : k < l.length := by have := HN.out; omega
      obtain ⟨b1, o1, rfl, hb1, hc1⟩ := HC.out k hkl
      have hc2 : wr.cell? ⟨b1, o1 + k, none⟩ = some (.int .i64 (l.getD k 0)) := (hbel.cell (p := ⟨b1, o1 + k, none⟩) hb1).trans hc1
      have HT : Hid ((l.take (k + 1)).flatMap foldN = (l.take k).flatMap foldN ++ foldN (l.getD k 0)) := flatMap_take l foldN k hkl
      have hFO := fun w' => iFoldOf (l.getD k 0) w'
      have hne := foldN_nn (l.getD k 0)
      have hlen : ((l.take k).flatMap foldN).length ≤ 33554432 := by have h1 := hTL (l.take k); rw [List.length_take] at h1; unfold foldsN at h1; omega
      clear hc1 HC
      generalize l.getD k 0 = x at *
      generalize foldN x = fx at *
      go_wp2_with (first | (go_at_call 103; refine (hFO _).mono ?_; rintro e w1 ⟨u1, rfl, hr1, hb4⟩; have hrow1 := hrow.below hb4; have hbel1 := hbel.trans (hb4.mono hbel.size)) | (at_builtin; refine append_ints w1 rfl (.tmp 15) (.tmp 17) rfl w.heap.size _ _ _ fx hne.1 (by omega) hrow1 hr1.at rfl rfl hbel1.size ?_; intro v' w4 hrow4 hbel4))
      have HB4 := hbel1.trans hbel4
      go_roundw
      case rel => exact ⟨k + 1, by omega, by go_num, by rw [HT.out]; exact hrow4, HB4⟩
      case measure => simp [intOf]; omega
    · obtain rfl : k = n := by omega
      have hrow' : IntRow wr w.heap.size u3 (foldsN l) := by rw [HA.out]; rw [HN.out, List.take_of_length_le (Nat.le_refl _)] at hrow; exact hrow
      go_wp2
      go_ret
      exact ⟨_, rfl, hrow', hbel⟩
end

section
open Go.RowKit

theorem foldN_ne (c : Int) : foldN c ≠ [] ∧ (foldN c).length ≤ 2 := by
  unfold foldN
  repeat' split
  all_goals simp
theorem flat_len (f : Int → List Int) (b : Nat) (h : ∀ c, (f c).length ≤ b) (l : List Int) : (l.flatMap f).length ≤ b * l.length := by
  induction l with
  | nil => simp
  | cons c l ih =>
    rw [List.flatMap_cons, List.length_append, List.length_cons, Nat.mul_add]
    have := h c
    omega

set_option maxRecDepth 100000 in
set_option maxHeartbeats 1000000 in
theorem sFold (v : Value) (l : List Int) (w : World) (hl : l.length ≤ 16777216) (hv : IntsAt w v l) :
    Calls Tryd.prog 62 #[v] w fun e w' => ∃ u, e = .returned u ∧ IntRow w' w.heap.size u (foldsN l) ∧ Below w.heap.size w w' := by
  obtain ⟨a, ca, rfl, hva⟩ := hv
  have HT := flatMap_take l foldN
  have HE : Hid ((l.take l.length).flatMap foldN = foldsN l) := by show _ = _; rw [List.take_length]; rfl
  have HL : ∀ k, ((l.take k).flatMap foldN).length ≤ 2 * l.length := fun k => Nat.le_trans (flat_len foldN 2 (fun c => (foldN_ne c).2) _) (by simp; omega)
  obtain ⟨n, HN⟩ : ∃ n, Hid (n = l.length) := ⟨_, rfl⟩
  rw [← HN.out] at hva hl HE HL ⊢
  generalize foldsN l = r at HE ⊢
  go_enter Tryd.func62, Tryd.ntmps62
  go_wp2
  go_loopw [3, 4] (fun o i wr => ∃ k : Nat, k ≤ n ∧ i = .int .i64 k ∧ IntRow wr w.heap.size o ((l.take k).flatMap foldN) ∧ Below w.heap.size w wr) (fun _ i _ => n - (intOf i).toNat)
  case atStart => exact ⟨0, Nat.zero_le _, rfl, by simpa using lit_at w #[] [] 0 rfl rfl (by decide), below_lit _ _⟩
  case round =>
    obtain ⟨k, hk, rfl, hown, hbel⟩ := hrel
    by_cases hlt : k < n
    · obtain ⟨b1, o1, rfl, hb1, hc1⟩ := hva k hlt
      have hc1' := (hbel.cell (p := ⟨b1, o1 + k, none⟩) hb1).trans hc1
      have HS : Hid ((l.take (k + 1)).flatMap foldN = (l.take k).flatMap foldN ++ foldN (l.getD k 0)) := HT k (by rw [← HN.out]; exact hlt)
      have hll := HL k
      have hnn := foldN_ne (l.getD k 0)
      have hH := fun w' => sFoldOf (l.getD k 0) w'
      generalize l.getD k 0 = d at hc1' HS hnn hH
      generalize (l.take k).flatMap foldN = q at hown HS hll
      generalize foldN d = m at HS hnn hH
      go_wp2_with (first | (go_at_call 88; refine (hH _).mono ?_; rintro e w2 ⟨u, rfl, hrow2, hb2⟩; have hown2 := hown.below hb2; have hbel2 := hbel.trans (hb2.mono hbel.size)) | (at_builtin; refine append_ints w2 rfl (.tmp 12) (.tmp 17) rfl w.heap.size _ u q m hnn.1 (by omega) hown2 hrow2.at rfl rfl hbel2.size ?_; intro v' w3 hown3 hbel3))
      go_roundw
      case rel => exact ⟨k + 1, by omega, by go_num, by rw [HS.out]; exact hown3, hbel2.trans hbel3⟩
      case measure => simp [intOf]; omega
    · obtain rfl : k = n := by omega
      rw [HE.out] at hown
      go_wp2
      go_ret
      exact ⟨_, rfl, hown, hbel⟩
end

section
open Go.RowKit

set_option maxRecDepth 100000 in
set_option maxHeartbeats 1000000 in
theorem take_step (c : Int) (tk : Int → List Int) (hne : ∀ d ∈ partsN c, tk d ≠ [] ∧ (tk d).length ≤ 9) (H : ∀ d ∈ partsN c, TakeSays d (tk d)) : TakeSays c (takeBy tk c) := by
  intro w
  have hP := sParts c w
  have hlen := partsN_le c
  by_cases h0 : partsN c = []
  · have HR : Hid (takeBy tk c = [c]) := by show _ = _; unfold takeBy; rw [if_pos h0]
    rw [h0] at hP
    generalize takeBy tk c = r at HR ⊢
    go_enter Tryd.func86, Tryd.ntmps86
    go_wp2_with fail
    refine hP.mono ?_
    rintro e w1 ⟨v, rfl, hrow, hb⟩
    obtain ⟨a, cap, rfl, -⟩ := hrow.at
    go_wp2
    go_ret
    rw [HR.out]
    refine ⟨.slice (some ⟨w1.heap.size, 0, none⟩) 1 1, rfl, ret_lit _ w _ _ 1 _ ?_ ?_ ?_ ?_ ?_⟩ <;> first | rfl | decide | exact hb | simp
  · have HR : Hid (takeBy tk c = (partsN c).flatMap tk) := by show _ = _; unfold takeBy; rw [if_neg h0]
    have HT := flatMap_take (partsN c) tk
    have HE : Hid (((partsN c).take (partsN c).length).flatMap tk = (partsN c).flatMap tk) := by show _ = _; rw [List.take_length]
    have HM : ∀ k, k < (partsN c).length → (partsN c).getD k 0 ∈ partsN c := fun k hk => by simp [List.getD, hk]
    have HL : ∀ k, k ≤ (partsN c).length → (((partsN c).take k).flatMap tk).length ≤ 9 * k := fun k => by
      induction k with
      | zero => intro _; simp
      | succ k ih =>
        intro hk
        rw [HT k (by omega), List.length_append]
        have := ih (by omega)
        have := (hne _ (HM k (by omega))).2
        omega
    generalize takeBy tk c = r at HR ⊢
    generalize partsN c = L at *
    have hpos : 0 < L.length := List.length_pos_iff.2 h0
    obtain ⟨n, HN⟩ : ∃ n, Hid (n = L.length) := ⟨_, rfl⟩
    go_enter Tryd.func86, Tryd.ntmps86
    go_wp2_with fail
    refine hP.mono ?_
    rintro e w1 ⟨v, rfl, hrow, hb⟩
    obtain ⟨a, cap, rfl, hva⟩ := hrow.at
    rw [← HN.out] at hva hlen hpos ⊢
    have hn0 : (n == 0) = false := by rw [beq_eq_false_iff_ne]; omega
    have hn1 : ((n : Int) == 0) = false := by rw [beq_eq_false_iff_ne]; omega
    go_wp2
    go_loopw [4, 5] (fun o i wr => ∃ k : Nat, k ≤ n ∧ i = .int .i64 k ∧ IntRow wr w1.heap.size o ((L.take k).flatMap tk) ∧ Below w1.heap.size w1 wr) (fun _ i _ => n - (intOf i).toNat)
    case atStart => exact ⟨0, Nat.zero_le _, rfl, by simpa using lit_at w1 #[] [] 0 rfl rfl (by decide), below_lit _ _⟩
    case round =>
      obtain ⟨k, hk, rfl, hown, hbel⟩ := hrel
      by_cases hlt : k < n
      · obtain ⟨b1, o1, rfl, hb1, hc1⟩ := hva k hlt
        have hc1' := (hbel.cell (p := ⟨b1, o1 + k, none⟩) hb1).trans hc1
        have hkL : k < L.length := by rw [← HN.out]; exact hlt
        have HS : Hid ((L.take (k + 1)).flatMap tk = (L.take k).flatMap tk ++ tk (L.getD k 0)) := HT k hkL
        have hd := HM k hkL
        have hH := H _ hd
        have hnn := hne _ hd
        have hll := HL k (by omega)
        generalize L.getD k 0 = d at hc1' HS hH hnn
        generalize (L.take k).flatMap tk = q at hown HS hll
        generalize tk d = m at HS hH hnn
        go_wp2_with (first | (go_at_call 86; refine (hH _).mono ?_; rintro e w2 ⟨u, rfl, hrow2, hb2⟩; have hown2 := hown.below hb2; have hbel2 := hbel.trans (hb2.mono hbel.size)) | (at_builtin; refine append_ints w2 rfl (.tmp 20) (.tmp 25) rfl w1.heap.size _ u q m hnn.1 (by omega) hown2 hrow2.at rfl rfl hbel2.size ?_; intro v' w3 hown3 hbel3))
        go_roundw
        case rel => exact ⟨k + 1, by omega, by go_num, by rw [HS.out]; exact hown3, hbel2.trans hbel3⟩
        case measure => simp [intOf]; omega
      · obtain rfl : k = n := by omega
        have HE' := HE.out
        rw [← HN.out] at HE'
        rw [HE'] at hown
        go_wp2
        go_ret
        exact ⟨_, rfl, by rw [HR.out]; exact hown.mono hb.size, hb.trans (hbel.mono hb.size)⟩

theorem sTake (c : Int) : TakeSays c (takeN c) := by
  have leaf : ∀ d, partsN d = [] → TakeSays d [d] := fun d hd => by
    have := take_step d (fun _ => [0]) (fun e he => by rw [hd] at he; cases he) (fun e he => by rw [hd] at he; cases he)
    unfold takeBy at this
    rwa [if_pos hd] at this
  have one : ∀ d, (∀ e ∈ partsN d, partsN e = []) → TakeSays d (take1 d) := fun d hd =>
    take_step d (fun e => [e]) (fun e _ => by simp) (fun e he => leaf e (hd e he))
  exact take_step c take1 (fun d hd => take1_ne d) (fun d hd => one d fun e he => parts_two c d e hd he)
end

end Go.Proofs.YtlkemmdcjnaepaaDoor
