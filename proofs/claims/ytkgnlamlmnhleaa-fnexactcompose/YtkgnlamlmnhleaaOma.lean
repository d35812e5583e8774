/- Names: impl.orderMarks: the marks between two letters are put in order. -/
import Derived.Test.YtkgnlamlmnhleaaRows
import Derived.Test.YtkgnlamlmnhleaaOmk
namespace Go.Proofs.Ytkgnlamlmnhleaa
open Go.RowKit Go.Shelf Go.Lib Go.Sort

/-- a part of marks, sorted -/
theorem sort_part (g cap : Nat) (x y : List Int) (f i : Nat) (hu : Upto x i f y) (hi : i ≤ x.length) (w : World) (h : PAt w g cap y) (hl : x.length < 1152921504606846976) (n cap' : Nat) (hn : n = i - f) :
    Calls Try.prog 50 #[.slice (some ⟨g, f * 2, none⟩) n cap', .func (.func 51) #[] #[]] w fun e w' => e = .returned (.tuple #[]) ∧ PAt w' g cap (srtN (x.take f) ++ (srtN ((x.drop f).take (i - f)) ++ x.drop i)) ∧ w.grownBy w' (some g) := by
  subst hn
  have hle := hu.le
  have hlenS : (srtN (x.take f)).length = f := by unfold srtN; rw [List.length_reverse, srtR_len]; simp; omega
  have hylen : y.length = x.length := by rw [hu.split]; simp [hlenS]; omega
  have hdrop : (y.drop f).take (i - f) = (x.drop f).take (i - f) := by rw [hu.row, List.drop_append, hlenS, List.drop_of_length_le (by rw [hlenS]; omega)]; simp
  have htake : y.take f = srtN (x.take f) := by rw [hu.row, List.take_append_of_le_length (by omega), List.take_of_length_le (by omega)]
  have hdi : y.drop (f + (i - f)) = x.drop i := by
    rw [hu.row, List.drop_append, hlenS, List.drop_of_length_le (by rw [hlenS]; omega), List.nil_append, List.drop_drop]
    congr 1; omega
  obtain ⟨hH, hz⟩ := h.holds f (i - f) (by omega)
  rw [hdrop] at hH hz
  refine (sortStable_of g (f * 2) cap' (i - f) (fun N => sym_says _ _ _ _ (by omega) N) _ w hz hH h.lt (by omega)).mono ?_
  rintro e w' ⟨rfl, d', hD, hS, hM, hz'⟩
  have hp := h.sorted f (i - f) (by omega) hD hz'
  have hZ : d'.toList = srtN ((x.drop f).take (i - f)) := marks_one _ _ (hu.mid_marks hi) (srtd_list clsN (by rw [hz']; exact hS)) (fun k => by have := hM k; simpa using this)
  rw [htake, hZ, hdi] at hp
  exact ⟨rfl, hp.1, hp.2⟩

/-- no part at all -/
theorem sort_none (g cap : Nat) (y : List Int) (w : World) (h : PAt w g cap y) :
    Calls Try.prog 50 #[.slice (some ⟨g, 0, none⟩) 0 0, .func (.func 51) #[] #[]] w fun e w' => e = .returned (.tuple #[]) ∧ PAt w' g cap y ∧ w.grownBy w' (some g) := by
  obtain ⟨hH, hz⟩ := h.holds 0 0 (by omega)
  refine (sortStable_of g 0 0 0 (fun N => sym_says _ _ _ _ (by omega) N) _ w hz hH h.lt (by omega)).mono ?_
  rintro e w' ⟨rfl, d', hD, hS, hM, hz'⟩
  have hp := h.sorted 0 0 (by omega) hD hz'
  have e0 : d'.toList = [] := List.eq_nil_of_length_eq_zero (by simpa using hz')
  rw [e0] at hp
  exact ⟨rfl, by simpa using hp.1, hp.2⟩

set_option maxRecDepth 100000 in
set_option maxHeartbeats 400000 in
theorem orderMarks_any (g cap n : Nat) (x : List Int) (w : World) (h : PAt w g cap x) (hn : Hid (n = x.length)) (hnc : n ≤ cap) (hcap : cap ≤ 9223372036854775807) (hl : n ≤ 1099511627776) :
    Calls Try.prog 42 #[.slice (some ⟨g, 0, none⟩) n cap] w fun e w' => e = .returned (.tuple #[]) ∧ PAt w' g cap (srtN x) ∧ w.grownBy w' (some g) := by
  have HP : Hid (PAt w g cap x) := h
  clear h
  go_enter Try.func42, Try.ntmps42
  go_wp2
  go_loopw [2, 7] (fun vf vi wr => ∃ (i f : Nat) (y : List Int), i ≤ n ∧ f ≤ i ∧ vf = .int .i64 f ∧ vi = .int .i64 i ∧ Hid (PAt wr g cap y) ∧ Hid (Upto x i f y) ∧ Hid (w.grownBy wr (some g))) (fun _ vi _ => n - (intOf vi).toNat)
  case atStart => exact ⟨0, 0, x, by omega, by omega, rfl, rfl, HP, Upto.start x, (⟨rfl, rfl, rfl, Nat.le_refl _, fun _ _ _ => rfl⟩ : w.grownBy w (some g))⟩
  case round =>
    obtain ⟨i, f, y, hi, hfi, rfl, rfl, HA, HU, HG⟩ := hrel
    by_cases hlt : i < n
    · have hltz : (i : Int) < (n : Int) := by omega
      have hix : i < x.length := by have := hn.out; omega
      have hyi : y.getD i 0 = x.getD i 0 ∧ y.length = x.length := by
        have hlenS : (srtN (x.take f)).length = f := by unfold srtN; rw [List.length_reverse, srtR_len]; simp; omega
        rw [HU.out.row]
        constructor
        · simp only [List.getD]
          rw [List.getElem?_append_right (by omega), hlenS, List.getElem?_drop]
          congr 2; omega
        · simp [hlenS]; omega
      obtain ⟨l0, l1⟩ := HA.out.cells i (by omega)
      rw [hyi.1] at l0 l1
      have HMK : Hid (markB (x.getD i 0) ↔ 0 < clsN (x.getD i 0)) := Iff.rfl
      obtain ⟨k, HK⟩ : ∃ k, Hid (k = clsN (x.getD i 0)) := ⟨_, rfl⟩
      rw [← HK.out] at l1 HMK
      clear hyi
      have HXI : Hid (∃ z, x.getD i 0 = z) := ⟨_, rfl⟩
      by_cases hm : 0 < k
      · have HU2 : Hid (Upto x (i + 1) f y) := HU.out.mark (HMK.out.2 hm)
        have HA2 : Hid (∀ o, PAt (wr.alloc o) g cap y) := fun o => HA.out.below ((Below.refl _ _).alloc (Nat.le_refl _) _)
        have HG2 : Hid (∀ o, w.grownBy (wr.alloc o) (some g)) := fun o => ⟨HG.out.os, HG.out.tape, HG.out.output, by rw [hs_alloc]; exact Nat.le_succ_of_le HG.out.size, fun k hk hne => (Below.heap_alloc _ _ _ (Nat.lt_of_lt_of_le hk HG.out.size)).trans (HG.out.block k hk hne)⟩
        go_wp2
        go_roundw
        case rel => exact ⟨i + 1, f, y, by omega, by omega, rfl, by go_num, HA2.out _, HU2, HG2.out _⟩
        case measure => simp [intOf]; omega
      · have hm' : ¬ markB (x.getD i 0) := fun q => hm (HMK.out.1 q)
        have HU2 : Hid (Upto x (i + 1) (i + 1) (srtN (x.take f) ++ (srtN ((x.drop f).take (i - f)) ++ x.drop i))) := HU.out.letter hix hm' rfl
        have HA2 : Hid (∀ o, PAt (wr.alloc o) g cap y) := fun o => HA.out.below ((Below.refl _ _).alloc (Nat.le_refl _) _)
        have HG2 : Hid (∀ o, w.grownBy (wr.alloc o) (some g)) := fun o => ⟨HG.out.os, HG.out.tape, HG.out.output, by rw [hs_alloc]; exact Nat.le_succ_of_le HG.out.size, fun k hk hne => (Below.heap_alloc _ _ _ (Nat.lt_of_lt_of_le hk HG.out.size)).trans (HG.out.block k hk hne)⟩
        have HC : Hid (∀ o n' cap', n' = i - f → Calls Try.prog 50 #[.slice (some ⟨g, f * 2, none⟩) n' cap', .func (.func 51) #[] #[]] (wr.alloc o) fun e w' => e = .returned (.tuple #[]) ∧ PAt w' g cap (srtN (x.take f) ++ (srtN ((x.drop f).take (i - f)) ++ x.drop i)) ∧ (wr.alloc o).grownBy w' (some g)) := fun o n' cap' he => sort_part g cap x y f i HU.out (by omega) _ (HA2.out o) (by have := hn.out; omega) n' cap' he
        clear hm'
        go_wp2_with fail
        refine (HC.out _ _ _ rfl).mono ?_
        rintro _ w1 ⟨rfl, hA1, hG1⟩
        have HA1 : Hid (PAt w1 g cap (srtN (x.take f) ++ (srtN ((x.drop f).take (i - f)) ++ x.drop i))) := hA1
        have HG1 : Hid (w.grownBy w1 (some g)) := gbi_trans (HG2.out _) hG1
        clear hA1 hG1
        go_wp2
        go_roundw
        case rel => exact ⟨i + 1, i + 1, _, by omega, Nat.le_refl _, by go_num, by go_num, HA1, HU2, HG1⟩
        case measure => simp [intOf]; omega
    · obtain rfl : i = n := by omega
      have HC : Hid (∀ n' cap', n' = i - f → Calls Try.prog 50 #[.slice (some ⟨g, f * 2, none⟩) n' cap', .func (.func 51) #[] #[]] wr fun e w' => e = .returned (.tuple #[]) ∧ PAt w' g cap (srtN (x.take f) ++ (srtN ((x.drop f).take (i - f)) ++ x.drop i)) ∧ wr.grownBy w' (some g)) := fun n' cap' he => sort_part g cap x y f i HU.out (by have := hn.out; omega) _ HA.out (by have := hn.out; omega) n' cap' he
      have HE : Hid (srtN (x.take f) ++ (srtN ((x.drop f).take (i - f)) ++ x.drop i) = srtN x) := by
        show _ = _
        have hxi := hn.out
        have h1 : (x.drop f).take (i - f) = x.drop f := List.take_of_length_le (by simp; omega)
        have h2 : x.drop i = [] := List.drop_of_length_le (by omega)
        rw [h1, h2, List.append_nil]
        have hu := HU.out
        rw [hxi] at hu
        exact hu.last rfl
      by_cases hfc : f < cap
      · go_wp2_with fail
        refine (HC.out _ _ rfl).mono ?_
        rintro _ w1 ⟨rfl, hA1, hG1⟩
        rw [HE.out] at hA1
        have HA1 : Hid (PAt w1 g cap (srtN x)) := hA1
        have HG1 : Hid (w.grownBy w1 (some g)) := gbi_trans HG.out hG1
        clear hA1 hG1
        go_wp2
        go_end0
        exact ⟨rfl, HA1.out, HG1.out⟩
      · have HY : Hid (y = srtN x) := by
          show _ = _
          have hxi := hn.out
          rw [HU.out.row, List.take_of_length_le (by omega), List.drop_of_length_le (by omega), List.append_nil]
        have hC := sort_none g cap y wr HA.out
        have hif : i - f = 0 := by omega
        have hfc' : cap - f = 0 := by omega
        have hzz : (f : Int) = (cap : Int) := by omega
        clear HC
        go_wp2_with fail
        refine hC.mono ?_
        rintro _ w1 ⟨rfl, hA1, hG1⟩
        rw [HY.out] at hA1
        have HA1 : Hid (PAt w1 g cap (srtN x)) := hA1
        have HG1 : Hid (w.grownBy w1 (some g)) := gbi_trans HG.out hG1
        clear hA1 hG1
        go_wp2
        go_end0
        exact ⟨rfl, HA1.out, HG1.out⟩

end Go.Proofs.Ytkgnlamlmnhleaa
