/- Names: a row of signs with their classes, a part of it put in order. Names: impl.orderMarks: the marks between two letters are put in order. Names: impl.Apart and impl.Fold: their contracts. Names: impl.Fold: its contract. -/
import Derived.Test.YtkgnlamlmnhleaaDoorRows
import Derived.Test.YtkgnlamlmnhleaaDoorTkb
import Derived.Test.YtkgnlamlmnhleaaDoorRun
import Derived.Test.YtkgnlamlmnhleaaDoorSta
import Derived.Test.YtkgnlamlmnhleaaDoorSyE
import Derived.Test.YtkgnlamlmnhleaaDoorApt
import Derived.Test.YtkgnlamlmnhleaaDoorICls
namespace Go.Proofs.YtkgnlamlmnhleaaDoor

section
open Go.RowKit Go.Shelf Go.Lib Go.Sort

/-- the first ones of block g are x, each with its class -/
def PAt (w : World) (g cap : Nat) (x : List Int) : Prop :=
  ∃ cur, w.heap[g]? = some (.cells cur 47 (0, 0)) ∧ cur.size = cap * 2 ∧ x.length ≤ cap ∧ ∀ j, j < x.length → cur[j * 2]? = some (.int .i64 (x.getD j 0)) ∧ cur[j * 2 + 1]? = some (.int .i64 (clsN (x.getD j 0)))

theorem flatP_at : ∀ (x : List Int) (j : Nat), j < x.length → (flatP x)[j * 2]? = some (.int .i64 (x.getD j 0)) ∧ (flatP x)[j * 2 + 1]? = some (.int .i64 (clsN (x.getD j 0)))
  | [], j, h => by simp at h
  | c :: x, 0, _ => ⟨rfl, rfl⟩
  | c :: x, j + 1, h => by
    have ih := flatP_at x j (by simpa using h)
    have e : flatP (c :: x) = .int .i64 c :: .int .i64 (clsN c) :: flatP x := by simp [flatP, encP]
    rw [e, show (j + 1) * 2 = j * 2 + 1 + 1 by omega]
    simpa using ih

theorem PRow.at {w : World} {base g n cap : Nat} {x : List Int} (h : PRow w base (.slice (some ⟨g, 0, none⟩) n cap) x) : PAt w g cap x ∧ n = x.length ∧ base ≤ g ∧ n ≤ cap := by
  rcases h.2 with ⟨e, _⟩ | ⟨g', cap', cur, e, hg, hh, hnc, hcp, hcs, htake⟩
  · cases e
  · cases e
    refine ⟨⟨cur, hh, hcs, hnc, fun j hj => ?_⟩, rfl, hg, hnc⟩
    have h1 := flatP_at x j hj
    have key : ∀ t, t < x.length * 2 → cur[t]? = (flatP x)[t]? := fun t ht => by
      rw [← htake, List.getElem?_take_of_lt ht]; simp
    rw [key _ (by omega), key _ (by omega)]
    exact h1

theorem PAt.lt {w : World} {g cap : Nat} {x : List Int} (h : PAt w g cap x) : g < w.heap.size := by
  obtain ⟨cur, hh, _⟩ := h
  exact lt_of_block hh
theorem PAt.below {w w' : World} {g cap : Nat} {x : List Int} (h : PAt w g cap x) (b : Below w.heap.size w w') : PAt w' g cap x := by
  have hl := h.lt
  obtain ⟨cur, hh, r⟩ := h
  exact ⟨cur, (b.block g hl).trans hh, r⟩
theorem PAt.cells {w : World} {g cap : Nat} {x : List Int} (h : PAt w g cap x) (j : Nat) (hj : j < x.length) : w.cell? ⟨g, j * 2, none⟩ = some (.int .i64 (x.getD j 0)) ∧ w.cell? ⟨g, j * 2 + 1, none⟩ = some (.int .i64 (clsN (x.getD j 0))) := by
  obtain ⟨cur, hh, _, _, hc⟩ := h
  rw [cell_of_row w g _ _ _ (0, 0) hh, cell_of_row w g _ _ _ (0, 0) hh]
  exact hc j hj

/-- a part of it, as the sort takes it -/
theorem PAt.holds {w : World} {g cap : Nat} {x : List Int} (h : PAt w g cap x) (f n : Nat) (hn : f + n ≤ x.length) : HoldsK encP 2 w g (f * 2) ((x.drop f).take n).toArray ∧ ((x.drop f).take n).toArray.size = n := by
  have hsz : ((x.drop f).take n).toArray.size = n := by simp; omega
  refine ⟨fun j hj => ?_, hsz⟩
  rw [size_flatK, hsz] at hj
  have hd : ((x.drop f).take n).toArray[j / 2]! = x.getD (f + j / 2) 0 := by
    rw [getElem!_pos _ _ (by rw [hsz]; omega)]
    simp [List.getD, show f + j / 2 < x.length by omega]
  have hc := h.cells (f + j / 2) (by omega)
  obtain ⟨cur, hh, _⟩ := h
  refine ⟨?_, frozen_of_row w g _ _ _ hh⟩
  show _ = some ((flatK encP 2 _)[j]!)
  rw [get_flatK _ _ _ _ (by rw [hsz]; exact hj), hd]
  rcases Nat.mod_two_eq_zero_or_one j with h2 | h2
  · rw [h2, show f * 2 + j = (f + j / 2) * 2 by omega, hc.1]; rfl
  · rw [h2, show f * 2 + j = (f + j / 2) * 2 + 1 by omega, hc.2]; rfl

/-- and as it leaves it -/
theorem PAt.sorted {w W : World} {g cap : Nat} {x : List Int} (h : PAt w g cap x) (f n : Nat) (hn : f + n ≤ x.length) {dk : Array Int} (hs : SWp w g (f * 2) dk W) (hd : dk.size = n) :
    PAt W g cap (x.take f ++ (dk.toList ++ x.drop (f + n))) ∧ w.grownBy W (some g) := by
  obtain ⟨hb, _, m, os, rfl⟩ := hs
  obtain ⟨cur, hh, hcs, hxc, hc⟩ := h
  have hold : ∀ k, k < w.heap.size → k ≠ g → (sortWorldK encP 2 w g (f * 2) m dk os).heap[k]? = w.heap[k]? := fun k hk hne => by
    unfold sortWorldK
    rw [heap_grow_old _ _ (by rw [size_putRowK]; exact hk)]
    show (w.heap.modify g _)[k]? = _
    rw [Array.getElem?_modify, if_neg (Ne.symm hne)]
  have hnew : (sortWorldK encP 2 w g (f * 2) m dk os).heap[g]? = some (.cells (putCells id (f * 2) (flatK encP 2 dk) cur) 47 (0, 0)) := by
    unfold sortWorldK
    rw [heap_grow_old _ _ (by rw [size_putRowK]; exact hb)]
    show (w.heap.modify g _)[g]? = _
    rw [Array.getElem?_modify, if_pos rfl, hh]
    rfl
  have hlen : (x.take f ++ (dk.toList ++ x.drop (f + n))).length = x.length := by simp [hd]; omega
  refine ⟨⟨_, hnew, by simp [putCells, hcs], by rw [hlen]; exact hxc, fun j hj => ?_⟩, ⟨rfl, rfl, rfl, by unfold sortWorldK; rw [size_grow, size_putRowK]; exact Nat.le_add_right _ _, fun k hk hne => hold k hk (fun e => hne (by rw [e]))⟩⟩
  rw [hlen] at hj
  have hput : ∀ t, t < cap * 2 → (putCells id (f * 2) (flatK encP 2 dk) cur)[t]? = if f * 2 ≤ t ∧ t < f * 2 + n * 2 then some (flatK encP 2 dk)[t - f * 2]! else cur[t]? := fun t ht => by
    unfold putCells
    rw [Array.getElem?_mapIdx, size_flatK, hd]
    have : t < cur.size := by omega
    rw [Array.getElem?_eq_getElem this]
    by_cases hq : f * 2 ≤ t ∧ t < f * 2 + n * 2
    · simp [hq]
    · rw [if_neg hq]; simp [hq]
  rw [hput _ (by omega), hput _ (by omega)]
  have c0 := hc j hj
  by_cases h1 : j < f
  · rw [if_neg (by omega), if_neg (by omega)]
    have e : (x.take f ++ (dk.toList ++ x.drop (f + n))).getD j 0 = x.getD j 0 := by
      simp only [List.getD]
      rw [List.getElem?_append_left (by simp; omega), List.getElem?_take_of_lt h1]
    rw [e]; exact c0
  · by_cases h2 : j < f + n
    · rw [if_pos (by omega), if_pos (by omega)]
      have e : (x.take f ++ (dk.toList ++ x.drop (f + n))).getD j 0 = dk[j - f]! := by
        simp only [List.getD]
        rw [List.getElem?_append_right (by simp; omega), List.getElem?_append_left (by simp; omega)]
        have hk : j - min f x.length < dk.size := by omega
        rw [List.length_take, Array.getElem?_toList, Array.getElem?_eq_getElem hk, getElem!_pos dk (j - f) (by omega)]
        simp only [Option.getD_some]
        congr 1; omega
      rw [e, get_flatK _ _ _ _ (by omega), get_flatK _ _ _ _ (by omega), show (j * 2 - f * 2) / 2 = j - f by omega, show (j * 2 - f * 2) % 2 = 0 by omega, show (j * 2 + 1 - f * 2) / 2 = j - f by omega, show (j * 2 + 1 - f * 2) % 2 = 1 by omega]
      exact ⟨rfl, rfl⟩
    · rw [if_neg (by omega), if_neg (by omega)]
      have e : (x.take f ++ (dk.toList ++ x.drop (f + n))).getD j 0 = x.getD j 0 := by
        simp only [List.getD]
        rw [List.getElem?_append_right (by simp; omega), List.getElem?_append_right (by simp; omega), List.getElem?_drop]
        congr 2; simp; omega
      rw [e]; exact c0
end

section
open Go.RowKit Go.Shelf Go.Lib Go.Sort

/-- a part of marks, sorted -/
theorem sort_part (g cap : Nat) (x y : List Int) (f i : Nat) (hu : Upto x i f y) (hi : i ≤ x.length) (w : World) (h : PAt w g cap y) (hl : x.length < 1152921504606846976) (n cap' : Nat) (hn : n = i - f) :
    Calls Tryd.prog 41 #[.slice (some ⟨g, f * 2, none⟩) n cap', .func (.func 42) #[] #[]] w fun e w' => e = .returned (.tuple #[]) ∧ PAt w' g cap (srtN (x.take f) ++ (srtN ((x.drop f).take (i - f)) ++ x.drop i)) ∧ w.grownBy w' (some g) := by
  subst hn
  have hle := hu.le
  have hlenS : (srtN (x.take f)).length = f := by unfold srtN; rw [List.length_reverse, srtR_len]; simp; omega
  have hylen : y.length = x.length := by rw [hu.split]; simp [hlenS]; omega
  have hdrop : (y.drop f).take (i - f) = (x.drop f).take (i - f) := by rw [hu.row, List.drop_append, hlenS, List.drop_of_length_le (by rw [hlenS]; omega)]; simp
  have htake : y.take f = srtN (x.take f) := by rw [hu.row, List.take_append_of_le_length (by omega), List.take_of_length_le (by omega)]
  have hdi : y.drop (f + (i - f)) = x.drop i := by
    rw [hu.row, List.drop_append, hlenS, List.drop_of_length_le (by rw [hlenS]; omega), List.nil_append, List.drop_drop]
    congr 1; omega
  obtain ⟨hH, hz⟩ := h.holds f (i - f) (by omega)
  rw [hdrop] at hH hz
  refine (sortStable_of g (f * 2) cap' (i - f) (fun N => sym_says _ _ _ _ (by omega) N) _ w hz hH h.lt (by omega)).mono ?_
  rintro e w' ⟨rfl, d', hD, hS, hM, hz'⟩
  have hp := h.sorted f (i - f) (by omega) hD hz'
  have hZ : d'.toList = srtN ((x.drop f).take (i - f)) := marks_one _ _ (hu.mid_marks hi) (srtd_list clsN (by rw [hz']; exact hS)) (fun k => by have := hM k; simpa using this)
  rw [htake, hZ, hdi] at hp
  exact ⟨rfl, hp.1, hp.2⟩

/-- no part at all -/
theorem sort_none (g cap : Nat) (y : List Int) (w : World) (h : PAt w g cap y) :
    Calls Tryd.prog 41 #[.slice (some ⟨g, 0, none⟩) 0 0, .func (.func 42) #[] #[]] w fun e w' => e = .returned (.tuple #[]) ∧ PAt w' g cap y ∧ w.grownBy w' (some g) := by
  obtain ⟨hH, hz⟩ := h.holds 0 0 (by omega)
  refine (sortStable_of g 0 0 0 (fun N => sym_says _ _ _ _ (by omega) N) _ w hz hH h.lt (by omega)).mono ?_
  rintro e w' ⟨rfl, d', hD, hS, hM, hz'⟩
  have hp := h.sorted 0 0 (by omega) hD hz'
  have e0 : d'.toList = [] := List.eq_nil_of_length_eq_zero (by simpa using hz')
  rw [e0] at hp
  exact ⟨rfl, by simpa using hp.1, hp.2⟩

set_option maxRecDepth 100000 in
set_option maxHeartbeats 400000 in
theorem orderMarks_any (g cap n : Nat) (x : List Int) (w : World) (h : PAt w g cap x) (hn : Hid (n = x.length)) (hnc : n ≤ cap) (hcap : cap ≤ 9223372036854775807) (hl : n ≤ 1099511627776) :
    Calls Tryd.prog 24 #[.slice (some ⟨g, 0, none⟩) n cap] w fun e w' => e = .returned (.tuple #[]) ∧ PAt w' g cap (srtN x) ∧ w.grownBy w' (some g) := by
  have HP : Hid (PAt w g cap x) := h
  clear h
  go_enter Tryd.func24, Tryd.ntmps24
  go_wp2
  go_loopw [2, 7] (fun vf vi wr => ∃ (i f : Nat) (y : List Int), i ≤ n ∧ f ≤ i ∧ vf = .int .i64 f ∧ vi = .int .i64 i ∧ Hid (PAt wr g cap y) ∧ Hid (Upto x i f y) ∧ Hid (w.grownBy wr (some g))) (fun _ vi _ => n - (intOf vi).toNat)
  case atStart => exact ⟨0, 0, x, by omega, by omega, rfl, rfl, HP, Upto.start x, (⟨rfl, rfl, rfl, Nat.le_refl _, fun _ _ _ => rfl⟩ : w.grownBy w (some g))⟩
  case round =>
    obtain ⟨i, f, y, hi, hfi, rfl, rfl, HA, HU, HG⟩ := hrel
    by_cases hlt : i < n
    · have hltz : (i : Int) < (n : Int) := by omega
      have hix : i < x.length := by have := hn.out; omega
      have hyi : y.getD i 0 = x.getD i 0 ∧ y.length = x.length := by
        have hlenS : (srtN (x.take f)).length = f := by unfold srtN; rw [List.length_reverse, srtR_len]; simp; omega
        rw [HU.out.row]
        constructor
        · simp only [List.getD]
          rw [List.getElem?_append_right (by omega), hlenS, List.getElem?_drop]
          congr 2; omega
        · simp [hlenS]; omega
      obtain ⟨l0, l1⟩ := HA.out.cells i (by omega)
      rw [hyi.1] at l0 l1
      have HMK : Hid (markB (x.getD i 0) ↔ 0 < clsN (x.getD i 0)) := Iff.rfl
      obtain ⟨k, HK⟩ : ∃ k, Hid (k = clsN (x.getD i 0)) := ⟨_, rfl⟩
      rw [← HK.out] at l1 HMK
      clear hyi
      have HXI : Hid (∃ z, x.getD i 0 = z) := ⟨_, rfl⟩
      by_cases hm : 0 < k
      · have HU2 : Hid (Upto x (i + 1) f y) := HU.out.mark (HMK.out.2 hm)
        have HA2 : Hid (∀ o, PAt (wr.alloc o) g cap y) := fun o => HA.out.below ((Below.refl _ _).alloc (Nat.le_refl _) _)
        have HG2 : Hid (∀ o, w.grownBy (wr.alloc o) (some g)) := fun o => ⟨HG.out.os, HG.out.tape, HG.out.output, by rw [hs_alloc]; exact Nat.le_succ_of_le HG.out.size, fun k hk hne => (Below.heap_alloc _ _ _ (Nat.lt_of_lt_of_le hk HG.out.size)).trans (HG.out.block k hk hne)⟩
        go_wp2
        go_roundw
        case rel => exact ⟨i + 1, f, y, by omega, by omega, rfl, by go_num, HA2.out _, HU2, HG2.out _⟩
        case measure => simp [intOf]; omega
      · have hm' : ¬ markB (x.getD i 0) := fun q => hm (HMK.out.1 q)
        have HU2 : Hid (Upto x (i + 1) (i + 1) (srtN (x.take f) ++ (srtN ((x.drop f).take (i - f)) ++ x.drop i))) := HU.out.letter hix hm' rfl
        have HA2 : Hid (∀ o, PAt (wr.alloc o) g cap y) := fun o => HA.out.below ((Below.refl _ _).alloc (Nat.le_refl _) _)
        have HG2 : Hid (∀ o, w.grownBy (wr.alloc o) (some g)) := fun o => ⟨HG.out.os, HG.out.tape, HG.out.output, by rw [hs_alloc]; exact Nat.le_succ_of_le HG.out.size, fun k hk hne => (Below.heap_alloc _ _ _ (Nat.lt_of_lt_of_le hk HG.out.size)).trans (HG.out.block k hk hne)⟩
        have HC : Hid (∀ o n' cap', n' = i - f → Calls Tryd.prog 41 #[.slice (some ⟨g, f * 2, none⟩) n' cap', .func (.func 42) #[] #[]] (wr.alloc o) fun e w' => e = .returned (.tuple #[]) ∧ PAt w' g cap (srtN (x.take f) ++ (srtN ((x.drop f).take (i - f)) ++ x.drop i)) ∧ (wr.alloc o).grownBy w' (some g)) := fun o n' cap' he => sort_part g cap x y f i HU.out (by omega) _ (HA2.out o) (by have := hn.out; omega) n' cap' he
        clear hm'
        go_wp2_with fail
        refine (HC.out _ _ _ rfl).mono ?_
        rintro _ w1 ⟨rfl, hA1, hG1⟩
        have HA1 : Hid (PAt w1 g cap (srtN (x.take f) ++ (srtN ((x.drop f).take (i - f)) ++ x.drop i))) := hA1
        have HG1 : Hid (w.grownBy w1 (some g)) := gbi_trans (HG2.out _) hG1
        clear hA1 hG1
        go_wp2
        go_roundw
        case rel => exact ⟨i + 1, i + 1, _, by omega, Nat.le_refl _, by go_num, by go_num, HA1, HU2, HG1⟩
        case measure => simp [intOf]; omega
    · obtain rfl : i = n := by omega
      have HC : Hid (∀ n' cap', n' = i - f → Calls Tryd.prog 41 #[.slice (some ⟨g, f * 2, none⟩) n' cap', .func (.func 42) #[] #[]] wr fun e w' => e = .returned (.tuple #[]) ∧ PAt w' g cap (srtN (x.take f) ++ (srtN ((x.drop f).take (i - f)) ++ x.drop i)) ∧ wr.grownBy w' (some g)) := fun n' cap' he => sort_part g cap x y f i HU.out (by have := hn.out; omega) _ HA.out (by have := hn.out; omega) n' cap' he
      have HE : Hid (srtN (x.take f) ++ (srtN ((x.drop f).take (i - f)) ++ x.drop i) = srtN x) := by
        show _ = _
        have hxi := hn.out
        have h1 : (x.drop f).take (i - f) = x.drop f := List.take_of_length_le (by simp; omega)
        have h2 : x.drop i = [] := List.drop_of_length_le (by omega)
        rw [h1, h2, List.append_nil]
        have hu := HU.out
        rw [hxi] at hu
        exact hu.last rfl
      by_cases hfc : f < cap
      · go_wp2_with fail
        refine (HC.out _ _ rfl).mono ?_
        rintro _ w1 ⟨rfl, hA1, hG1⟩
        rw [HE.out] at hA1
        have HA1 : Hid (PAt w1 g cap (srtN x)) := hA1
        have HG1 : Hid (w.grownBy w1 (some g)) := gbi_trans HG.out hG1
        clear hA1 hG1
        go_wp2
        go_end0
        exact ⟨rfl, HA1.out, HG1.out⟩
      · have HY : Hid (y = srtN x) := by
          show _ = _
          have hxi := hn.out
          rw [HU.out.row, List.take_of_length_le (by omega), List.drop_of_length_le (by omega), List.append_nil]
        have hC := sort_none g cap y wr HA.out
        have hif : i - f = 0 := by omega
        have hfc' : cap - f = 0 := by omega
        have hzz : (f : Int) = (cap : Int) := by omega
        clear HC
        go_wp2_with fail
        refine hC.mono ?_
        rintro _ w1 ⟨rfl, hA1, hG1⟩
        rw [HY.out] at hA1
        have HA1 : Hid (PAt w1 g cap (srtN x)) := hA1
        have HG1 : Hid (w.grownBy w1 (some g)) := gbi_trans HG.out hG1
        clear hA1 hG1
        go_wp2
        go_end0
        exact ⟨rfl, HA1.out, HG1.out⟩
end

section
open Go.RowKit

theorem takeI (l : List Int) (k : Nat) (h : k < l.length) : l.take (k + 1) = l.take k ++ [l.getD k 0] := by
  rw [List.take_add_one, List.getElem?_eq_getElem h]; simp [List.getD, h]

set_option maxRecDepth 100000 in
set_option maxHeartbeats 2000000 in
theorem iApart (v : Value) (l : List Int) (w : World) (hv : IntsAt w v l) (hl : l.length ≤ 1048576) :
    Calls Tryd.prog 9 #[v] w fun e w' => ∃ v', e = .returned v' ∧ IntRow w' w.heap.size v' (apartN l) ∧ Below w.heap.size w w' := by
  obtain ⟨i0, hi, hz0, hz1, hz2⟩ := info_parts Tryd.infoInt
  have hT := takeApart_any v l w hv hl
  have hTL := takes_len l
  have HA : Hid (apartN l = srtN (l.flatMap takeN)) := rfl
  generalize apartN l = ap at HA ⊢
  generalize l.flatMap takeN = x at *
  obtain ⟨ad, cp, rfl, _⟩ := hv
  go_enter Tryd.func9, Tryd.ntmps9
  go_wp2_with fail
  refine hT.mono ?_
  rintro _ w1 ⟨g, n, c, rfl, hr1, hb1⟩
  obtain ⟨hp1, hnx, hbg, hnc⟩ := hr1.at
  have HN : Hid (n = x.length) := hnx
  have hcm : c ≤ 9223372036854775807 := by
    rcases hr1.2 with ⟨e, _⟩ | ⟨_, _, _, e, _, _, _, hcp, _⟩
    · cases e
    · cases e; unfold maxLen at hcp; omega
  have hn9 : n ≤ 9437184 := by omega
  have hO := orderMarks_any g c n x w1 hp1 HN hnc hcm (by omega)
  clear hT hr1 hp1 hnx
  go_wp2_with fail
  refine hO.mono ?_
  rintro _ w2 ⟨rfl, hp2, hg2⟩
  have HP2 : Hid (PAt w2 g c (srtN x)) := hp2
  have hb2 : Below w.heap.size w w2 := hb1.trans ⟨hg2.os, hg2.tape, hg2.output, hg2.size, fun k hk => hg2.block k (Nat.lt_of_lt_of_le hk hb1.size) (fun e => by cases e; omega)⟩
  have HB2 : Hid (Below w.heap.size w w2) := hb2
  have hsx : (srtN x).length = n := by unfold srtN; rw [List.length_reverse, srtR_len, HN.out]; simp
  rw [← HA.out] at HP2 hsx
  clear hO hp2 hg2 hb2 HA
  go_wp2_with (at_make; refine wpList_make_own _ rfl _ _ 24 rfl w2.heap.size 3 i0 (.int .i64 0) 1 Tryd.underlying24 hi hz0 hz1 .i64 .i64 _ n rfl rfl (by omega) (by rw [hz2]; omega) (by unfold maxLen; omega) (Nat.le_refl _) ?_; intro w3 hown3 hgrow3)
  have hb3 : Below w2.heap.size w2 w3 := (Below.refl _ _).grown hgrow3 (Nat.le_refl _) (fun _ h => by cases h)
  clear hgrow3 hi hz0 hz1 hz2
  go_loopw [4, 16] (fun u i wr => ∃ k : Nat, k ≤ n ∧ i = .int .i64 k ∧ IntRow wr w2.heap.size u (ap.take k) ∧ Below w2.heap.size w2 wr) (fun _ i _ => n - (intOf i).toNat)
  case atStart => exact ⟨0, Nat.zero_le _, rfl, by simpa [IntRow, intsV] using hown3, hb3⟩
  case round =>
    obtain ⟨k, hk, rfl, hrow, hbel⟩ := hrel
    by_cases hlt : k < n
    · have hltz : (k : Int) < (n : Int) := by omega
      have hkl : k < ap.length := by omega
      obtain ⟨l0, l1⟩ := (HP2.out.below hbel).cells k hkl
      have HT : Hid (ap.take (k + 1) = ap.take k ++ [ap.getD k 0]) := takeI ap k hkl
      have hlen : (ap.take k).length + 1 ≤ 1099511627776 := by rw [List.length_take]; omega
      obtain ⟨y, HY⟩ : ∃ y, Hid (y = ap.getD k 0) := ⟨_, rfl⟩
      rw [← HY.out] at l0 l1 HT
      generalize clsN y = q at *
      have hrA := fun o => World.ownsRow.alloc hrow o
      have hbA := fun o => hbel.alloc hbel.size o
      have hsz : ∀ o, w2.heap.size ≤ (wr.alloc o).heap.size := fun o => (hbA o).size
      go_wp2_with (at_builtin; refine append_int (wr.alloc (.cells #[.int .i64 y, .int .i64 q] 47)) rfl (.tmp 20) (.tmp 23) rfl w2.heap.size _ _ y hlen (hrA _) rfl (by rw [hs_alloc]; rfl) (hsz _) ?_; intro v' w4 hrow4 hbel4)
      have HB4 := (hbA _).trans hbel4
      go_wp2
      go_roundw
      case rel => exact ⟨k + 1, by omega, by go_num, by rw [HT.out]; exact hrow4, HB4⟩
      case measure => simp [intOf]; omega
    · obtain rfl : k = n := by omega
      have hrow' : IntRow wr w2.heap.size u4 ap := by rw [List.take_of_length_le (by omega)] at hrow; exact hrow
      have hz := HB2.out.size
      go_wp2
      go_ret
      exact ⟨_, rfl, hrow'.mono hz, HB2.out.trans (hbel.mono hz)⟩
end

section
open Go.RowKit

theorem foldN_nn (c : Int) : foldN c ≠ [] ∧ (foldN c).length ≤ 2 := by
  unfold foldN
  split
  · simp
  · split
    · simp
    · split <;> simp
theorem folds_len (l : List Int) : (foldsN l).length ≤ 2 * l.length := by
  unfold foldsN
  induction l with
  | nil => simp
  | cons c l ih => rw [List.flatMap_cons, List.length_append, List.length_cons]; have := (foldN_nn c).2; omega

set_option maxRecDepth 100000 in
set_option maxHeartbeats 2000000 in
theorem iFold (v : Value) (l : List Int) (w : World) (hv : IntsAt w v l) (hl : l.length ≤ 16777216) :
    Calls Tryd.prog 48 #[v] w fun e w' => ∃ v', e = .returned v' ∧ IntRow w' w.heap.size v' (foldsN l) ∧ Below w.heap.size w w' := by
  obtain ⟨i0, hi, hz0, hz1, hz2⟩ := info_parts Tryd.infoInt
  obtain ⟨ad, cp, rfl, hc⟩ := hv
  have HC : Hid (∀ t, t < l.length → ∃ b off, ad = some ⟨b, off, none⟩ ∧ b < w.heap.size ∧ w.cell? ⟨b, off + t, none⟩ = some (.int .i64 (l.getD t 0))) := hc
  have hTL := folds_len
  have HA : Hid (foldsN l = l.flatMap foldN) := rfl
  obtain ⟨n, HN⟩ : ∃ n, Hid (n = l.length) := ⟨_, rfl⟩
  rw [← HN.out] at hl ⊢
  clear hc
  go_enter Tryd.func48, Tryd.ntmps48
  go_wp2_with (at_make; refine wpList_make_own _ rfl _ _ 24 rfl w.heap.size 3 i0 (.int .i64 0) 1 Tryd.underlying24 hi hz0 hz1 .i64 .i64 _ n rfl rfl (by omega) (by rw [hz2]; omega) (by unfold maxLen; omega) (Nat.le_refl _) ?_; intro w3 hown3 hgrow3)
  have hb3 : Below w.heap.size w w3 := (Below.refl _ _).grown hgrow3 (Nat.le_refl _) (fun _ h => by cases h)
  clear hgrow3 hi hz0 hz1 hz2
  go_loopw [3, 11] (fun u i wr => ∃ k : Nat, k ≤ n ∧ i = .int .i64 k ∧ IntRow wr w.heap.size u ((l.take k).flatMap foldN) ∧ Below w.heap.size w wr) (fun _ i _ => n - (intOf i).toNat)
  case atStart => exact ⟨0, Nat.zero_le _, rfl, by simpa [IntRow, intsV] using hown3, hb3⟩
  case round =>
    obtain ⟨k, hk, rfl, hrow, hbel⟩ := hrel
    by_cases hlt : k < n
    · have hltz : (k : Int) < (n : Int) := by omega
      have hkl : k < l.length := by have := HN.out; omega
      obtain ⟨b1, o1, rfl, hb1, hc1⟩ := HC.out k hkl
      have hc2 : wr.cell? ⟨b1, o1 + k, none⟩ = some (.int .i64 (l.getD k 0)) := (hbel.cell (p := ⟨b1, o1 + k, none⟩) hb1).trans hc1
      have HT : Hid ((l.take (k + 1)).flatMap foldN = (l.take k).flatMap foldN ++ foldN (l.getD k 0)) := flatMap_take l foldN k hkl
      have hFO := fun w' => iFoldOf (l.getD k 0) w'
      have hne := foldN_nn (l.getD k 0)
      have hlen : ((l.take k).flatMap foldN).length ≤ 33554432 := by have h1 := hTL (l.take k); rw [List.length_take] at h1; unfold foldsN at h1; omega
      clear hc1 HC
      generalize l.getD k 0 = x at *
      generalize foldN x = fx at *
      go_wp2_with (first | (go_at_call 63; refine (hFO _).mono ?_; rintro e w1 ⟨u1, rfl, hr1, hb4⟩; have hrow1 := hrow.below hb4; have hbel1 := hbel.trans (hb4.mono hbel.size)) | (at_builtin; refine append_ints w1 rfl (.tmp 15) (.tmp 17) rfl w.heap.size _ _ _ fx hne.1 (by omega) hrow1 hr1.at rfl rfl hbel1.size ?_; intro v' w4 hrow4 hbel4))
      have HB4 := hbel1.trans hbel4
      go_roundw
      case rel => exact ⟨k + 1, by omega, by go_num, by rw [HT.out]; exact hrow4, HB4⟩
      case measure => simp [intOf]; omega
    · obtain rfl : k = n := by omega
      have hrow' : IntRow wr w.heap.size u3 (foldsN l) := by rw [HA.out]; rw [HN.out, List.take_of_length_le (Nat.le_refl _)] at hrow; exact hrow
      go_wp2
      go_ret
      exact ⟨_, rfl, hrow', hbel⟩
end

end Go.Proofs.YtkgnlamlmnhleaaDoor
