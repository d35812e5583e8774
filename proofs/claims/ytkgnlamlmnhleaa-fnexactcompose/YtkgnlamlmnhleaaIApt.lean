/- Names: impl.Apart and impl.Fold: their contracts. -/
import Derived.Test.YtkgnlamlmnhleaaRows
import Derived.Test.YtkgnlamlmnhleaaOma
import Derived.Test.YtkgnlamlmnhleaaApt
namespace Go.Proofs.Ytkgnlamlmnhleaa
open Go.RowKit

theorem takeI (l : List Int) (k : Nat) (h : k < l.length) : l.take (k + 1) = l.take k ++ [l.getD k 0] := by
  rw [List.take_add_one, List.getElem?_eq_getElem h]; simp [List.getD, h]

set_option maxRecDepth 100000 in
set_option maxHeartbeats 2000000 in
theorem iApart (v : Value) (l : List Int) (w : World) (hv : IntsAt w v l) (hl : l.length ≤ 1048576) :
    Calls Try.prog 32 #[v] w fun e w' => ∃ v', e = .returned v' ∧ IntRow w' w.heap.size v' (apartN l) ∧ Below w.heap.size w w' := by
  obtain ⟨i0, hi, hz0, hz1, hz2⟩ := info_parts Try.infoInt
  have hT := takeApart_any v l w hv hl
  have hTL := takes_len l
  have HA : Hid (apartN l = srtN (l.flatMap takeN)) := rfl
  generalize apartN l = ap at HA ⊢
  generalize l.flatMap takeN = x at *
  obtain ⟨ad, cp, rfl, _⟩ := hv
  go_enter Try.func32, Try.ntmps32
  go_wp2_with fail
  refine hT.mono ?_
  rintro _ w1 ⟨g, n, c, rfl, hr1, hb1⟩
  obtain ⟨hp1, hnx, hbg, hnc⟩ := hr1.at
  have HN : Hid (n = x.length) := hnx
  have hcm : c ≤ 9223372036854775807 := by
    rcases hr1.2 with ⟨e, _⟩ | ⟨_, _, _, e, _, _, _, hcp, _⟩
    · cases e
    · cases e; unfold maxLen at hcp; omega
  have hn9 : n ≤ 9437184 := by omega
  have hO := orderMarks_any g c n x w1 hp1 HN hnc hcm (by omega)
  clear hT hr1 hp1 hnx
  go_wp2_with fail
  refine hO.mono ?_
  rintro _ w2 ⟨rfl, hp2, hg2⟩
  have HP2 : Hid (PAt w2 g c (srtN x)) := hp2
  have hb2 : Below w.heap.size w w2 := hb1.trans ⟨hg2.os, hg2.tape, hg2.output, hg2.size, fun k hk => hg2.block k (Nat.lt_of_lt_of_le hk hb1.size) (fun e => by cases e; omega)⟩
  have HB2 : Hid (Below w.heap.size w w2) := hb2
  have hsx : (srtN x).length = n := by unfold srtN; rw [List.length_reverse, srtR_len, HN.out]; simp
  rw [← HA.out] at HP2 hsx
  clear hO hp2 hg2 hb2 HA
  go_wp2_with (at_make; refine wpList_make_own _ rfl _ _ 24 rfl w2.heap.size 3 i0 (.int .i64 0) 1 Try.underlying24 hi hz0 hz1 .i64 .i64 _ n rfl rfl (by omega) (by rw [hz2]; omega) (by unfold maxLen; omega) (Nat.le_refl _) ?_; intro w3 hown3 hgrow3)
  have hb3 : Below w2.heap.size w2 w3 := (Below.refl _ _).grown hgrow3 (Nat.le_refl _) (fun _ h => by cases h)
  clear hgrow3 hi hz0 hz1 hz2
  go_loopw [4, 16] (fun u i wr => ∃ k : Nat, k ≤ n ∧ i = .int .i64 k ∧ IntRow wr w2.heap.size u (ap.take k) ∧ Below w2.heap.size w2 wr) (fun _ i _ => n - (intOf i).toNat)
  case atStart => exact ⟨0, Nat.zero_le _, rfl, by simpa [IntRow, intsV] using hown3, hb3⟩
  case round =>
    obtain ⟨k, hk, rfl, hrow, hbel⟩ := hrel
    by_cases hlt : k < n
    · have hltz : (k : Int) < (n : Int) := by omega
      have hkl : k < ap.length := by omega
      obtain ⟨l0, l1⟩ := (HP2.out.below hbel).cells k hkl
      have HT : Hid (ap.take (k + 1) = ap.take k ++ [ap.getD k 0]) := takeI ap k hkl
      have hlen : (ap.take k).length + 1 ≤ 1099511627776 := by rw [List.length_take]; omega
      obtain ⟨y, HY⟩ : ∃ y, Hid (y = ap.getD k 0) := ⟨_, rfl⟩
      rw [← HY.out] at l0 l1 HT
      generalize clsN y = q at *
      have hrA := fun o => World.ownsRow.alloc hrow o
      have hbA := fun o => hbel.alloc hbel.size o
      have hsz : ∀ o, w2.heap.size ≤ (wr.alloc o).heap.size := fun o => (hbA o).size
      go_wp2_with (at_builtin; refine append_int (wr.alloc (.cells #[.int .i64 y, .int .i64 q] 60)) rfl (.tmp 20) (.tmp 23) rfl w2.heap.size _ _ y hlen (hrA _) rfl (by rw [hs_alloc]; rfl) (hsz _) ?_; intro v' w4 hrow4 hbel4)
      have HB4 := (hbA _).trans hbel4
      go_wp2
      go_roundw
      case rel => exact ⟨k + 1, by omega, by go_num, by rw [HT.out]; exact hrow4, HB4⟩
      case measure => simp [intOf]; omega
    · obtain rfl : k = n := by omega
      have hrow' : IntRow wr w2.heap.size u4 ap := by rw [List.take_of_length_le (by omega)] at hrow; exact hrow
      have hz := HB2.out.size
      go_wp2
      go_ret
      exact ⟨_, rfl, hrow'.mono hz, HB2.out.trans (hbel.mono hz)⟩

end Go.Proofs.Ytkgnlamlmnhleaa
