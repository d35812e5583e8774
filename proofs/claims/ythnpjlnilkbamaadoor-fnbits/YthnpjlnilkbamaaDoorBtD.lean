/- A bitmap: spec.l15Bits, DrawSetRun and DrawFindRun, weak: some flags, 24 or 23 of them. -/
import Derived.Test.YthnpjlnilkbamaaDoorRows
import Derived.Test.YthnpjlnilkbamaaDoorBoL
import Derived.Test.YthnpjlnilkbamaaDoorDr1
import Derived.Test.YthnpjlnilkbamaaDoorDr2
namespace Go.Proofs.YthnpjlnilkbamaaDoor
open Go.RowKit Go.Sort

structure BsSt (S : Src) (p : Nat) (w : World) (g : Nat) (L : List Bool) (s : Nat × Int) (wr : World) : Prop where
  c : At S p s wr
  row : wr.ownsRow w.heap.size 4 1 (.slice (some ⟨g, 0, none⟩) 24 24) 24 (flatBo L)
  len : L.length = 24
  gb : w.grownBy wr (some p)
  hp : p < w.heap.size
theorem BsSt.hg {S : Src} {p : Nat} {w : World} {g : Nat} {L : List Bool} {s : Nat × Int} {wr : World} (h : BsSt S p w g L s wr) : w.heap.size ≤ g := (World.ownsRow.lt h.row g rfl).1
theorem BsSt.cur {S : Src} {p : Nat} {w : World} {g : Nat} {L : List Bool} {s s' : Nat × Int} {wr wr' : World} (h : BsSt S p w g L s wr) (c : At S p s' wr') (gb : wr.grownBy wr' (some p)) : BsSt S p w g L s' wr' :=
  ⟨c, ownsRow_gb h.row gb h.hp, h.len, gb_trans h.gb gb, h.hp⟩
theorem BsSt.below {S : Src} {p : Nat} {w : World} {g : Nat} {L : List Bool} {s : Nat × Int} {wr wr' : World} (h : BsSt S p w g L s wr) (b : Below wr.heap.size wr wr') : BsSt S p w g L s wr' :=
  ⟨h.c.below (b.mono h.c.size), ownBo_below h.row b, h.len, gb_trans h.gb ⟨b.os, b.tape, b.output, b.size, fun k hk _ => b.block k hk⟩, h.hp⟩
theorem BsSt.set {S : Src} {p : Nat} {w : World} {g : Nat} {L : List Bool} {s : Nat × Int} {wr : World} (h : BsSt S p w g L s wr) (j : Nat) (hj : j < 24) (x : Bool) : BsSt S p w g (L.set j x) s (wr.setCell ⟨g, j, none⟩ (.bool x)) := by
  have hst := (h.row.stored j (.bool x)).1
  have e := flatBo_put L j x (by rw [h.len]; exact hj)
  rw [Nat.mul_one] at e
  rw [e] at hst
  have B : Below w.heap.size wr (wr.setCell ⟨g, j, none⟩ (.bool x)) := (Below.refl _ _).setCell h.hg _
  exact ⟨h.c.below (B.mono h.hp), hst, by rw [List.length_set]; exact h.len, gb_below h.gb B, h.hp⟩
theorem BsSt.at {S : Src} {p : Nat} {w : World} {g : Nat} {L : List Bool} {s : Nat × Int} {wr : World} (h : BsSt S p w g L s wr) (n : Nat) (hn : n ≤ 24) : BosAt wr (.slice (some ⟨g, 0, none⟩) n 24) (L.take n) := by
  have hl : (L.take n).length = n := by rw [List.length_take, h.len]; omega
  have hr : BoRow wr w.heap.size (.slice (some ⟨g, 0, none⟩) 24 24) L := by unfold BoRow; rw [h.len]; exact h.row
  obtain ⟨a, cap, e, -, hc⟩ := hr.at
  rw [h.len] at e
  cases e
  refine ⟨some ⟨g, 0, none⟩, 24, by rw [hl], fun h => (by cases h), fun t ht => ?_⟩
  rw [hl] at ht
  obtain ⟨b, off, e, h2, h3⟩ := hc t (by rw [h.len]; omega)
  cases e
  refine ⟨g, 0, rfl, h2, ?_⟩
  have e2 : (L.take n)[t]! = L[t]! := by
    rw [getElem!_pos _ t (by rw [hl]; exact ht), getElem!_pos L t (by rw [h.len]; omega)]
    simp
  rw [e2]; exact h3
theorem BsSt.cells {S : Src} {p : Nat} {w : World} {g : Nat} {L : List Bool} {s : Nat × Int} {wr : World} (h : BsSt S p w g L s wr) (j : Nat) (hj : j < 24) : (∃ u, wr.cell? ⟨g, j, none⟩ = some u) ∧ wr.frozen? ⟨g, j, none⟩ = false := rowBo_cells h.row j (by omega)
def SaysBs (S : Src) (p : Nat) (w : World) (e : Ending) (w' : World) : Prop := ∃ g L n s', e = .returned (.slice (some ⟨g, 0, none⟩) n 24) ∧ (n = 24 ∨ n = 23) ∧ BsSt S p w g L s' w'

set_option maxRecDepth 100000 in
set_option maxHeartbeats 2000000 in
theorem l15Bits_any (S : Src) (ok : S.ok) (p : Nat) (s : Nat × Int) (w : World) (c : At S p s w) :
    Calls Tryd.prog 27 #[.pointer (some ⟨p, 0, none⟩)] w fun e w' => SaysBs S p w e w' := by
  have hp := c.size
  obtain ⟨i0, hi, hz0, hz1, hz2⟩ := info_parts Tryd.infoBo
  go_enter Tryd.func27, Tryd.ntmps27
  go_wp2_with (at_make; refine wpList_make_full _ rfl _ _ 24 rfl w.heap.size 4 i0 (.bool false) 1 Tryd.underlying24 hi hz0 hz1 .i64 .i64 _ _ 24 rfl rfl rfl rfl (by rw [hz2]; omega) (by unfold maxLen; omega) (Nat.le_refl _) ?_; intro w1 hown1 hgrow1)
  have hown2 : w1.ownsRow w.heap.size 4 1 (.slice (some ⟨w.heap.size, 0, none⟩) 24 24) 24 (flatBo (List.replicate 24 false)) := by
    rw [flatBo_rep, ← toList_madeCells_one]; simpa [Value.cells] using hown1
  have B1 : Below w.heap.size w w1 := (Below.refl _ _).grown hgrow1 (Nat.le_refl _) (fun _ h => by cases h)
  have ST1 : BsSt S p w w.heap.size (List.replicate 24 false) s w1 := ⟨c.below (B1.mono hp), hown2, by simp, ⟨B1.os, B1.tape, B1.output, B1.size, fun k hk _ => B1.block k hk⟩, hp⟩
  clear hown1 hown2 hgrow1 B1
  have hx := bX_bd S 5 s (by decide)
  go_wp2_with fail
  refine (below_any S ok 5 p s _ ST1.c).mono ?_
  rintro e w2 ⟨rfl, c2, g2⟩
  have ST2 := ST1.cur c2 g2
  generalize bX S 5 s = x at *
  generalize bS S 5 s = s2 at *
  have hw : IntKind.i64.wrap (1 + x) = 1 + x := by rw [IntKind.wrap_i64]; omega
  have HST2 : Hid (BsSt S p w w.heap.size (List.replicate 24 false) s2 w2) := ST2
  clear ST1 ST2 c2 g2
  generalize List.replicate 24 false = L0 at *
  go_wp2
  go_loopw [5] (fun iv wr => ∃ (k : Nat) (L : List Bool) (s' : Nat × Int), k ≤ 24 ∧ iv = .int .i64 k ∧ Hid (BsSt S p w w.heap.size L s' wr)) (fun iv _ => 24 - (intOf iv).toNat)
  case atStart => exact ⟨0, L0, s2, by omega, rfl, HST2⟩
  case round =>
    obtain ⟨k, L, s', hk, rfl, HST⟩ := hrel
    have ST := HST.out
    clear HST2 HST
    by_cases hlt : k < 24
    · go_wp2_with fail
      refine (once_any S ok (1 + x) p s' _ ST.c).mono ?_
      rintro e w3 ⟨rfl, c3, g3⟩
      have ST3 := ST.cur c3 g3
      generalize (bX S (1 + x) s' == 0) = o at *
      generalize bS S (1 + x) s' = s3 at *
      obtain ⟨⟨u0, d0⟩, f0⟩ := ST3.cells k hlt
      have HS4 : Hid (BsSt S p w w.heap.size (L.set k o) s3 (w3.setCell ⟨w.heap.size, k, none⟩ (.bool o))) := ST3.set k hlt o
      have hkn : (k : Int) < 24 := by omega
      have hk0 : (0 : Int) ≤ (k : Int) := by omega
      clear ST ST3 c3 g3
      go_wp2
      go_roundw
      case rel => exact ⟨k + 1, _, s3, by omega, by go_num, HS4⟩
      case measure => simp [intOf]; omega
    · obtain rfl : k = 24 := by omega
      go_wp2_with fail
      refine (once_any S ok 12 p s' _ ST.c).mono ?_
      rintro e w3 ⟨rfl, c3, g3⟩
      have ST3 : Hid (BsSt S p w w.heap.size L (bS S 12 s') w3) := ST.cur c3 g3
      generalize (bX S 12 s' == 0) = o at *
      generalize bS S 12 s' = s3 at *
      clear ST c3 g3
      cases o with
      | false =>
        go_wp2
        go_ret
        exact ⟨_, L, 24, s3, rfl, .inl rfl, ST3.out⟩
      | true =>
        go_wp2
        go_ret
        exact ⟨_, L, 23, s3, rfl, .inr rfl, ST3.out⟩

set_option maxRecDepth 100000 in
set_option maxHeartbeats 2000000 in
theorem drawFindRun_any (S : Src) (ok : S.ok) (w : World) (hl : Lies S w) :
    Calls Tryd.prog 13 #[.slice S.a S.len S.cap] w fun e w' => ∃ u b n, e = .returned (.tuple #[u, .int .i64 n]) ∧ BosAt w' u b ∧ b.length ≤ 24 ∧ Below w.heap.size w w' := by
  go_enter Tryd.func13, Tryd.ntmps13
  go_wp2_with fail
  refine (new_any S ok w hl).mono ?_
  rintro e w1 ⟨rfl, c1, b1⟩
  have hp1 := c1.size
  have BX := below_lit w1 (.cells #[.int .i64 1, .int .i64 2, .int .i64 3, .int .i64 5, .int .i64 24, .int .i64 25, .int .i64 0, .int .i64 (-1)] 3)
  have c2 := c1.below (BX.mono hp1)
  have hb2 := heap_new w1 (.cells #[.int .i64 1, .int .i64 2, .int .i64 3, .int .i64 5, .int .i64 24, .int .i64 25, .int .i64 0, .int .i64 (-1)] 3)
  go_wp2_with fail
  refine (pick_any S ok [1, 2, 3, 5, 24, 25, 0, -1] 8 rfl w1.heap.size 3 w.heap.size _ _ c2 (by decide) (by decide) (by omega) hb2).mono ?_
  rintro e w3 ⟨rfl, c3, g3⟩
  have B3 := b1.trans ((BX.mono b1.size).trans (below_gb g3 (Nat.le_refl w.heap.size) (by have := BX.size; omega)))
  generalize pX S [1, 2, 3, 5, 24, 25, 0, -1] (s0 S) = y at *
  generalize bS S ([1, 2, 3, 5, 24, 25, 0, -1] : List Int).length (s0 S) = s3 at *
  clear c2 hb2 BX g3 c1 b1
  go_wp2_with fail
  refine (l15Bits_any S ok _ s3 w3 c3).mono ?_
  rintro e w4 ⟨g, L, n, s4, rfl, hn, ST⟩
  have h4 := ST.at n (by omega)
  have h4l : (L.take n).length ≤ 24 := by rw [List.length_take, ST.len]; omega
  have B4 := B3.trans (below_gb ST.gb (Nat.le_refl w.heap.size) c3.size)
  clear ST
  go_wp2
  refine bodyPost_ret (v := .tuple #[.slice (some ⟨g, 0, none⟩) n 24, .int .i64 y]) (by simp [results, Tryd.results13, go_sem]) rfl ⟨_, _, _, rfl, h4, h4l, B4⟩

def SaysDs (w : World) (e : Ending) (w' : World) : Prop := ∃ u b q n x, e = .returned (.tuple #[u, .int .i64 q, .int .i64 n, .bool x]) ∧ BosAt w' u b ∧ b.length ≤ 24 ∧ Below w.heap.size w w'

set_option maxRecDepth 100000 in
set_option maxHeartbeats 4000000 in
theorem drawSetRun_any (S : Src) (ok : S.ok) (w : World) (hl : Lies S w) :
    Calls Tryd.prog 7 #[.slice S.a S.len S.cap] w fun e w' => SaysDs w e w' := by
  go_enter Tryd.func7, Tryd.ntmps7
  go_wp2_with fail
  refine (new_any S ok w hl).mono ?_
  rintro e w1 ⟨rfl, c1, b1⟩
  have hp1 := c1.size
  have BX := below_lit w1 (.cells #[.int .i64 (-1), .int .i64 0, .int .i64 1, .int .i64 5, .int .i64 12, .int .i64 20, .int .i64 23, .int .i64 24, .int .i64 9223372036854775807] 3)
  have c2 := c1.below (BX.mono hp1)
  have hb2 := heap_new w1 (.cells #[.int .i64 (-1), .int .i64 0, .int .i64 1, .int .i64 5, .int .i64 12, .int .i64 20, .int .i64 23, .int .i64 24, .int .i64 9223372036854775807] 3)
  go_wp2_with fail
  refine (pick_any S ok [-1, 0, 1, 5, 12, 20, 23, 24, 9223372036854775807] 9 rfl w1.heap.size 3 w.heap.size _ _ c2 (by decide) (by decide) (by omega) hb2).mono ?_
  rintro e w3 ⟨rfl, c3, g3⟩
  have B3 := b1.trans ((BX.mono b1.size).trans (below_gb g3 (Nat.le_refl w.heap.size) (by have := BX.size; omega)))
  generalize pX S [-1, 0, 1, 5, 12, 20, 23, 24, 9223372036854775807] (s0 S) = q at *
  generalize bS S ([-1, 0, 1, 5, 12, 20, 23, 24, 9223372036854775807] : List Int).length (s0 S) = s3 at *
  clear c2 hb2 BX g3 c1 b1 hp1
  have hp3 := c3.size
  have BY := below_lit w3 (.cells #[.int .i64 0, .int .i64 1, .int .i64 1, .int .i64 2, .int .i64 3, .int .i64 4, .int .i64 24, .int .i64 9223372036854775807] 3)
  have c4 := c3.below (BY.mono hp3)
  have hb4 := heap_new w3 (.cells #[.int .i64 0, .int .i64 1, .int .i64 1, .int .i64 2, .int .i64 3, .int .i64 4, .int .i64 24, .int .i64 9223372036854775807] 3)
  go_wp2_with fail
  refine (pick_any S ok [0, 1, 1, 2, 3, 4, 24, 9223372036854775807] 8 rfl w3.heap.size 3 w.heap.size _ _ c4 (by decide) (by decide) (by omega) hb4).mono ?_
  rintro e w5 ⟨rfl, c5, g5⟩
  have B5 := B3.trans ((BY.mono B3.size).trans (below_gb g5 (Nat.le_refl w.heap.size) (by have := BY.size; omega)))
  generalize pX S [0, 1, 1, 2, 3, 4, 24, 9223372036854775807] s3 = n at *
  generalize bS S ([0, 1, 1, 2, 3, 4, 24, 9223372036854775807] : List Int).length s3 = s5 at *
  clear c3 c4 hb4 BY g5 B3 hp3
  go_wp2_with fail
  refine (once_any S ok 2 _ s5 _ c5).mono ?_
  rintro e w6 ⟨rfl, c6, g6⟩
  have B6 := B5.trans (below_gb g6 (Nat.le_refl w.heap.size) c5.size)
  generalize (bX S 2 s5 == 0) = x at *
  generalize bS S 2 s5 = s6 at *
  clear c5 g6 B5
  go_wp2_with fail
  refine (l15Bits_any S ok _ s6 w6 c6).mono ?_
  rintro e w7 ⟨g, L, m, s7, rfl, hm, ST⟩
  have z6 := c6.size
  clear c6
  go_wp2_with fail
  refine (once_any S ok 2 _ s7 _ ST.c).mono ?_
  rintro e w8 ⟨rfl, c8, g8⟩
  have ST8 := ST.cur c8 g8
  generalize (bX S 2 s7 == 0) = o at *
  generalize bS S 2 s7 = s8 at *
  clear ST c8 g8
  have HFIN : Hid (∀ L' s' w', BsSt S w.heap.size w6 g L' s' w' → SaysDs w (.returned (.tuple #[.slice (some ⟨g, 0, none⟩) m 24, .int .i64 q, .int .i64 n, .bool x])) w') := fun L' s' w' h =>
    ⟨_, _, q, n, x, rfl, h.at m (by omega), by rw [List.length_take, h.len]; omega, B6.trans (below_gb h.gb (Nat.le_refl w.heap.size) z6)⟩
  by_cases hgo : o = true ∧ m = 24 ∧ 0 ≤ q ∧ q < 20
  · obtain ⟨rfl, rfl, hq0, hq1⟩ := hgo
    obtain ⟨a, rfl⟩ := Int.eq_ofNat_of_zero_le hq0
    have hw4 : IntKind.i64.wrap ((a : Int) + 4) = (a : Int) + 4 := by rw [IntKind.wrap_i64]; omega
    have HS8 : Hid (BsSt S w.heap.size w6 g L s8 w8) := ST8
    have d1 : decide (0 ≤ (a : Int)) = true := decide_eq_true (by omega)
    have d2 : decide ((a : Int) < 20) = true := decide_eq_true hq1
    clear ST8 hq0
    go_wp2
    go_loopw [11] (fun iv wr => ∃ (k : Nat) (L' : List Bool), k ≤ 4 ∧ iv = .int .i64 ((a : Int) + (k : Int)) ∧ Hid (BsSt S w.heap.size w6 g L' s8 wr)) (fun iv _ => a + 4 - (intOf iv).toNat)
    case atStart => exact ⟨0, L, by omega, by simp, HS8⟩
    case round =>
      obtain ⟨k, L', hk, rfl, HST⟩ := hrel
      have ST := HST.out
      by_cases hlt : k < 4
      · obtain ⟨⟨u0, d0⟩, f0⟩ := ST.cells (a + k) (by omega)
        have HS4 : Hid (BsSt S w.heap.size w6 g (L'.set (a + k) (!x)) s8 (wr.setCell ⟨g, a + k, none⟩ (.bool (!x)))) := ST.set (a + k) (by omega) (!x)
        obtain ⟨i, HI⟩ : ∃ i, Hid (i = a + k) := ⟨_, rfl⟩
        have hi0 : (a : Int) + (k : Int) = (i : Int) := by have := HI.out; omega
        rw [← HI.out] at d0 f0 HS4
        rw [hi0]
        have hi24 : (i : Int) < 24 := by omega
        have hin0 : (0 : Int) ≤ (i : Int) := by omega
        have him : (i : Int) < (a : Int) + 4 := by omega
        have hwi : IntKind.i64.wrap ((i : Int) + 1) = (i : Int) + 1 := by rw [IntKind.wrap_i64]; omega
        clear ST HST HS8
        go_wp2
        go_roundw
        case rel => exact ⟨k + 1, _, by omega, by rw [show (a : Int) + ((k + 1 : Nat) : Int) = (i : Int) + 1 by omega], HS4⟩
        case measure => simp [intOf]; omega
      · obtain rfl : k = 4 := by omega
        have hf := HFIN.out _ _ _ ST
        clear ST HS8
        go_wp2
        exact bodyPost_ret (v := .tuple #[.slice (some ⟨g, 0, none⟩) 24 24, .int .i64 a, .int .i64 n, .bool x]) (by simp [results, Tryd.results7, go_sem]) rfl hf
  · have hf := HFIN.out _ _ _ ST8
    clear ST8 HFIN
    cases o with
    | false =>
      go_wp2
      exact bodyPost_ret (v := .tuple #[.slice (some ⟨g, 0, none⟩) m 24, .int .i64 q, .int .i64 n, .bool x]) (by simp [results, Tryd.results7, go_sem]) rfl hf
    | true =>
      rcases hm with rfl | rfl
      · by_cases hq0 : 0 ≤ q
        · have d1 : decide (0 ≤ q) = true := decide_eq_true hq0
          have hq1 : ¬ q < 20 := fun h => hgo ⟨rfl, rfl, hq0, h⟩
          have d2 : decide (q < 20) = false := decide_eq_false hq1
          go_wp2
          exact bodyPost_ret (v := .tuple #[.slice (some ⟨g, 0, none⟩) 24 24, .int .i64 q, .int .i64 n, .bool x]) (by simp [results, Tryd.results7, go_sem]) rfl hf
        · have d1 : decide (0 ≤ q) = false := decide_eq_false hq0
          go_wp2
          exact bodyPost_ret (v := .tuple #[.slice (some ⟨g, 0, none⟩) 24 24, .int .i64 q, .int .i64 n, .bool x]) (by simp [results, Tryd.results7, go_sem]) rfl hf
      · go_wp2
        exact bodyPost_ret (v := .tuple #[.slice (some ⟨g, 0, none⟩) 23 24, .int .i64 q, .int .i64 n, .bool x]) (by simp [results, Tryd.results7, go_sem]) rfl hf

end Go.Proofs.YthnpjlnilkbamaaDoor
