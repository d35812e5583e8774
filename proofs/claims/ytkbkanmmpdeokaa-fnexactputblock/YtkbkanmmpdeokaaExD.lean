/- Extents: spec.l16Some, DrawPutBlock and DrawCutAt, weak: some rows of at most twelve extents. -/
import Derived.Test.YtkbkanmmpdeokaaRows
import Derived.Test.YtkbkanmmpdeokaaSEe
import Derived.Test.YtkbkanmmpdeokaaDr1
import Derived.Test.YtkbkanmmpdeokaaDr2
namespace Go.Proofs.Ytkbkanmmpdeokaa
open Go.RowKit Go.Sort

structure EsSt (S : Src) (p : Nat) (w : World) (v : Value) (l : List Ex) (s : Nat × Int) (wr : World) : Prop where
  c : At S p s wr
  row : ExRow wr w.heap.size v l
  g : w.grownBy wr (some p)
  hp : p < w.heap.size
theorem EsSt.cur {S : Src} {p : Nat} {w : World} {v : Value} {l : List Ex} {s s' : Nat × Int} {wr wr' : World} (h : EsSt S p w v l s wr) (c : At S p s' wr') (g : wr.grownBy wr' (some p)) : EsSt S p w v l s' wr' :=
  ⟨c, ownsRow_gb h.row g h.hp, gb_trans h.g g, h.hp⟩
theorem EsSt.app {S : Src} {p : Nat} {w : World} {v v' : Value} {l l' : List Ex} {s : Nat × Int} {wr wr' : World} (h : EsSt S p w v l s wr) (b : Below w.heap.size wr wr') (r : ExRow wr' w.heap.size v' l') : EsSt S p w v' l' s wr' :=
  ⟨h.c.below (b.mono h.hp), r, gb_below h.g b, h.hp⟩
theorem EsSt.size {S : Src} {p : Nat} {w : World} {v : Value} {l : List Ex} {s : Nat × Int} {wr : World} (h : EsSt S p w v l s wr) : w.heap.size ≤ wr.heap.size := h.g.size
def SaysEs (S : Src) (p : Nat) (w : World) (e : Ending) (w' : World) : Prop := ∃ u l s', e = .returned u ∧ l.length ≤ 12 ∧ EsSt S p w u l s' w'
theorem putN_len (l : List Ex) (i b : Int) (h : l.length ≤ 12) : (putN l i b).length ≤ 12 := by
  unfold putN
  split
  · split
    · unfold extsN
      rw [List.length_reverse]
      exact Nat.le_trans (extsUp_len _ _) (by unfold putM; rw [List.length_set, exM_len]; exact Nat.le_refl _)
    · exact h
  · simp
theorem putB_bd {l : List Ex} {i b : Int} (h : putB l i b = true) : 0 ≤ b ∧ b < 24 := by
  have : ExR l ∧ putOk l i b := by
    open Classical in
    exact of_decide_eq_true h
  exact this.2.2.2.1

set_option maxRecDepth 100000 in
set_option maxHeartbeats 4000000 in
theorem l16Some_any (S : Src) (ok : S.ok) (p : Nat) (s : Nat × Int) (w : World) (c : At S p s w) :
    Calls Try.prog 32 #[.pointer (some ⟨p, 0, none⟩)] w fun e w' => SaysEs S p w e w' := by
  have hp := c.size
  have B0 := below_lit w (.cells #[] 58)
  have ST0 : EsSt S p w (.slice (some ⟨w.heap.size, 0, none⟩) 0 0) [] s (w.alloc (.cells #[] 58)) :=
    ⟨c.below (B0.mono hp), lit_Exs w, ⟨B0.os, B0.tape, B0.output, B0.size, fun k hk _ => B0.block k hk⟩, hp⟩
  have hx1 := bX_bd S 20 s (by decide)
  go_enter Try.func32, Try.ntmps32
  go_wp2_with fail
  refine (below_any S ok 20 p s _ ST0.c).mono ?_
  rintro e w1 ⟨rfl, c1, g1⟩
  have ST1 := ST0.cur c1 g1
  generalize bX S 20 s = x1 at *
  generalize bS S 20 s = s1 at *
  clear ST0 c1 g1 B0
  have hx2 := bX_bd S 9 s1 (by decide)
  go_wp2_with fail
  refine (below_any S ok 9 p s1 _ ST1.c).mono ?_
  rintro e w2 ⟨rfl, c2, g2⟩
  have ST2 := ST1.cur c2 g2
  generalize bX S 9 s1 = x2 at *
  generalize bS S 9 s1 = s2 at *
  clear ST1 c2 g2
  have HST2 : Hid (EsSt S p w (.slice (some ⟨w.heap.size, 0, none⟩) 0 0) [] s2 w2) := ST2
  clear ST2
  go_wp2
  go_loopw [3, 4, 5, 6, 7, 8] (fun uv bv nv _ _ _ wr => ∃ (l : List Ex) (b n : Int) (s' : Nat × Int), bv = .int .i64 b ∧ nv = .int .i64 n ∧ (0 ≤ n ∧ n ≤ 9) ∧ l.length ≤ 12 ∧ (0 ≤ b ∧ b ≤ 24) ∧ Hid (EsSt S p w uv l s' wr)) (fun _ _ nv _ _ _ _ => (intOf nv).toNat)
  case atStart => exact ⟨[], x1, x2, s2, rfl, rfl, ⟨by omega, by omega⟩, by simp, ⟨by omega, by omega⟩, HST2⟩
  case round =>
    obtain ⟨l, b, n, s', rfl, rfl, ⟨hn0, hn1⟩, hln, ⟨hb0, hb1⟩, HST⟩ := hrel
    clear HST2
    have ST := HST.out
    clear HST
    by_cases hgo : 0 < n
    · have hx3 := bX_bd S 12 s' (by decide)
      have hwn : IntKind.i64.wrap (n - 1) = n - 1 := by rw [IntKind.wrap_i64]; omega
      have hwb : IntKind.i64.wrap (b + 1) = b + 1 := by rw [IntKind.wrap_i64]; omega
      go_wp2_with fail
      refine (below_any S ok 12 p s' _ ST.c).mono ?_
      rintro e w3 ⟨rfl, c3, g3⟩
      have ST3 := ST.cur c3 g3
      generalize bX S 12 s' = x3 at *
      generalize bS S 12 s' = s3 at *
      clear ST c3 g3
      go_wp2_with fail
      refine (sPutBlock _ l x3 b w3 (by omega) ST3.row.at).mono ?_
      rintro e w4 ⟨v4, rfl, row4, b4⟩
      have ST4 := ST3.app (b4.mono ST3.size) (row4.mono ST3.size)
      have hl4 := putN_len l x3 b hln
      have hbb : putB l x3 b = true → 0 ≤ b ∧ b < 24 := putB_bd
      generalize putN l x3 b = l4 at *
      generalize putB l x3 b = is at *
      clear ST3 row4 b4 hx3
      cases is with
      | true =>
        obtain ⟨-, hb2⟩ := hbb rfl
        clear hbb
        go_wp2_with fail
        refine (once_any S ok 3 p s3 _ ST4.c).mono ?_
        rintro e w5 ⟨rfl, c5, g5⟩
        have ST5 := ST4.cur c5 g5
        generalize (bX S 3 s3 == 0) = o at *
        generalize bS S 3 s3 = s5 at *
        clear ST4 c5 g5
        cases o with
        | false =>
          have HS : Hid (EsSt S p w v4 l4 s5 w5) := ST5
          clear ST5
          go_wp2
          go_roundw
          case rel => exact ⟨l4, b + 1, n - 1, s5, rfl, rfl, ⟨by omega, by omega⟩, hl4, ⟨by omega, by omega⟩, HS⟩
          case measure => simp [intOf]; omega
        | true =>
          have hx6 := bX_bd S 24 s5 (by decide)
          go_wp2_with fail
          refine (below_any S ok 24 p s5 _ ST5.c).mono ?_
          rintro e w6 ⟨rfl, c6, g6⟩
          have HS : Hid (EsSt S p w v4 l4 (bS S 24 s5) w6) := ST5.cur c6 g6
          generalize bX S 24 s5 = x6 at *
          generalize bS S 24 s5 = s6 at *
          clear ST5 c6 g6
          go_wp2
          go_roundw
          case rel => exact ⟨l4, x6, n - 1, s6, rfl, rfl, ⟨by omega, by omega⟩, hl4, ⟨by omega, by omega⟩, HS⟩
          case measure => simp [intOf]; omega
      | false =>
        have hx6 := bX_bd S 24 s3 (by decide)
        go_wp2_with fail
        refine (below_any S ok 24 p s3 _ ST4.c).mono ?_
        rintro e w6 ⟨rfl, c6, g6⟩
        have HS : Hid (EsSt S p w v4 l4 (bS S 24 s3) w6) := ST4.cur c6 g6
        generalize bX S 24 s3 = x6 at *
        generalize bS S 24 s3 = s6 at *
        clear ST4 c6 g6 hbb
        go_wp2
        go_roundw
        case rel => exact ⟨l4, x6, n - 1, s6, rfl, rfl, ⟨by omega, by omega⟩, hl4, ⟨by omega, by omega⟩, HS⟩
        case measure => simp [intOf]; omega
    · have hnz : ¬ 0 < n := hgo
      obtain ⟨sa, sc, e, -⟩ := ST.row.at
      subst e
      by_cases hl0 : l.length = 0
      · have hd : decide (0 < l.length) = false := decide_eq_false (by omega)
        have hd2 : ¬ (0 : Int) < (l.length : Int) := by omega
        have HSX : Hid _ := ST
        clear ST hl0
        go_wp2
        go_ret
        exact ⟨_, l, s', rfl, hln, HSX.out⟩
      · have hd : decide (0 < l.length) = true := decide_eq_true (by omega)
        have hlp : (0 : Int) < (l.length : Int) := by omega
        go_wp2_with fail
        refine (once_any S ok 8 p s' _ ST.c).mono ?_
        rintro e w3 ⟨rfl, c3, g3⟩
        have ST3 := ST.cur c3 g3
        generalize (bX S 8 s' == 0) = once
        generalize bS S 8 s' = s3 at *
        clear ST c3 g3
        cases once with
        | false =>
          have HSX : Hid _ := ST3
          clear ST3
          go_wp2
          go_ret
          exact ⟨_, l, s3, rfl, hln, HSX.out⟩
        | true =>
          have hx4 := bX_bd S l.length s3 hlp
          go_wp2_with fail
          refine (below_any S ok l.length p s3 _ ST3.c).mono ?_
          rintro e w4 ⟨rfl, c4, g4⟩
          have ST4 := ST3.cur c4 g4
          obtain ⟨k, hk⟩ := Int.eq_ofNat_of_zero_le hx4.1
          rw [hk] at hx4 ⊢
          have hkl : k < l.length := by omega
          generalize bS S l.length s3 = s4 at *
          clear ST3 c4 g4 hk
          rcases ST4.row.2 with ⟨_, h0⟩ | ⟨g, cap, cur, e, hg, hh, hnc, hcp, hcs, htake⟩
          · omega
          cases e
          clear hh hcs htake
          have hkn : (k : Int) < (l.length : Int) := by omega
          have hk0 : (0 : Int) ≤ (k : Int) := by omega
          have hx5 := bX_bd S 3 s4 (by decide)
          go_wp2_with fail
          refine (below_any S ok 3 p s4 _ ST4.c).mono ?_
          rintro e w5 ⟨rfl, c5, g5⟩
          have ST5 := ST4.cur c5 g5
          generalize bX S 3 s4 = x5 at *
          generalize bS S 3 s4 = s5 at *
          clear ST4 c5 g5
          have FIN : Hid (∀ (s6 : Nat × Int) (w6 : World), EsSt S p w (.slice (some ⟨g, 0, none⟩) l.length sc) l s6 w6 → ∀ (i : Nat) (y : Int) (x : Ex), i < 3 → encEx x = (encEx l[k]!).set i (.int .i64 y) →
              ((∃ u, w6.cell? ⟨g, k * 3 + i, none⟩ = some u) ∧ w6.frozen? ⟨g, k * 3 + i, none⟩ = false) ∧ SaysEs S p w (.returned (.slice (some ⟨g, 0, none⟩) l.length sc)) (w6.setCell ⟨g, k * 3 + i, none⟩ (.int .i64 y))) := fun s6 w6 ST6 i y x hi he => by
            refine ⟨rowEx_cells ST6.row (k * 3 + i) (by omega), _, l.set k x, s6, rfl, by rw [List.length_set]; exact hln, ?_⟩
            have r7 := rowEx_set ST6.row k x i (.int .i64 y) hkl hi he
            exact ST6.app ((Below.refl _ _).setCell hg _) (by unfold ExRow; rw [List.length_set]; exact r7)
          by_cases e0 : x5 = 0
          · subst e0
            have hx6 := bX_bd S 14 s5 (by decide)
            go_wp2_with fail
            refine (below_any S ok 14 p s5 _ ST5.c).mono ?_
            rintro e w6 ⟨rfl, c6, g6⟩
            have ST6 := ST5.cur c6 g6
            generalize bX S 14 s5 = x6 at *
            generalize bS S 14 s5 = s6 at *
            have hw6 : IntKind.i64.wrap (x6 - 1) = x6 - 1 := by rw [IntKind.wrap_i64]; omega
            obtain ⟨⟨⟨u1, d1⟩, f1⟩, HF⟩ := FIN.out s6 w6 ST6 0 (x6 - 1) ⟨x6 - 1, l[k]!.b, l[k]!.n⟩ (by omega) rfl
            rw [Nat.add_zero] at d1 f1 HF
            have HF : Hid _ := HF
            clear FIN ST5 ST6 c6 g6
            go_wp2
            go_ret
            exact HF.out
          · by_cases e1 : x5 = 1
            · subst e1
              have hx6 := bX_bd S 26 s5 (by decide)
              go_wp2_with fail
              refine (below_any S ok 26 p s5 _ ST5.c).mono ?_
              rintro e w6 ⟨rfl, c6, g6⟩
              have ST6 := ST5.cur c6 g6
              generalize bX S 26 s5 = x6 at *
              generalize bS S 26 s5 = s6 at *
              have hw6 : IntKind.i64.wrap (x6 - 1) = x6 - 1 := by rw [IntKind.wrap_i64]; omega
              obtain ⟨⟨⟨u1, d1⟩, f1⟩, HF⟩ := FIN.out s6 w6 ST6 1 (x6 - 1) ⟨l[k]!.p, x6 - 1, l[k]!.n⟩ (by omega) rfl
              have HF : Hid _ := HF
              clear FIN ST5 ST6 c6 g6
              go_wp2
              go_ret
              exact HF.out
            · obtain rfl : x5 = 2 := by omega
              have hx6 := bX_bd S 6 s5 (by decide)
              go_wp2_with fail
              refine (below_any S ok 6 p s5 _ ST5.c).mono ?_
              rintro e w6 ⟨rfl, c6, g6⟩
              have ST6 := ST5.cur c6 g6
              generalize bX S 6 s5 = x6 at *
              generalize bS S 6 s5 = s6 at *
              obtain ⟨⟨⟨u1, d1⟩, f1⟩, HF⟩ := FIN.out s6 w6 ST6 2 x6 ⟨l[k]!.p, l[k]!.b, x6⟩ (by omega) rfl
              have HF : Hid _ := HF
              clear FIN ST5 ST6 c6 g6 e0 e1
              go_wp2
              go_ret
              exact HF.out

set_option maxRecDepth 100000 in
set_option maxHeartbeats 1000000 in
theorem drawPutBlock_any (S : Src) (ok : S.ok) (w : World) (hl : Lies S w) :
    Calls Try.prog 10 #[.slice S.a S.len S.cap] w fun e w' => ∃ u l i b, e = .returned (.tuple #[u, .int .i64 i, .int .i64 b]) ∧ ExsAt w' u l ∧ l.length ≤ 12 ∧ Below w.heap.size w w' := by
  go_enter Try.func10, Try.ntmps10
  go_wp2_with fail
  refine (new_any S ok w hl).mono ?_
  rintro e w1 ⟨rfl, c1, b1⟩
  have hp1 := c1.size
  have hx2 := bX_bd S 14 (s0 S) (by decide)
  go_wp2_with fail
  refine (below_any S ok 14 _ _ w1 c1).mono ?_
  rintro e w2 ⟨rfl, c2, g2⟩
  have B2 := b1.trans (below_gb g2 (Nat.le_refl w.heap.size) hp1)
  generalize bX S 14 (s0 S) = x2 at *
  generalize bS S 14 (s0 S) = s2 at *
  have hw2 : IntKind.i64.wrap (x2 - 1) = x2 - 1 := by rw [IntKind.wrap_i64]; omega
  clear c1 b1 g2 hp1
  have hx3 := bX_bd S 26 s2 (by decide)
  go_wp2_with fail
  refine (below_any S ok 26 _ _ w2 c2).mono ?_
  rintro e w3 ⟨rfl, c3, g3⟩
  have B3 := B2.trans (below_gb g3 (Nat.le_refl w.heap.size) c2.size)
  generalize bX S 26 s2 = x3 at *
  generalize bS S 26 s2 = s3 at *
  have hw3 : IntKind.i64.wrap (x3 - 1) = x3 - 1 := by rw [IntKind.wrap_i64]; omega
  clear c2 g3 B2
  go_wp2_with fail
  refine (l16Some_any S ok _ s3 w3 c3).mono ?_
  rintro e w4 ⟨u, l, s4, rfl, hl12, ST⟩
  have B4 := B3.trans (below_gb ST.g (Nat.le_refl w.heap.size) c3.size)
  have h4 := ST.row.at
  clear ST c3
  go_wp2
  refine bodyPost_ret (v := .tuple #[u, .int .i64 (x2 - 1), .int .i64 (x3 - 1)]) (by simp [results, Try.results10, go_sem]) rfl ⟨_, _, _, _, rfl, h4, hl12, B4⟩

set_option maxRecDepth 100000 in
set_option maxHeartbeats 1000000 in
theorem drawCutAt_any (S : Src) (ok : S.ok) (w : World) (hl : Lies S w) :
    Calls Try.prog 18 #[.slice S.a S.len S.cap] w fun e w' => ∃ u l n, e = .returned (.tuple #[u, .int .i64 n]) ∧ ExsAt w' u l ∧ l.length ≤ 12 ∧ Below w.heap.size w w' := by
  go_enter Try.func18, Try.ntmps18
  go_wp2_with fail
  refine (new_any S ok w hl).mono ?_
  rintro e w1 ⟨rfl, c1, b1⟩
  have hp1 := c1.size
  have hx2 := bX_bd S 15 (s0 S) (by decide)
  go_wp2_with fail
  refine (below_any S ok 15 _ _ w1 c1).mono ?_
  rintro e w2 ⟨rfl, c2, g2⟩
  have B2 := b1.trans (below_gb g2 (Nat.le_refl w.heap.size) hp1)
  generalize bX S 15 (s0 S) = x2 at *
  generalize bS S 15 (s0 S) = s2 at *
  have hw2 : IntKind.i64.wrap (x2 - 1) = x2 - 1 := by rw [IntKind.wrap_i64]; omega
  clear c1 b1 g2 hp1
  go_wp2_with fail
  refine (l16Some_any S ok _ s2 w2 c2).mono ?_
  rintro e w4 ⟨u, l, s4, rfl, hl12, ST⟩
  have B4 := B2.trans (below_gb ST.g (Nat.le_refl w.heap.size) c2.size)
  have h4 := ST.row.at
  clear ST c2
  go_wp2
  refine bodyPost_ret (v := .tuple #[u, .int .i64 (x2 - 1)]) (by simp [results, Try.results18, go_sem]) rfl ⟨_, _, _, rfl, h4, hl12, B4⟩
end Go.Proofs.Ytkbkanmmpdeokaa
