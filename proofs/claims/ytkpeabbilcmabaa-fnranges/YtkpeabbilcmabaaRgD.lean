/- Ranges of signs: spec.l12Some and DrawUnion, weak: some rows of at most six ranges. -/
import Derived.Test.YtkpeabbilcmabaaRows
import Derived.Test.YtkpeabbilcmabaaRgU
import Derived.Test.YtkpeabbilcmabaaDr1
import Derived.Test.YtkpeabbilcmabaaDr2
import Derived.Test.YtkpeabbilcmabaaOwK
import Derived.Deep.RegionHeld3
namespace Go.Proofs.Ytkpeabbilcmabaa
open Go.RowKit Go.Sort

structure RsSt (S : Src) (p : Nat) (w : World) (v : Value) (l : List Rg) (s : Nat × Int) (wr : World) : Prop where
  c : At S p s wr
  row : RgRow wr w.heap.size v l
  g : w.grownBy wr (some p)
  hp : p < w.heap.size
theorem RsSt.cur {S : Src} {p : Nat} {w : World} {v : Value} {l : List Rg} {s s' : Nat × Int} {wr wr' : World} (h : RsSt S p w v l s wr) (c : At S p s' wr') (g : wr.grownBy wr' (some p)) : RsSt S p w v l s' wr' :=
  ⟨c, ownsRow_gb h.row g h.hp, gb_trans h.g g, h.hp⟩
theorem RsSt.below {S : Src} {p : Nat} {w : World} {v : Value} {l : List Rg} {s : Nat × Int} {wr wr' : World} (h : RsSt S p w v l s wr) (b : Below wr.heap.size wr wr') : RsSt S p w v l s wr' :=
  ⟨h.c.below (b.mono h.c.size), h.row.below b, gb_trans h.g ⟨b.os, b.tape, b.output, b.size, fun k hk _ => b.block k hk⟩, h.hp⟩
theorem RsSt.app {S : Src} {p : Nat} {w : World} {v v' : Value} {l l' : List Rg} {s : Nat × Int} {wr wr' : World} (h : RsSt S p w v l s wr) (b : Below w.heap.size wr wr') (r : RgRow wr' w.heap.size v' l') : RsSt S p w v' l' s wr' :=
  ⟨h.c.below (b.mono h.hp), r, gb_below h.g b, h.hp⟩
theorem RsSt.size {S : Src} {p : Nat} {w : World} {v : Value} {l : List Rg} {s : Nat × Int} {wr : World} (h : RsSt S p w v l s wr) : w.heap.size ≤ wr.heap.size := h.g.size
theorem gb_cellR {w w' : World} {p q i : Nat} {u : Value} (g : w.grownBy w' (some p)) (hq : q ≠ p) (hl : q < w.heap.size) (h : w.cell? ⟨q, i, none⟩ = some u) : w'.cell? ⟨q, i, none⟩ = some u := by
  have hb := g.block q hl (fun e => hq (Option.some.inj e))
  rw [← h]
  simp only [World.cell?, hb]
def SaysRs (S : Src) (p : Nat) (w : World) (e : Ending) (w' : World) : Prop := ∃ u l s', e = .returned u ∧ l.length ≤ 6 ∧ RsSt S p w u l s' w'

set_option maxRecDepth 100000 in
set_option maxHeartbeats 4000000 in
theorem l12Some_any (S : Src) (ok : S.ok) (p : Nat) (s : Nat × Int) (w : World) (c : At S p s w) :
    Calls Try.prog 26 #[.pointer (some ⟨p, 0, none⟩)] w fun e w' => SaysRs S p w e w' := by
  have hp := c.size
  have B0 := below_lit w (.cells #[] 43)
  have ST0 : RsSt S p w (.slice (some ⟨w.heap.size, 0, none⟩) 0 0) [] s (w.alloc (.cells #[] 43)) :=
    ⟨c.below (B0.mono hp), lit_Rgs w, ⟨B0.os, B0.tape, B0.output, B0.size, fun k hk _ => B0.block k hk⟩, hp⟩
  have hx1 := bX_bd S 5 s (by decide)
  go_enter Try.func26, Try.ntmps26
  go_wp2_with fail
  refine (below_any S ok 5 p s _ ST0.c).mono ?_
  rintro e w1 ⟨rfl, c1, g1⟩
  have ST1 := ST0.cur c1 g1
  generalize bX S 5 s = x1 at *
  generalize bS S 5 s = s1 at *
  clear ST0 c1 g1 B0
  have hx2 := bX_bd S 6 s1 (by decide)
  go_wp2_with fail
  refine (below_any S ok 6 p s1 _ ST1.c).mono ?_
  rintro e w2 ⟨rfl, c2, g2⟩
  have ST2 := ST1.cur c2 g2
  generalize bX S 6 s1 = x2 at *
  generalize bS S 6 s1 = s2 at *
  clear ST1 c2 g2
  have HST2 : Hid (RsSt S p w (.slice (some ⟨w.heap.size, 0, none⟩) 0 0) [] s2 w2) := ST2
  clear ST2
  go_wp2
  go_loopw [3, 4, 5] (fun uv av nv wr => ∃ (sa : Option Addr) (sc : Nat) (l : List Rg) (a n : Int) (s' : Nat × Int), uv = .slice sa l.length sc ∧ av = .int .i64 a ∧ nv = .int .i64 n ∧ (0 ≤ n ∧ n ≤ 6) ∧ (l.length : Int) + n ≤ 6 ∧ (0 ≤ a ∧ a + 20 * n ≤ 200) ∧ Hid (RsSt S p w (.slice sa l.length sc) l s' wr)) (fun _ _ nv _ => (intOf nv).toNat)
  case atStart => exact ⟨_, _, [], x1, x2, s2, rfl, rfl, rfl, ⟨by omega, by omega⟩, by simp; omega, ⟨by omega, by omega⟩, HST2⟩
  case round =>
    obtain ⟨sa, sc, l, a, n, s', rfl, rfl, rfl, ⟨hn0, hn1⟩, hln, ⟨ha0, ha1⟩, HST⟩ := hrel
    clear HST2
    by_cases hgo : 0 < n
    · have ST := HST.out
      have hx3 := bX_bd S 5 s' (by decide)
      have hwn : IntKind.i64.wrap (n - 1) = n - 1 := by rw [IntKind.wrap_i64]; omega
      go_wp2_with fail
      refine (below_any S ok 5 p s' _ ST.c).mono ?_
      rintro e w3 ⟨rfl, c3, g3⟩
      have ST3 := ST.cur c3 g3
      generalize bX S 5 s' = x3 at *
      generalize bS S 5 s' = s3 at *
      have hw3 : IntKind.i64.wrap (a + x3) = a + x3 := by rw [IntKind.wrap_i64]; omega
      clear ST c3 g3 HST
      obtain ⟨k0, k1⟩ : (w3.alloc (.cells #[.int .i64 a, .int .i64 (a + x3)] 43)).cell? ⟨w3.heap.size, 0, none⟩ = some (.int .i64 a) ∧ (w3.alloc (.cells #[.int .i64 a, .int .i64 (a + x3)] 43)).cell? ⟨w3.heap.size, 1, none⟩ = some (.int .i64 (a + x3)) := by
        constructor <;> rw [World.cell?_alloc_mark] <;> rfl
      have BX := below_lit w3 (.cells #[.int .i64 a, .int .i64 (a + x3)] 43)
      have ST4 := ST3.below BX
      have hq : w3.heap.size < (w3.alloc (.cells #[.int .i64 a, .int .i64 (a + x3)] 43)).heap.size := by simp
      have hqw := ST3.size
      have hpq : p < w.heap.size := ST3.hp
      have hnb : ∀ k, (Value.slice sa l.length sc).ownBlock = some k → k < w3.heap.size := fun k hk => (World.ownsRow.lt ST3.row k hk).2
      obtain ⟨m, HML⟩ : ∃ m, Hid (m = l.length) := ⟨_, rfl⟩
      rw [← HML.out] at ST4 hnb hln ⊢
      have ST5 := ST4.below (below_lit (w3.alloc (.cells #[.int .i64 a, .int .i64 (a + x3)] 43)) (.cells #[.int .i64 a, .int .i64 (a + x3)] 43))
      have hu5 := one_Rg (w3.alloc (.cells #[.int .i64 a, .int .i64 (a + x3)] 43)) ⟨a, a + x3⟩
      rw [show ((w3.alloc (.cells #[.int .i64 a, .int .i64 (a + x3)] 43)).heap.size = w3.heap.size + 1) by simp] at hu5
      have hs5 := ST5.size
      have B5 := below_lit (w3.alloc (.cells #[.int .i64 a, .int .i64 (a + x3)] 43)) (.cells #[.int .i64 a, .int .i64 (a + x3)] 43)
      have m1 := (B5.cell (p := ⟨w3.heap.size, 1, none⟩) hq).trans k1
      have hq5 := Nat.lt_of_lt_of_le hq B5.size
      obtain ⟨q, HQ⟩ : ∃ q, Hid (q = w3.heap.size) := ⟨_, rfl⟩
      clear BX ST3 ST4
      go_wp2_with (at_builtin; refine append_RgsG _ rfl (.tmp 23) (.tmp 25) rfl w.heap.size _ _ l [⟨a, a + x3⟩] (by have := HML.out; simp; omega) ST5.row hu5 rfl rfl hs5 ?_; intro v8 w8 row8 g8; have HG8 : Hid _ := g8; clear g8)
      have g8 := HG8.out
      rw [← HQ.out] at hqw hnb m1 hq5 ⊢
      have hq8 : q < w8.heap.size := Nat.lt_of_lt_of_le hq5 g8.size
      have mm1 : w8.cell? ⟨q, 1, none⟩ = some (.int .i64 (a + x3)) := by
        have hb := g8.block q hq5 (fun e => by have := hnb q e.symm; omega)
        rw [← m1]; simp only [World.cell?, hb]
      have ST8 := ST5.app ((Below.refl _ _).grown g8 hs5 fun k hk => (World.ownsRow.lt ST5.row k hk).1) row8
      have hl8 : ((l ++ [(⟨a, a + x3⟩ : Rg)]).length : Int) = m + 1 := by rw [HML.out]; simp
      generalize l ++ [(⟨a, a + x3⟩ : Rg)] = l8 at *
      obtain ⟨sa8, sc8, e8, -⟩ := ST8.row.at
      subst e8
      clear ST5 hu5 B5 g8 row8 m1 k0 k1 hnb HG8
      have hx6 := bX_bd S 6 s3 (by decide)
      have HB6 := fun w' (c : At S p s3 w') => below_any S ok 6 p s3 w' c
      obtain ⟨x6, HX6⟩ : ∃ x6, Hid (x6 = bX S 6 s3) := ⟨_, rfl⟩
      rw [← HX6.out] at hx6 HB6
      generalize bS S 6 s3 = s6 at HB6
      have hw6 : IntKind.i64.wrap (a + x3 + 2) = a + x3 + 2 := by rw [IntKind.wrap_i64]; omega
      have hw7 : IntKind.i64.wrap (a + x3 + 2 + x6) = a + x3 + 2 + x6 := by rw [IntKind.wrap_i64]; omega
      have hqp : q ≠ p := by omega
      have HS8 : Hid (RsSt S p w (.slice sa8 l8.length sc8) l8 s3 w8) := ST8
      have HS9 : Hid (RsSt S p w (.slice sa8 l8.length sc8) l8 s3 w8.drew) := ST8.below ((Below.refl _ _).drew)
      clear ST8
      go_region_held3 (fun w' => w'.cell? ⟨q, 1, none⟩ = some (.int .i64 (a + x3))) (go_keep)
        (first | (go_at_call 37; refine (HB6 _ (by first | exact HS8.out.c | exact HS9.out.c)).mono ?_; rintro e w9 ⟨rfl, c9, g9⟩; have ST9 : Hid (RsSt S p w (.slice sa8 l8.length sc8) l8 s6 w9) := (by first | exact HS8.out.cur c9 g9 | exact HS9.out.cur c9 g9); have m9 := gb_cellR g9 hqp (by first | exact hq8 | simpa using hq8) mm1))
      go_wp2
      go_roundw
      case rel => exact ⟨_, _, l8, a + x3 + 2 + x6, n - 1, s6, rfl, rfl, rfl, ⟨by omega, by omega⟩, by omega, ⟨by omega, by omega⟩, ST9⟩
      case measure => simp [intOf]; omega
    · have hnz : ¬ 0 < n := hgo
      have ST := HST.out
      clear HST
      by_cases hl0 : l.length = 0
      · have hd : decide (0 < l.length) = false := decide_eq_false (by omega)
        have hd2 : ¬ (0 : Int) < (l.length : Int) := by omega
        have HSX : Hid _ := ST
        have hl6 : l.length ≤ 6 := by omega
        clear ST hl0
        go_wp2
        go_ret
        exact ⟨_, l, s', rfl, hl6, HSX.out⟩
      · have hd : decide (0 < l.length) = true := decide_eq_true (by omega)
        have hl6 : l.length ≤ 6 := by omega
        have hlp : (0 : Int) < (l.length : Int) := by omega
        go_wp2_with fail
        refine (once_any S ok 8 p s' _ ST.c).mono ?_
        rintro e w3 ⟨rfl, c3, g3⟩
        have ST3 := ST.cur c3 g3
        generalize (bX S 8 s' == 0) = once
        generalize bS S 8 s' = s3 at *
        clear ST c3 g3
        cases once with
        | false =>
          have HSX : Hid _ := ST3
          clear ST3
          go_wp2
          go_ret
          exact ⟨_, l, s3, rfl, hl6, HSX.out⟩
        | true =>
          have hx4 := bX_bd S l.length s3 hlp
          go_wp2_with fail
          refine (below_any S ok l.length p s3 _ ST3.c).mono ?_
          rintro e w4 ⟨rfl, c4, g4⟩
          have ST4 := ST3.cur c4 g4
          obtain ⟨k, hk⟩ := Int.eq_ofNat_of_zero_le hx4.1
          rw [hk] at hx4 ⊢
          have hkl : k < l.length := by omega
          generalize bS S l.length s3 = s4 at *
          clear ST3 c4 g4 hk
          rcases ST4.row.2 with ⟨_, h0⟩ | ⟨g, cap, cur, e, hg, hh, hnc, hcp, hcs, htake⟩
          · omega
          cases e
          have BX := below_lit w4 (.cells #[.int .i64 (-1), .int .i64 0, .int .i64 7, .int .i64 1114111, .int .i64 1114112] 3)
          have ST5 := ST4.below BX
          have hb5 := heap_new w4 (.cells #[.int .i64 (-1), .int .i64 0, .int .i64 7, .int .i64 1114111, .int .i64 1114112] 3)
          have hp4 := ST4.c.size
          clear hh hcs htake BX
          go_wp2_with fail
          refine (pick_any S ok [-1, 0, 7, 1114111, 1114112] 5 rfl w4.heap.size 3 p s4 _ ST5.c (by decide) (by decide) (by omega) hb5).mono ?_
          rintro e w6 ⟨rfl, c6, g6⟩
          have ST6 := ST5.cur c6 g6
          generalize pX S [-1, 0, 7, 1114111, 1114112] s4 = y at *
          generalize bS S ([-1, 0, 7, 1114111, 1114112] : List Int).length s4 = s6 at *
          clear c6 g6 ST5 ST4 hb5
          obtain ⟨⟨u1, d1⟩, f1⟩ := rowRg_cells ST6.row (k * 2 + 1) (by omega)
          have r7 := rowRg_set ST6.row k ⟨l[k]!.a, y⟩ 1 (.int .i64 y) hkl (by omega) rfl
          have r8 : RgRow (w6.setCell ⟨g, k * 2 + 1, none⟩ (.int .i64 y)) w.heap.size (.slice (some ⟨g, 0, none⟩) l.length sc) (l.set k ⟨l[k]!.a, y⟩) := by unfold RgRow; rw [List.length_set]; exact r7
          have ST8 : Hid (RsSt S p w (.slice (some ⟨g, 0, none⟩) l.length sc) (l.set k ⟨l[k]!.a, y⟩) s6 (w6.setCell ⟨g, k * 2 + 1, none⟩ (.int .i64 y))) := ST6.app ((Below.refl _ _).setCell hg _) r8
          have hkn : (k : Int) < (l.length : Int) := by omega
          have hk0 : (0 : Int) ≤ (k : Int) := by omega
          clear r7 r8 ST6
          go_wp2
          go_ret
          exact ⟨_, l.set k ⟨l[k]!.a, y⟩, s6, rfl, by rw [List.length_set]; exact hl6, ST8.out⟩

set_option maxRecDepth 100000 in
set_option maxHeartbeats 1000000 in
theorem drawUnion_any (S : Src) (ok : S.ok) (w : World) (hl : Lies S w) :
    Calls Try.prog 9 #[.slice S.a S.len S.cap] w fun e w' => ∃ u v l m mid, e = .returned (.tuple #[u, v]) ∧ (l.length ≤ 6 ∧ m.length ≤ 6) ∧ OwB w' w.heap.size mid 43 2 u l.length (flatRg l) ∧ OwB w' mid w'.heap.size 43 2 v m.length (flatRg m) ∧ Below w.heap.size w w' := by
  go_enter Try.func9, Try.ntmps9
  go_wp2_with fail
  refine (new_any S ok w hl).mono ?_
  rintro e w1 ⟨rfl, c1, b1⟩
  go_wp2_with fail
  refine (l12Some_any S ok _ _ w1 c1).mono ?_
  rintro e w2 ⟨u, l, s2, rfl, hl6, ST2⟩
  go_wp2_with fail
  refine (l12Some_any S ok _ _ w2 ST2.c).mono ?_
  rintro e w3 ⟨v, m, s3, rfl, hm6, ST3⟩
  have hp1 := c1.size
  have z2 := ST2.g.size
  have B2 := below_gb ST2.g (Nat.le_refl w.heap.size) hp1
  have B3 := below_gb ST3.g (Nat.le_refl w.heap.size) (by omega)
  have z1 := b1.size
  have hu : w3.ownsRow w1.heap.size 43 2 u l.length (flatRg l) := ownsRow_gb ST2.row ST3.g (by omega)
  have hu2 : ∀ k, u.ownBlock = some k → k < w2.heap.size := fun k hk => (World.ownsRow.lt ST2.row k hk).2
  have hv : w3.ownsRow w2.heap.size 43 2 v m.length (flatRg m) := ST3.row
  have hv2 : ∀ k, v.ownBlock = some k → k < w3.heap.size := fun k hk => (World.ownsRow.lt ST3.row k hk).2
  have BB := b1.trans (B2.trans B3)
  clear ST2 ST3 B2 B3 c1
  go_wp2
  refine bodyPost_ret (v := .tuple #[u, v]) (by simp [results, Try.results9, go_sem]) rfl ⟨u, v, l, m, w2.heap.size, rfl, ⟨hl6, hm6⟩, ⟨World.ownsRow.mono hu (by omega), hu2⟩, ⟨hv, hv2⟩, BB⟩

end Go.Proofs.Ytkpeabbilcmabaa
