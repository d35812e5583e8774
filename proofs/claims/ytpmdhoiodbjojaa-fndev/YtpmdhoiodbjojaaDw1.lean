/- Draws of devices: spec.l8Write. -/
import Derived.Test.YtpmdhoiodbjojaaRows
import Derived.Test.YtpmdhoiodbjojaaIDu
import Derived.Test.YtpmdhoiodbjojaaDr2
import Derived.Test.YtpmdhoiodbjojaaSzD
namespace Go.Proofs.Ytpmdhoiodbjojaa
open Go.RowKit

/-- while a write is drawn: the answer's box at n0, the write's own at q -/
structure DwSt (S : Src) (p : Nat) (w : World) (q : Nat) (x : Int) (t : ByteArray) (s : Nat × Int) (wr : World) : Prop where
  hR : wr.heap[w.heap.size]? = some (.cells #[.int .i64 0, .string ⟨#[]⟩] 35)
  hq : wr.heap[q]? = some (.cells #[.int .i64 x, .string t] 35)
  ht : t.size ≤ 5000
  c : At S p s wr
  gb : w.grownBy wr (some p)
theorem DwSt.cur {S : Src} {p : Nat} {w : World} {q : Nat} {x : Int} {t : ByteArray} {s s' : Nat × Int} {wr wr' : World} (h : DwSt S p w q x t s wr) (hp : p < w.heap.size) (hq : w.heap.size < q) (c : At S p s' wr') (g : wr.grownBy wr' (some p)) : DwSt S p w q x t s' wr' :=
  ⟨(g.block _ (lt_of_block h.hR) (fun e => by have := Option.some.inj e; omega)).trans h.hR, (g.block _ (lt_of_block h.hq) (fun e => by have := Option.some.inj e; omega)).trans h.hq, h.ht, c, gb_trans h.gb g⟩
theorem DwSt.below {S : Src} {p : Nat} {w : World} {q : Nat} {x : Int} {t : ByteArray} {s : Nat × Int} {wr wr' : World} (h : DwSt S p w q x t s wr) (b : Below wr.heap.size wr wr') : DwSt S p w q x t s wr' :=
  ⟨(b.block _ (lt_of_block h.hR)).trans h.hR, (b.block _ (lt_of_block h.hq)).trans h.hq, h.ht, h.c.below (b.mono (h.c.size)), gb_trans h.gb ⟨b.os, b.tape, b.output, b.size, fun k hk _ => b.block k hk⟩⟩
theorem DwSt.belowB {S : Src} {p : Nat} {w : World} {q : Nat} {x : Int} {t : ByteArray} {s : Nat × Int} {wr wr' : World} {B : Nat} (h : DwSt S p w q x t s wr) (hp : p < w.heap.size) (hq : w.heap.size < q) (hB : q < B) (b : Below B wr wr') : DwSt S p w q x t s wr' :=
  ⟨(b.block _ (by omega)).trans h.hR, (b.block _ (by omega)).trans h.hq, h.ht, h.c.below (b.mono (by omega)), ⟨b.os.trans h.gb.os, b.tape.trans h.gb.tape, b.output.trans h.gb.output, Nat.le_trans h.gb.size b.size, fun k hk hne => (b.block k (by omega)).trans (h.gb.block k hk hne)⟩⟩
theorem DwSt.set0 {S : Src} {p : Nat} {w : World} {q : Nat} {x : Int} {t : ByteArray} {s : Nat × Int} {wr : World} (h : DwSt S p w q x t s wr) (hp : p < w.heap.size) (hq : w.heap.size < q) (y : Int) : DwSt S p w q y t s (wr.setCell ⟨q, 0, none⟩ (.int .i64 y)) := by
  have hq' := block_set (i := 0) h.hq (.int .i64 y)
  refine ⟨(Below.heap_setCell wr ⟨q, 0, none⟩ _ w.heap.size (by show w.heap.size ≠ q; omega)).trans h.hR, hq', h.ht, h.c.below ((Below.refl _ _).setCell (by show p + 1 ≤ q; omega) _), ?_⟩
  have g := gb_set wr q 0 (.int .i64 y)
  exact ⟨g.os.trans h.gb.os, g.tape.trans h.gb.tape, g.output.trans h.gb.output, Nat.le_trans h.gb.size g.size, fun k hk hne => (g.block k (Nat.lt_of_lt_of_le hk h.gb.size) (fun e => by have := Option.some.inj e; omega)).trans (h.gb.block k hk hne)⟩
theorem DwSt.set1 {S : Src} {p : Nat} {w : World} {q : Nat} {x : Int} {t : ByteArray} {s : Nat × Int} {wr : World} (h : DwSt S p w q x t s wr) (hp : p < w.heap.size) (hq : w.heap.size < q) (y : ByteArray) (hy : y.size ≤ 5000) : DwSt S p w q x y s (wr.setCell ⟨q, 1, none⟩ (.string y)) := by
  have hq' := block_set (i := 1) h.hq (.string y)
  refine ⟨(Below.heap_setCell wr ⟨q, 1, none⟩ _ w.heap.size (by show w.heap.size ≠ q; omega)).trans h.hR, hq', hy, h.c.below ((Below.refl _ _).setCell (by show p + 1 ≤ q; omega) _), ?_⟩
  have g := gb_set wr q 1 (.string y)
  exact ⟨g.os.trans h.gb.os, g.tape.trans h.gb.tape, g.output.trans h.gb.output, Nat.le_trans h.gb.size g.size, fun k hk hne => (g.block k (Nat.lt_of_lt_of_le hk h.gb.size) (fun e => by have := Option.some.inj e; omega)).trans (h.gb.block k hk hne)⟩
theorem DwSt.cells {S : Src} {p : Nat} {w : World} {q : Nat} {x : Int} {t : ByteArray} {s : Nat × Int} {wr : World} (h : DwSt S p w q x t s wr) : (wr.cell? ⟨q, 0, none⟩ = some (.int .i64 x) ∧ wr.cell? ⟨q, 1, none⟩ = some (.string t) ∧ ∀ i, wr.frozen? ⟨q, i, none⟩ = false) ∧ wr.cell? ⟨w.heap.size, 0, none⟩ = some (.int .i64 0) ∧ wr.cell? ⟨w.heap.size, 1, none⟩ = some (.string ⟨#[]⟩) ∧ ∀ i, wr.frozen? ⟨w.heap.size, i, none⟩ = false :=
  ⟨⟨cell_blk h.hq 0, cell_blk h.hq 1, fun i => unfrozen_blk h.hq i⟩, cell_blk h.hR 0, cell_blk h.hR 1, fun i => unfrozen_blk h.hR i⟩
def sliceN (v : Value) : Nat := match v with | .slice _ n _ => n | _ => 0
theorem row_form {w : World} {base size n : Nat} {e : TypeId} {v : Value} {xs : List Value} (h : w.ownsRow base e size v n xs) : ∃ va vc, v = .slice va n vc := by
  rcases h.2 with ⟨h, h0⟩ | ⟨g, cp, cur, h, -⟩
  · exact ⟨none, 0, by rw [h, h0]⟩
  · exact ⟨_, _, h⟩
theorem results_wr {fn : Func} {p : Tmp} (h : fn.results = #[.cell p 35]) (tmps : Array Value) (w : World) (g : Nat) (cs : Array Value) (hc : cs.size = 2)
    (hp : tmps.getD p undef = .pointer (some ⟨g, 0, none⟩)) (hg : w.heap[g]? = some (.cells cs 35 (0, 0))) :
    (results fn tmps).run Try.prog w = .ok (.agg cs) w := by
  have hi : (Try.prog.info? 35).map (·.size) = some cs.size := by rw [hc]; kernel_rfl
  have hr := run_loadVar_row (P := Try.prog) w g 35 35 cs (0, 0) _ hg Try.underlying35 rfl hi
  have hp' : tmps[p]?.getD undef = .pointer (some ⟨g, 0, none⟩) := by simpa using hp
  simp [results, h, hp', asAddr, hr]

/-- a write is drawn -/
def SaysWr (S : Src) (p : Nat) (w : World) (e : Ending) (w' : World) : Prop := ∃ (x : Wr) (s' : Nat × Int), e = .returned (.agg #[.int .i64 x.block, .string x.text]) ∧ x.text.size ≤ 5000 ∧ At S p s' w' ∧ w.grownBy w' (some p)

set_option maxRecDepth 100000 in
set_option maxHeartbeats 4000000 in
theorem l8Write_any (S : Src) (ok : S.ok) (p : Nat) (s : Nat × Int) (w : World) (c : At S p s w) :
    Calls Try.prog 58 #[.pointer (some ⟨p, 0, none⟩)] w fun e w' => SaysWr S p w e w' := by
  have hp := c.size
  have hR0 := heap_a1 w (.cells #[.int .i64 0, .string ⟨#[]⟩] 35)
  have c0 := c.below ((Below.refl (p + 1) w).alloc (by omega) (.cells #[.int .i64 0, .string ⟨#[]⟩] 35))
  have g0 : w.grownBy (w.alloc (.cells #[.int .i64 0, .string ⟨#[]⟩] 35)) (some p) := World.grownBy_alloc _ _ _
  go_enter Try.func58, Try.ntmps58
  go_wp2_with fail
  refine (below_any S ok 18 p s _ c0).mono ?_
  rintro e w1 ⟨rfl, c1, b1⟩
  have hR1 := (b1.block w.heap.size (by simp) (fun e => by have := Option.some.inj e; omega)).trans hR0
  have g1 := gb_trans g0 b1
  generalize bX S 18 s = x
  generalize bS S 18 s = s1 at c1
  clear c0 g0 b1 hR0
  have htl := tL_length S 6 s1 (by decide)
  go_wp2_with fail
  refine (text_any S ok 6 (by decide) (by decide) p s1 w1 c1).mono ?_
  rintro e w2 ⟨rfl, c2, b2⟩
  have hR2 := (b2.block w.heap.size (lt_of_block hR1) (fun e => by have := Option.some.inj e; omega)).trans hR1
  have g2 := gb_trans g1 b2
  have htx : (⟨(tL S 6 s1).toArray⟩ : ByteArray).size ≤ 5000 := by show (tL S 6 s1).toArray.size ≤ 5000; rw [List.size_toArray]; omega
  generalize (⟨(tL S 6 s1).toArray⟩ : ByteArray) = t at htx
  generalize tS S 6 s1 = s2 at c2
  have hz2 := lt_of_block hR2
  have BL := below_lit w2 (.cells #[.int .i64 x, .string t] 35)
  have st : DwSt S p w w2.heap.size x t s2 (w2.alloc (.cells #[.int .i64 x, .string t] 35)) :=
    ⟨(BL.block _ hz2).trans hR2, heap_a1 _ _, htx, c2.below (BL.mono c2.size), gb_trans g2 ⟨BL.os, BL.tape, BL.output, BL.size, fun k hk _ => BL.block k hk⟩⟩
  clear c1 g1 b2 hR1 hR2 htl c2 g2 BL htx
  go_wp2_with fail
  refine (once_any S ok 20 p s2 _ st.c).mono ?_
  rintro e w3 ⟨rfl, c3, b3⟩
  have st3 := st.cur hp hz2 c3 b3
  generalize (bX S 20 s2 == 0) = o1
  generalize bS S 20 s2 = s3 at st3
  obtain ⟨q, Hq⟩ : ∃ q, Hid (q = w2.heap.size) := ⟨_, rfl⟩
  rw [← Hq.out] at hz2 st3 ⊢
  clear st c3 b3
  cases o1 with
  | false =>
    obtain ⟨x4, rfl⟩ : ∃ x4, x4 = x := ⟨_, rfl⟩
    obtain ⟨s4, rfl⟩ : ∃ s4, s4 = s3 := ⟨_, rfl⟩
    have st4 := st3
    clear st3
    go_wp2_with fail
    refine (once_any S ok 40 p _ _ st4.c).mono ?_
    rintro e w5 ⟨rfl, c5, b5⟩
    have st5 := st4.cur hp hz2 c5 b5
    generalize (bX S 40 s4 == 0) = o2
    generalize bS S 40 s4 = s5 at st5
    clear st4 c5 b5
    cases o2 with
    | false =>
      obtain ⟨⟨x0, x1, xf⟩, y0, y1, yf⟩ := st5.cells
      have HS : Hid _ := st5
      clear st5
      go_wp2
      refine bodyPost_ret (results_wr Try.results58 _ _ w.heap.size _ rfl rfl (put2d _ _ HS.out.hR)) rfl ⟨⟨_, _⟩, _, rfl, HS.out.ht, HS.out.c.below (((Below.refl _ _).setCell (by show p + 1 ≤ w.heap.size; omega) _).setCell (by show p + 1 ≤ w.heap.size; omega) _), ?_⟩
      have gA := gb_set w5 w.heap.size 0 (.int .i64 x4)
      have gB := gb_set (w5.setCell ⟨w.heap.size, 0, none⟩ (.int .i64 x4)) w.heap.size 1 (.string t)
      have g0 := HS.out.gb
      exact ⟨(gB.os.trans gA.os).trans g0.os, (gB.tape.trans gA.tape).trans g0.tape, (gB.output.trans gA.output).trans g0.output, Nat.le_trans g0.size (Nat.le_trans gA.size gB.size), fun k hk hne => (gB.block k (by have := g0.size; have := gA.size; omega) (fun e => by have := Option.some.inj e; omega)).trans ((gA.block k (by have := g0.size; omega) (fun e => by have := Option.some.inj e; omega)).trans (g0.block k hk hne))⟩
    | true =>
      have hbx := bX_bd S 2 s5 (by decide)
      go_wp2_with fail
      refine (below_any S ok 2 p s5 _ st5.c).mono ?_
      rintro e w6 ⟨rfl, c6, b6⟩
      have st6 := st5.cur hp hz2 c6 b6
      obtain ⟨y, hy⟩ := Int.eq_ofNat_of_zero_le hbx.1
      have hy2 : y < 2 := by omega
      rw [hy]
      generalize bS S 2 s5 = s6 at st6
      have hw4 : IntKind.i64.wrap (4000 + (y : Int)) = 4000 + (y : Int) := by rw [IntKind.wrap_i64]; omega
      have BE := below_lit w6 (.cells #[] 5)
      have st7 := st6.below BE
      have hown7 := empty_row w6 5
      have hqq : q < w6.heap.size := lt_of_block st6.hq
      clear st5 c6 b6 st6 BE hbx hy
      go_wp2
      go_loopw [5] (fun v wr => ∃ (l : List UInt8) (va : Option Addr) (vc : Nat), v = .slice va l.length vc ∧ l.length ≤ 4000 + y ∧ DwSt S p w q x4 t s6 wr ∧ wr.ownsRow w6.heap.size 5 1 v l.length (bytesV l) ∧ w6.heap.size ≤ wr.heap.size) (fun v _ => 5000 - sliceN v)
      case atStart => exact ⟨[], _, _, rfl, by simp, st7, hown7, by simp⟩
      case round =>
        obtain ⟨l, va, vc, rfl, hl, st, hown, hz6⟩ := hrel
        have hq6 : q < w6.heap.size := hqq
        by_cases hlt : l.length < 4000 + y
        · have hlt' : (l.length : Int) < 4000 + (y : Int) := by omega
          have HST : Hid _ := st
          have HLL : Hid (l.length < 4000 + y) := hlt
          clear st hlt
          go_wp2_with (at_builtin; refine append_byte wr rfl (.tmp 27) (.tmp 28) 22 5 rfl w6.heap.size Try.underlying22 Try.infoB _ l 65 (by omega) (by omega) (by omega) hown rfl rfl hz6 ?_; intro v8 w8 hown8 hbel8; obtain ⟨va8, vc8, hf8⟩ := row_form hown8; subst hf8)
          go_roundw
          case rel =>
            have e1 : (l ++ [UInt8.ofNat (Int.toNat 65)]).length = l.length + 1 := by simp
            exact ⟨l ++ [UInt8.ofNat (Int.toNat 65)], va8, vc8, by rw [e1], by rw [e1]; have := HLL.out; omega, HST.out.belowB hp hz2 hq6 hbel8, by rw [e1] at hown8 ⊢; exact hown8, Nat.le_trans hz6 hbel8.size⟩
          case measure => simp [sliceN]; have := HLL.out; omega
        · have hlt' : ¬ ((l.length : Int) < 4000 + (y : Int)) := by omega
          have hcv := row_string (P := Try.prog) (T := 9) Try.underlying22 Try.underlying5 Try.underlying9 hown
          clear hlt
          obtain ⟨⟨x0, x1, xf⟩, y0, y1, yf⟩ := st.cells
          have HS : Hid _ := st.set1 hp hz2 ⟨l.toArray⟩ (by show l.toArray.size ≤ 5000; rw [List.size_toArray]; omega)
          clear st
          go_wp2
          refine bodyPost_ret (results_wr Try.results58 _ _ w.heap.size _ rfl rfl (put2d _ _ HS.out.hR)) rfl ⟨⟨_, _⟩, _, rfl, HS.out.ht, HS.out.c.below (((Below.refl _ _).setCell (by show p + 1 ≤ w.heap.size; omega) _).setCell (by show p + 1 ≤ w.heap.size; omega) _), ?_⟩
          have gA := gb_set (wr.setCell ⟨q, 1, none⟩ (.string ⟨l.toArray⟩)) w.heap.size 0 (.int .i64 x4)
          have gB := gb_set ((wr.setCell ⟨q, 1, none⟩ (.string ⟨l.toArray⟩)).setCell ⟨w.heap.size, 0, none⟩ (.int .i64 x4)) w.heap.size 1 (.string ⟨l.toArray⟩)
          have g0 := HS.out.gb
          exact ⟨(gB.os.trans gA.os).trans g0.os, (gB.tape.trans gA.tape).trans g0.tape, (gB.output.trans gA.output).trans g0.output, Nat.le_trans g0.size (Nat.le_trans gA.size gB.size), fun k hk hne => (gB.block k (by have := g0.size; have := gA.size; omega) (fun e => by have := Option.some.inj e; omega)).trans ((gA.block k (by have := g0.size; omega) (fun e => by have := Option.some.inj e; omega)).trans (g0.block k hk hne))⟩
  | true =>
    have BP := below_lit w3 (.cells #[.int .i64 (-1), .int .i64 18] 3)
    have stp := st3.below BP
    have hpk := heap_a1 w3 (.cells #[.int .i64 (-1), .int .i64 18] 3)
    have hz3 : p < w3.heap.size := st3.c.size
    go_wp2_with fail
    refine (pick_any S ok [-1, 18] 2 rfl w3.heap.size 3 p s3 _ stp.c (by decide) (by decide) (by omega) hpk).mono ?_
    rintro e w4 ⟨rfl, c4, b4⟩
    have stq := stp.cur hp hz2 c4 b4
    generalize pX S [-1, 18] s3 = x4
    generalize bS S (([-1, 18] : List Int).length : Int) s3 = s4 at stq
    obtain ⟨⟨x0, x1, xf⟩, -⟩ := stq.cells
    have st4 := stq.set0 hp hz2 x4
    clear st3 stp BP hpk c4 b4 stq
    go_wp2_with fail
    refine (once_any S ok 40 p _ _ st4.c).mono ?_
    rintro e w5 ⟨rfl, c5, b5⟩
    have st5 := st4.cur hp hz2 c5 b5
    generalize (bX S 40 s4 == 0) = o2
    generalize bS S 40 s4 = s5 at st5
    clear st4 c5 b5
    cases o2 with
    | false =>
      obtain ⟨⟨x0, x1, xf⟩, y0, y1, yf⟩ := st5.cells
      have HS : Hid _ := st5
      clear st5
      go_wp2
      refine bodyPost_ret (results_wr Try.results58 _ _ w.heap.size _ rfl rfl (put2d _ _ HS.out.hR)) rfl ⟨⟨_, _⟩, _, rfl, HS.out.ht, HS.out.c.below (((Below.refl _ _).setCell (by show p + 1 ≤ w.heap.size; omega) _).setCell (by show p + 1 ≤ w.heap.size; omega) _), ?_⟩
      have gA := gb_set w5 w.heap.size 0 (.int .i64 x4)
      have gB := gb_set (w5.setCell ⟨w.heap.size, 0, none⟩ (.int .i64 x4)) w.heap.size 1 (.string t)
      have g0 := HS.out.gb
      exact ⟨(gB.os.trans gA.os).trans g0.os, (gB.tape.trans gA.tape).trans g0.tape, (gB.output.trans gA.output).trans g0.output, Nat.le_trans g0.size (Nat.le_trans gA.size gB.size), fun k hk hne => (gB.block k (by have := g0.size; have := gA.size; omega) (fun e => by have := Option.some.inj e; omega)).trans ((gA.block k (by have := g0.size; omega) (fun e => by have := Option.some.inj e; omega)).trans (g0.block k hk hne))⟩
    | true =>
      have hbx := bX_bd S 2 s5 (by decide)
      go_wp2_with fail
      refine (below_any S ok 2 p s5 _ st5.c).mono ?_
      rintro e w6 ⟨rfl, c6, b6⟩
      have st6 := st5.cur hp hz2 c6 b6
      obtain ⟨y, hy⟩ := Int.eq_ofNat_of_zero_le hbx.1
      have hy2 : y < 2 := by omega
      rw [hy]
      generalize bS S 2 s5 = s6 at st6
      have hw4 : IntKind.i64.wrap (4000 + (y : Int)) = 4000 + (y : Int) := by rw [IntKind.wrap_i64]; omega
      have BE := below_lit w6 (.cells #[] 5)
      have st7 := st6.below BE
      have hown7 := empty_row w6 5
      have hqq : q < w6.heap.size := lt_of_block st6.hq
      clear st5 c6 b6 st6 BE hbx hy
      go_wp2
      go_loopw [5] (fun v wr => ∃ (l : List UInt8) (va : Option Addr) (vc : Nat), v = .slice va l.length vc ∧ l.length ≤ 4000 + y ∧ DwSt S p w q x4 t s6 wr ∧ wr.ownsRow w6.heap.size 5 1 v l.length (bytesV l) ∧ w6.heap.size ≤ wr.heap.size) (fun v _ => 5000 - sliceN v)
      case atStart => exact ⟨[], _, _, rfl, by simp, st7, hown7, by simp⟩
      case round =>
        obtain ⟨l, va, vc, rfl, hl, st, hown, hz6⟩ := hrel
        have hq6 : q < w6.heap.size := hqq
        by_cases hlt : l.length < 4000 + y
        · have hlt' : (l.length : Int) < 4000 + (y : Int) := by omega
          have HST : Hid _ := st
          have HLL : Hid (l.length < 4000 + y) := hlt
          clear st hlt
          go_wp2_with (at_builtin; refine append_byte wr rfl (.tmp 27) (.tmp 28) 22 5 rfl w6.heap.size Try.underlying22 Try.infoB _ l 65 (by omega) (by omega) (by omega) hown rfl rfl hz6 ?_; intro v8 w8 hown8 hbel8; obtain ⟨va8, vc8, hf8⟩ := row_form hown8; subst hf8)
          go_roundw
          case rel =>
            have e1 : (l ++ [UInt8.ofNat (Int.toNat 65)]).length = l.length + 1 := by simp
            exact ⟨l ++ [UInt8.ofNat (Int.toNat 65)], va8, vc8, by rw [e1], by rw [e1]; have := HLL.out; omega, HST.out.belowB hp hz2 hq6 hbel8, by rw [e1] at hown8 ⊢; exact hown8, Nat.le_trans hz6 hbel8.size⟩
          case measure => simp [sliceN]; have := HLL.out; omega
        · have hlt' : ¬ ((l.length : Int) < 4000 + (y : Int)) := by omega
          have hcv := row_string (P := Try.prog) (T := 9) Try.underlying22 Try.underlying5 Try.underlying9 hown
          clear hlt
          obtain ⟨⟨x0, x1, xf⟩, y0, y1, yf⟩ := st.cells
          have HS : Hid _ := st.set1 hp hz2 ⟨l.toArray⟩ (by show l.toArray.size ≤ 5000; rw [List.size_toArray]; omega)
          clear st
          go_wp2
          refine bodyPost_ret (results_wr Try.results58 _ _ w.heap.size _ rfl rfl (put2d _ _ HS.out.hR)) rfl ⟨⟨_, _⟩, _, rfl, HS.out.ht, HS.out.c.below (((Below.refl _ _).setCell (by show p + 1 ≤ w.heap.size; omega) _).setCell (by show p + 1 ≤ w.heap.size; omega) _), ?_⟩
          have gA := gb_set (wr.setCell ⟨q, 1, none⟩ (.string ⟨l.toArray⟩)) w.heap.size 0 (.int .i64 x4)
          have gB := gb_set ((wr.setCell ⟨q, 1, none⟩ (.string ⟨l.toArray⟩)).setCell ⟨w.heap.size, 0, none⟩ (.int .i64 x4)) w.heap.size 1 (.string ⟨l.toArray⟩)
          have g0 := HS.out.gb
          exact ⟨(gB.os.trans gA.os).trans g0.os, (gB.tape.trans gA.tape).trans g0.tape, (gB.output.trans gA.output).trans g0.output, Nat.le_trans g0.size (Nat.le_trans gA.size gB.size), fun k hk hne => (gB.block k (by have := g0.size; have := gA.size; omega) (fun e => by have := Option.some.inj e; omega)).trans ((gA.block k (by have := g0.size; omega) (fun e => by have := Option.some.inj e; omega)).trans (g0.block k hk hne))⟩

end Go.Proofs.Ytpmdhoiodbjojaa
