/- Draws of transactions: spec.l9Txn (weak: some transaction with few writes and short texts). -/
import Derived.Test.YtfdahfealibbnaaDoorRows
import Derived.Test.YtfdahfealibbnaaDoorIJq
import Derived.Test.YtfdahfealibbnaaDoorDr1
import Derived.Test.YtfdahfealibbnaaDoorDr2
import Derived.Deep.Cut
import Derived.Deep.CutRange
namespace Go.Proofs.YtfdahfealibbnaaDoor
open Go.RowKit Go.Sort

/-- while a transaction is drawn: the answer's block, the transaction's box at o and its row, the cursor -/
structure LxSt (S : Src) (p : Nat) (w : World) (o : Nat) (sq : Int) (u : Value) (acc : List Wr) (s : Nat × Int) (wr : World) : Prop where
  res : wr.heap[w.heap.size]? = some (.cells #[.int .i64 0, .slice none 0 0] 29)
  box : wr.heap[o]? = some (.cells #[.int .i64 sq, u] 29)
  row : WrRow wr (o + 1) u acc
  c : At S p s wr
  gb : w.grownBy wr (some p)
  hp : p < w.heap.size
  ho : w.heap.size < o
theorem LxSt.cur {S : Src} {p : Nat} {w : World} {o : Nat} {sq : Int} {u : Value} {acc : List Wr} {s s' : Nat × Int} {wr wr' : World} (h : LxSt S p w o sq u acc s wr) (c : At S p s' wr') (g : wr.grownBy wr' (some p)) : LxSt S p w o sq u acc s' wr' :=
  have hp := h.hp
  have ho := h.ho
  ⟨(g.block _ (lt_of_block h.res) (fun e => by cases e; omega)).trans h.res, (g.block _ (lt_of_block h.box) (fun e => by cases e; omega)).trans h.box, own_gb h.row g (fun q hq e => by cases e; have := (World.ownsRow.lt h.row _ hq).1; omega), c, gbr_trans h.gb g, hp, ho⟩
theorem LxSt.below {S : Src} {p : Nat} {w : World} {o : Nat} {sq : Int} {u : Value} {acc : List Wr} {s : Nat × Int} {wr wr' : World} (h : LxSt S p w o sq u acc s wr) (b : Below wr.heap.size wr wr') : LxSt S p w o sq u acc s wr' :=
  ⟨(b.block _ (lt_of_block h.res)).trans h.res, (b.block _ (lt_of_block h.box)).trans h.box, h.row.below b, h.c.below (b.mono h.c.size), gbr_trans h.gb (gbi_of_below b), h.hp, h.ho⟩
/-- the box's second cell written, the row being anew -/
theorem LxSt.app {S : Src} {p : Nat} {w : World} {o : Nat} {sq : Int} {u v' : Value} {acc acc' : List Wr} {s : Nat × Int} {wr w9 : World} (h : LxSt S p w o sq u acc s wr) (g : wr.grownBy w9 u.ownBlock) (hr : WrRow w9 (o + 1) v' acc') :
    (w9.cell? ⟨o, 1, none⟩ = some u ∧ w9.frozen? ⟨o, 1, none⟩ = false) ∧ LxSt S p w o sq v' acc' s (w9.setCell ⟨o, 1, none⟩ v') := by
  have hp := h.hp
  have ho := h.ho
  have hne : ∀ k, k ≤ o → k < wr.heap.size → w9.heap[k]? = wr.heap[k]? := fun k hk hs => g.block k hs (fun e => by have := (World.ownsRow.lt h.row k e.symm).1; omega)
  have hbox := (hne o (Nat.le_refl _) (lt_of_block h.box)).trans h.box
  have hset : ∀ k, k ≠ o → (w9.setCell ⟨o, 1, none⟩ v').heap[k]? = w9.heap[k]? := fun k hk => Below.heap_setCell _ _ _ k hk
  have hb : Below o wr (w9.setCell ⟨o, 1, none⟩ v') := ((Below.refl o wr).grown g (Nat.le_of_lt (lt_of_block h.box)) (fun k hk => by have := (World.ownsRow.lt h.row k hk).1; omega)).setCell (Nat.le_refl _) _
  refine ⟨⟨Joins.cell_of_block hbox 1, Joins.unfrozen_of_block hbox 1⟩, ⟨(hset _ (by omega)).trans ((hne _ (by omega) (lt_of_block h.res)).trans h.res), Joins.block_setCell (i := 1) hbox v', own_low hr (by omega) _ _, h.c.below (hb.mono (by omega)), ?_, hp, ho⟩⟩
  have hb2 : Below w.heap.size wr (w9.setCell ⟨o, 1, none⟩ v') := hb.mono (by omega)
  exact ⟨hb2.os.trans h.gb.os, hb2.tape.trans h.gb.tape, hb2.output.trans h.gb.output, Nat.le_trans h.gb.size hb2.size, fun k hk hne => (hb2.block k hk).trans (h.gb.block k hk hne)⟩
theorem LxSt.set0 {S : Src} {p : Nat} {w : World} {o : Nat} {sq : Int} {u : Value} {acc : List Wr} {s : Nat × Int} {wr : World} (h : LxSt S p w o sq u acc s wr) (z : Int) : LxSt S p w o z u acc s (wr.setCell ⟨o, 0, none⟩ (.int .i64 z)) := by
  have hp := h.hp
  have ho := h.ho
  have hb : Below o wr (wr.setCell ⟨o, 0, none⟩ (.int .i64 z)) := (Below.refl o wr).setCell (Nat.le_refl _) _
  have hb2 : Below w.heap.size wr (wr.setCell ⟨o, 0, none⟩ (.int .i64 z)) := hb.mono (by omega)
  exact ⟨(Below.heap_setCell _ _ _ _ (by show w.heap.size ≠ o; omega)).trans h.res, Joins.block_setCell (i := 0) h.box _, own_low h.row (by omega) _ _, h.c.below (hb.mono (by omega)), ⟨hb2.os.trans h.gb.os, hb2.tape.trans h.gb.tape, hb2.output.trans h.gb.output, Nat.le_trans h.gb.size hb2.size, fun k hk hne => (hb2.block k hk).trans (h.gb.block k hk hne)⟩, hp, ho⟩
theorem LxSt.cells {S : Src} {p : Nat} {w : World} {o : Nat} {sq : Int} {u : Value} {acc : List Wr} {s : Nat × Int} {wr : World} (h : LxSt S p w o sq u acc s wr) : (wr.cell? ⟨o, 0, none⟩ = some (.int .i64 sq) ∧ wr.cell? ⟨o, 1, none⟩ = some u ∧ ∀ i, wr.frozen? ⟨o, i, none⟩ = false) ∧ wr.cell? ⟨w.heap.size, 0, none⟩ = some (.int .i64 0) ∧ wr.cell? ⟨w.heap.size, 1, none⟩ = some (.slice none 0 0) ∧ ∀ i, wr.frozen? ⟨w.heap.size, i, none⟩ = false :=
  ⟨⟨Joins.cell_of_block h.box 0, Joins.cell_of_block h.box 1, fun i => Joins.unfrozen_of_block h.box i⟩, Joins.cell_of_block h.res 0, Joins.cell_of_block h.res 1, fun i => Joins.unfrozen_of_block h.res i⟩
/-- the text of the first write written anew -/
theorem LxSt.txt {S : Src} {p : Nat} {w : World} {o : Nat} {sq : Int} {ua : Option Addr} {n uc : Nat} {acc : List Wr} {s : Nat × Int} {wr : World} (h : LxSt S p w o sq (.slice ua n uc) acc s wr) {x : Wr} {l : List Wr} (ha : acc = x :: l) (hn : 0 < acc.length) (t : ByteArray) :
    ∃ g, ua = some ⟨g, 0, none⟩ ∧ o < g ∧ wr.cell? ⟨g, 1, none⟩ = some (.string x.text) ∧ wr.frozen? ⟨g, 1, none⟩ = false ∧ LxSt S p w o sq (.slice ua n uc) (⟨x.block, t⟩ :: l) s (wr.setCell ⟨g, 1, none⟩ (.string t)) := by
  subst ha
  have hp := h.hp
  have ho := h.ho
  rcases h.row.2 with ⟨e, h0⟩ | ⟨g, cap, cur, e, hg, hh, hnc, hcp, hcs, htake⟩
  · simp at h0
  · cases e
    have hst := (World.ownsRow.stored h.row 1 (.string t)).1
    have hfl : (flatW (x :: l)).set 1 (.string t) = flatW ((⟨x.block, t⟩ : Wr) :: l) := by simp [flatW_cons, encW]
    rw [hfl] at hst
    have hb : Below (o + 1) wr (wr.setCell ⟨g, 1, none⟩ (.string t)) := (Below.refl (o + 1) wr).setCell hg _
    have hb2 : Below w.heap.size wr (wr.setCell ⟨g, 1, none⟩ (.string t)) := hb.mono (by omega)
    refine ⟨g, rfl, by omega, ?_, World.ownsRow.frozenAt h.row 1, ⟨(hb.block _ (by omega)).trans h.res, (hb.block _ (by omega)).trans h.box, hst, h.c.below (hb.mono (by omega)), ⟨hb2.os.trans h.gb.os, hb2.tape.trans h.gb.tape, hb2.output.trans h.gb.output, Nat.le_trans h.gb.size hb2.size, fun k hk hne => (hb2.block k hk).trans (h.gb.block k hk hne)⟩, hp, ho⟩⟩
    rw [World.ownsRow.cellAt h.row 1 (by simp; omega)]
    simp [flatW_cons, encW]
/-- what a draw says -/
def SaysLx (S : Src) (p : Nat) (w : World) (e : Ending) (w' : World) : Prop :=
  ∃ (sq : Int) (u : Value) (l : List Wr) (s : Nat × Int), e = .returned (.agg #[.int .i64 sq, u]) ∧ WrRow w' w.heap.size u l ∧ (l.length ≤ 10 ∧ ∀ x ∈ l, x.text.size ≤ 500) ∧ At S p s w' ∧ w.grownBy w' (some p)
/-- the answer is laid down -/
theorem LxSt.fin {S : Src} {p : Nat} {w : World} {o : Nat} {sq : Int} {u : Value} {acc : List Wr} {s : Nat × Int} {wr : World} (h : LxSt S p w o sq u acc s wr) (hl : acc.length ≤ 10) (hx : ∀ x ∈ acc, x.text.size ≤ 500) :
    Hid (((wr.setCell ⟨w.heap.size, 0, none⟩ (.int .i64 sq)).setCell ⟨w.heap.size, 1, none⟩ u).heap[w.heap.size]? = some (.cells #[.int .i64 sq, u] 29 (0, 0))) ∧ Hid (SaysLx S p w (.returned (.agg #[.int .i64 sq, u])) ((wr.setCell ⟨w.heap.size, 0, none⟩ (.int .i64 sq)).setCell ⟨w.heap.size, 1, none⟩ u)) := by
  have hp := h.hp
  have ho := h.ho
  have hb : Below w.heap.size wr ((wr.setCell ⟨w.heap.size, 0, none⟩ (.int .i64 sq)).setCell ⟨w.heap.size, 1, none⟩ u) := ((Below.refl w.heap.size wr).setCell (p := ⟨w.heap.size, 0, none⟩) (Nat.le_refl _) (.int .i64 sq)).setCell (p := ⟨w.heap.size, 1, none⟩) (Nat.le_refl _) u
  exact ⟨put2d _ _ h.res, ⟨sq, u, acc, s, rfl, WrRow.mono (own_low (own_low h.row (g := w.heap.size) (by omega) _ _) (g := w.heap.size) (by omega) _ _) (by omega), ⟨hl, hx⟩, h.c.below (hb.mono (by omega)), ⟨hb.os.trans h.gb.os, hb.tape.trans h.gb.tape, hb.output.trans h.gb.output, Nat.le_trans h.gb.size hb.size, fun k hk hne => (hb.block k hk).trans (h.gb.block k hk hne)⟩⟩⟩
def sliceM (v : Value) : Nat := match v with | .slice _ n _ => n | _ => 0
theorem row_slice {w : World} {base size n : Nat} {e : TypeId} {v : Value} {xs : List Value} (h : w.ownsRow base e size v n xs) : ∃ va vc, v = .slice va n vc := by
  rcases h.2 with ⟨rfl, h0⟩ | ⟨g, cap, cur, rfl, -⟩
  · exact ⟨none, 0, by rw [h0]⟩
  · exact ⟨_, _, rfl⟩
/-- what stands of the writes that are drawn -/
def OutsOk (acc : List Wr) (b n : Int) : Prop := (∀ x ∈ acc, x.text.size ≤ 500) ∧ (acc = [] → 0 < n ∧ b < 17)

set_option maxRecDepth 100000 in
set_option maxHeartbeats 4000000 in
theorem l9Txn_any (S : Src) (ok : S.ok) (p : Nat) (s : Nat × Int) (w : World) (c : At S p s w) :
    Calls Tryd.prog 39 #[.pointer (some ⟨p, 0, none⟩)] w fun e w' => SaysLx S p w e w' := by
  have B0 := below_lit w (.cells #[.int .i64 0, .slice none 0 0] 29)
  have hp0 := (MapKept.heap_alloc w (.cells #[.int .i64 0, .slice none 0 0] 29)).1
  have S0 : (w.alloc (.cells #[.int .i64 0, .slice none 0 0] 29)).heap.size = w.heap.size + 1 := by simp
  obtain ⟨w0, HW0⟩ : ∃ w0, Hid (w0 = w.alloc (.cells #[.int .i64 0, .slice none 0 0] 29)) := ⟨_, rfl⟩
  have hf : w.alloc (.cells #[.int .i64 0, .slice none 0 0] 29) = w0 := HW0.out.symm
  rw [hf] at B0 hp0 S0
  have hp := c.size
  have c0 := c.below (B0.mono c.size)
  have hx1 := bX_bd S 300 s (by decide)
  obtain ⟨x1, HX1⟩ : ∃ x1, Hid (x1 = bX S 300 s) := ⟨_, rfl⟩
  rw [← HX1.out] at hx1
  have hw1 : IntKind.i64.wrap (1 + x1) = 1 + x1 := by rw [IntKind.wrap_i64]; omega
  go_enter Tryd.func39, Tryd.ntmps39
  go_wp2_with fail
  refine (below_any S ok 300 p s w0 c0).mono ?_
  rintro e w1 ⟨rfl, c1, g1⟩
  rw [← HX1.out]
  have z1 := g1.size
  have BX := below_lit w1 (.cells #[.int .i64 (1 + x1), .slice none 0 0] 29)
  have gb1 : w.grownBy w1 (some p) := gbr_trans (gbi_of_below B0) g1
  have ST : LxSt S p w w1.heap.size (1 + x1) (.slice none 0 0) [] (bS S 300 s) (w1.alloc (.cells #[.int .i64 (1 + x1), .slice none 0 0] 29)) :=
    ⟨(BX.block _ (by omega)).trans ((g1.block _ (by omega) (fun e => by cases e; omega)).trans hp0), (MapKept.heap_alloc w1 _).1, nil_wrs _ _, c1.below (BX.mono c1.size), gbr_trans gb1 (gbi_of_below BX), hp, by omega⟩
  generalize bS S 300 s = s1 at ST
  clear c1 g1 gb1 c0 HX1 B0 hp0 hf HW0 z1
  have hs1 := ST.c.size
  go_wp2_with fail
  refine (below_any S ok 4 p s1 _ ST.c).mono ?_
  rintro e w2 ⟨rfl, c2, g2⟩
  have ST2 := ST.cur c2 g2
  have hb2 := bX_bd S 4 s1 (by decide)
  generalize bX S 4 s1 = b0 at *
  generalize bS S 4 s1 = s2 at *
  clear ST c2 g2 BX
  go_wp2_with fail
  refine (below_any S ok 4 p s2 w2 ST2.c).mono ?_
  rintro e w3 ⟨rfl, c3, g3⟩
  have ST3 := ST2.cur c3 g3
  have hb3 := bX_bd S 4 s2 (by decide)
  generalize bX S 4 s2 = n0 at *
  generalize bS S 4 s2 = s3 at *
  have hw3 : IntKind.i64.wrap (1 + n0) = 1 + n0 := by rw [IntKind.wrap_i64]; omega
  have HST3 : Hid (LxSt S p w w1.heap.size (1 + x1) (.slice none 0 0) [] s3 w3) := ST3
  clear ST2 ST3 c3 g3
  generalize 1 + x1 = sq at *
  go_wp2
  go_loopw [4, 5] (fun bv nv wr => ∃ (b n : Int) (acc : List Wr) (u : Value) (s' : Nat × Int), bv = .int .i64 b ∧ nv = .int .i64 n ∧ (0 ≤ b ∧ b ≤ 100) ∧ (0 ≤ n ∧ n ≤ 4) ∧ (acc.length : Int) + n ≤ 4 ∧ Hid (OutsOk acc b n) ∧ Hid (LxSt S p w w1.heap.size sq u acc s' wr)) (fun _ nv _ => (intOf nv).toNat)
  case atStart => exact ⟨b0, 1 + n0, [], .slice none 0 0, s3, rfl, rfl, ⟨by omega, by omega⟩, ⟨by omega, by omega⟩, by simp; omega, ⟨fun x hx => (by cases hx), fun _ => ⟨by omega, by omega⟩⟩, HST3⟩
  case round =>
    obtain ⟨b, n, acc, u, s', rfl, rfl, ⟨hba, hbb⟩, ⟨hna, hnb⟩, hln, HOO, HST⟩ := hrel
    by_cases hgo : 0 < n ∧ b < 17
    · have hn1 : (0 : Int) < n := hgo.1
      have hb17 : b < 17 := hgo.2
      have hdn : decide ((0 : Int) < n) = true := decide_eq_true hn1
      have c4 : wr.cell? ⟨w1.heap.size, 1, none⟩ = some u := HST.out.cells.1.2.1
      have SD := HST.out.below ((Below.refl wr.heap.size wr).drew)
      have HTX := text_any S ok 9 (by decide) (by decide) p s' wr.drew SD.c
      have htl := tL_length S 9 s' (by decide)
      obtain ⟨tx, HTT⟩ : ∃ tx : ByteArray, Hid (tx = ⟨(tL S 9 s').toArray⟩) := ⟨_, rfl⟩
      have htx : tx.size ≤ 9 := by rw [HTT.out]; simp [ByteArray.size]; omega
      rw [← HTT.out] at HTX
      have HE0 : Calls Tryd.prog 56 #[.pointer (some ⟨p, 0, none⟩), .int .i64 9] wr.drew fun e w' => e = .returned (.string tx) ∧ LxSt S p w w1.heap.size sq u acc (tS S 9 s') w' := HTX.mono fun e w' h => ⟨h.1, SD.cur h.2.1 h.2.2⟩
      generalize tS S 9 s' = s5 at HE0
      have haccl : acc.length + 1 ≤ 1099511627776 := by omega
      have HX : Hid (∀ x ∈ acc, x.text.size ≤ 500) := HOO.out.1
      have hwn : IntKind.i64.wrap (n - 1) = n - 1 := by rw [IntKind.wrap_i64]; omega
      have hwb : IntKind.i64.wrap (b + 1) = b + 1 := by rw [IntKind.wrap_i64]; omega
      have hln2 : (acc ++ [(⟨b, tx⟩ : Wr)]).length = acc.length + 1 := by simp
      have HO2 : Hid (∀ b' n', OutsOk (acc ++ [(⟨b, tx⟩ : Wr)]) b' n') := fun b' n' => ⟨fun x hx => by
        rcases List.mem_append.1 hx with h | h
        · exact HX.out x h
        · rw [List.mem_singleton.1 h]; show tx.size ≤ 500; omega, fun h => by simp at h⟩
      clear HTX SD HTT HOO htl hgo HST
      go_wp2
      have c4d : wr.drew.cell? ⟨w1.heap.size, 1, none⟩ = some u := c4
      go_cut [] from 25 to 33 (fun wx => Hid (∃ v', LxSt S p w w1.heap.size sq v' (acc ++ [(⟨b, tx⟩ : Wr)]) s5 wx))
      case first =>
        go_region_law
          (first
          | (go_simp; go_at_call 56; refine HE0.mono ?_; rintro e w7 ⟨rfl, ST7⟩; have c7 : w7.cell? ⟨w1.heap.size, 1, none⟩ = some u := Joins.cell_of_block ST7.box 1; have ST8 := ST7.below (below_lit w7 (.cells #[.int .i64 b, .string tx] 43)); have c8 : (w7.alloc (.cells #[.int .i64 b, .string tx] 43)).cell? ⟨w1.heap.size, 1, none⟩ = some u := Joins.cell_of_block ST8.box 1; have hblk8 := (MapKept.heap_alloc w7 (.cells #[.int .i64 b, .string tx] 43)).1; have hb8 : w1.heap.size + 1 ≤ (w7.alloc (.cells #[.int .i64 b, .string tx] 43)).heap.size := Nat.le_trans (lt_of_block ST7.box) (by simp); have hq7 : ¬ w1.heap.size = w7.heap.size := (by have := lt_of_block ST7.box; omega); have hq7' : ¬ w7.heap.size = w1.heap.size := (by omega); dsimp only)
          | ((refine step_append_wr1 (by rfl) (.tmp 26) (.tmp 31) (by rfl) (w1.heap.size + 1) u acc ⟨b, tx⟩ ST8.row (by rfl) w7.heap.size 1 (by rfl) hblk8 haccl hb8 ?_; intro v' w9 hr9 hg9; obtain ⟨⟨c9, f9⟩, ST9⟩ := ST8.app hg9 hr9; obtain ⟨va, vc, hv9⟩ := row_slice hr9; rw [hln2] at hv9; subst hv9; have ST9 : Hid (LxSt S p w w1.heap.size sq (.slice va (acc.length + 1) vc) (acc ++ [(⟨b, tx⟩ : Wr)]) s5 (w9.setCell ⟨w1.heap.size, 1, none⟩ (.slice va (acc.length + 1) vc))) := ST9)))
        all_goals (try go_wp2)
        all_goals go_meet
        all_goals exact ⟨_, ST9.out⟩
      case rest =>
        obtain ⟨v', ST9⟩ := hcut.out
        generalize acc ++ [(⟨b, tx⟩ : Wr)] = acc2 at *
        go_wp2_with fail
        refine (below_any S ok 5 p s5 wc ST9.c).mono ?_
        rintro e w10 ⟨rfl, c10, g10⟩
        have ST10 := ST9.cur c10 g10
        have hb10 := bX_bd S 5 s5 (by decide)
        generalize bX S 5 s5 = z at *
        have hwz : IntKind.i64.wrap (b + 1 + z) = b + 1 + z := by rw [IntKind.wrap_i64]; omega
        have HS10 : Hid (LxSt S p w w1.heap.size sq v' acc2 (bS S 5 s5) w10) := ST10
        clear ST9 ST10 c10 g10
        go_wp2
        go_roundw
        case rel => exact ⟨b + 1 + z, n - 1, acc2, v', _, rfl, rfl, ⟨by omega, by omega⟩, ⟨by omega, by omega⟩, by omega, HO2.out _ _, HS10⟩
        case measure => simp [intOf]; omega
    · by_cases hnn : 0 < n
      · have hn1 : (0 : Int) < n := hnn
        have hdn : decide ((0 : Int) < n) = true := decide_eq_true hn1
        have hb17 : ¬ b < 17 := fun h => hgo ⟨hn1, h⟩
        have HX : ∀ x ∈ acc, x.text.size ≤ 500 := HOO.out.1
        have hne : acc ≠ [] := fun h => hgo (HOO.out.2 h)
        have hl10 : acc.length + 1 ≤ 10 := by omega
        have HXX : Hid (∀ x ∈ acc, x.text.size ≤ 500) := HX
        have hacl : 0 < acc.length := List.length_pos_iff.2 hne
        have ST4 := HST.out
        clear HX hne HOO HST HST3 hgo
        go_wp2_with fail
        refine (once_any S ok 10 p s' wr ST4.c).mono ?_
        rintro e w5 ⟨rfl, c5, g5⟩
        have ST5 := ST4.cur c5 g5
        generalize (bX S 10 s' == 0) = once
        generalize bS S 10 s' = s5 at ST5
        obtain ⟨ua, uc, hu⟩ := row_slice ST5.row
        subst hu
        clear ST4 c5 g5
        cases once with
        | false =>
          obtain ⟨⟨x0, x1', xf⟩, y0, y1, yf⟩ := ST5.cells
          obtain ⟨K1, K2⟩ := ST5.fin (by omega) HXX.out
          clear ST5
          go_wp2
          exact bodyPost_ret (results_txn Tryd.results39 _ _ w.heap.size _ rfl rfl K1.out) rfl K2.out
        | true =>
          have hbx := bX_bd S 4 s5 (by decide)
          go_wp2_with fail
          refine (below_any S ok 4 p s5 w5 ST5.c).mono ?_
          rintro e w6 ⟨rfl, c6, g6⟩
          have ST6 := ST5.cur c6 g6
          generalize bX S 4 s5 = k at *
          generalize bS S 4 s5 = s6 at ST6
          clear ST5 c6 g6
          by_cases k0 : k = 0
          · have hk0 : (k == 0) = true := by rw [beq_iff_eq]; exact k0
            have BP := below_lit w6 (.cells #[.int .i64 (-1), .int .i64 0, .int .i64 1000000, .int .i64 1000001] 3)
            have STP := ST6.below BP
            have hpk := (MapKept.heap_alloc w6 (.cells #[.int .i64 (-1), .int .i64 0, .int .i64 1000000, .int .i64 1000001] 3)).1
            have hzp : p < w6.heap.size := ST6.c.size
            clear k0
            go_wp2_with fail
            refine (pick_any S ok [-1, 0, 1000000, 1000001] 4 rfl w6.heap.size 3 p s6 _ STP.c (by decide) (by decide) (by omega) hpk).mono ?_
            rintro e w7 ⟨rfl, c7, g7⟩
            have ST7 := STP.cur c7 g7
            generalize pX S [-1, 0, 1000000, 1000001] s6 = z7
            obtain ⟨⟨x0, x1', xf⟩, -⟩ := ST7.cells
            have ST8 := ST7.set0 z7
            obtain ⟨⟨u0, u1, uf⟩, y0, y1, yf⟩ := ST8.cells
            obtain ⟨K1, K2⟩ := ST8.fin (by omega) HXX.out
            clear ST6 STP ST7 ST8 c7 g7 BP hpk
            go_wp2
            exact bodyPost_ret (results_txn Tryd.results39 _ _ w.heap.size _ rfl rfl K1.out) rfl K2.out
          · have hk0 : (k == 0) = false := by rw [beq_eq_false_iff_ne]; exact k0
            by_cases k1 : k = 1
            · have hk1 : (k == 1) = true := by rw [beq_iff_eq]; exact k1
              have BP := below_lit w6 (.cells #[] 43)
              have STP := ST6.below BP
              have hz6 := lt_of_block ST6.box
              have hr6 := WrRow.mono (lit_wrs w6) (base' := w1.heap.size + 1) (by omega)
              obtain ⟨wa, HWA⟩ : ∃ wa, Hid (wa = w6.alloc (.cells #[] 43)) := ⟨_, rfl⟩
              have hfa : w6.alloc (.cells #[] 43) = wa := HWA.out.symm
              rw [hfa] at STP hr6 BP
              obtain ⟨⟨c9, f9⟩, ST8⟩ := STP.app (⟨rfl, rfl, rfl, Nat.le_refl _, fun _ _ _ => rfl⟩) hr6
              obtain ⟨⟨u0, u1, uf⟩, y0, y1, yf⟩ := ST8.cells
              obtain ⟨K1, K2⟩ := ST8.fin (by simp) (fun x hx => (by cases hx))
              have hq7 : ¬ w1.heap.size = w6.heap.size := by omega
              have hq7' : ¬ w6.heap.size = w1.heap.size := by omega
              clear ST6 STP ST8 BP k0 k1
              go_wp2
              exact bodyPost_ret (results_txn Tryd.results39 _ _ w.heap.size _ rfl rfl K1.out) rfl K2.out
            · have hk1 : (k == 1) = false := by rw [beq_eq_false_iff_ne]; exact k1
              by_cases k2 : k = 2
              · have hk2 : (k == 2) = true := by rw [beq_iff_eq]; exact k2
                have c4 : w6.cell? ⟨w1.heap.size, 1, none⟩ = some (.slice ua acc.length uc) := ST6.cells.1.2.1
                have STP := (ST6.below (below_lit w6 (.cells #[.int .i64 0, .int .i64 16, .int .i64 17] 3))).below ((Below.refl _ (w6.alloc (.cells #[.int .i64 0, .int .i64 16, .int .i64 17] 3))).drew)
                have c5 : (w6.alloc (.cells #[.int .i64 0, .int .i64 16, .int .i64 17] 3)).cell? ⟨w1.heap.size, 1, none⟩ = some (.slice ua acc.length uc) := STP.cells.1.2.1
                have hpk : (w6.alloc (.cells #[.int .i64 0, .int .i64 16, .int .i64 17] 3)).drew.heap[w6.heap.size]? = some (.cells #[.int .i64 0, .int .i64 16, .int .i64 17] 3) := (MapKept.heap_alloc w6 (.cells #[.int .i64 0, .int .i64 16, .int .i64 17] 3)).1
                have hzp : p < w6.heap.size := ST6.c.size
                have HPC := pick_any S ok [0, 16, 17] 3 rfl w6.heap.size 3 p s6 _ STP.c (by decide) (by decide) (by omega) hpk
                obtain ⟨pz, HPZ⟩ : ∃ pz, Hid (pz = pX S [0, 16, 17] s6) := ⟨_, rfl⟩
                rw [← HPZ.out] at HPC
                generalize bS S (([0, 16, 17] : List Int).length : Int) s6 = s7 at HPC
                have HE0 : Calls Tryd.prog 58 #[.pointer (some ⟨p, 0, none⟩), .slice (some ⟨w6.heap.size, 0, none⟩) 3 3] (w6.alloc (.cells #[.int .i64 0, .int .i64 16, .int .i64 17] 3)).drew fun e w' => e = .returned (.int .i64 pz) ∧ LxSt S p w w1.heap.size sq (.slice ua acc.length uc) acc s7 w' := HPC.mono fun e w' h => ⟨h.1, STP.cur h.2.1 h.2.2⟩
                have haccl : acc.length + 1 ≤ 1099511627776 := by omega
                have hln2 : (acc ++ [(⟨pz, ⟨#[]⟩⟩ : Wr)]).length = acc.length + 1 := by simp
                have HX2 : Hid (∀ x ∈ acc ++ [(⟨pz, ⟨#[]⟩⟩ : Wr)], x.text.size ≤ 500) := fun x hx => by
                  rcases List.mem_append.1 hx with h | h
                  · exact HXX.out x h
                  · rw [List.mem_singleton.1 h]; simp [ByteArray.size]
                have hz6 := lt_of_block ST6.box
                have hq6 : ¬ w1.heap.size = w6.heap.size := by omega
                have hq6' : ¬ w6.heap.size = w1.heap.size := by omega
                clear HPC STP HPZ k0 k1 k2 ST6 hz6
                go_wp2
                go_region_law
                  (first
                  | (go_simp; go_at_call 58; refine HE0.mono ?_; rintro e w7 ⟨rfl, ST7⟩; have c7 : w7.cell? ⟨w1.heap.size, 1, none⟩ = some (.slice ua acc.length uc) := Joins.cell_of_block ST7.box 1; have ST8 := ST7.below (below_lit w7 (.cells #[.int .i64 pz, .string ⟨#[]⟩] 43)); have c8 : (w7.alloc (.cells #[.int .i64 pz, .string ⟨#[]⟩] 43)).cell? ⟨w1.heap.size, 1, none⟩ = some (.slice ua acc.length uc) := Joins.cell_of_block ST8.box 1; have hblk8 := (MapKept.heap_alloc w7 (.cells #[.int .i64 pz, .string ⟨#[]⟩] 43)).1; have hb8 : w1.heap.size + 1 ≤ (w7.alloc (.cells #[.int .i64 pz, .string ⟨#[]⟩] 43)).heap.size := Nat.le_trans (lt_of_block ST7.box) (by simp); have hq7 : ¬ w1.heap.size = w7.heap.size := (by have := lt_of_block ST7.box; omega); have hq7' : ¬ w7.heap.size = w1.heap.size := (by omega); dsimp only)
                  | ((refine step_append_wr1 (by rfl) (.tmp 73) (.tmp 78) (by rfl) (w1.heap.size + 1) (.slice ua acc.length uc) acc ⟨pz, ⟨#[]⟩⟩ ST8.row (by rfl) w7.heap.size 1 (by rfl) hblk8 haccl hb8 ?_; intro v' w9 hr9 hg9; obtain ⟨⟨c9, f9⟩, ST9⟩ := ST8.app hg9 hr9; obtain ⟨va, vc, hv9⟩ := row_slice hr9; rw [hln2] at hv9; subst hv9; have ST9 : Hid (LxSt S p w w1.heap.size sq (.slice va (acc.length + 1) vc) (acc ++ [(⟨pz, ⟨#[]⟩⟩ : Wr)]) s7 (w9.setCell ⟨w1.heap.size, 1, none⟩ (.slice va (acc.length + 1) vc))) := ST9)))
                all_goals (
                  obtain ⟨⟨u0, u1, uf⟩, y0, y1, yf⟩ := ST9.out.cells
                  obtain ⟨K1, K2⟩ := ST9.out.fin (by rw [hln2]; omega) HX2.out
                  clear ST9 ST8 ST7
                  go_wp2
                  exact bodyPost_ret (results_txn Tryd.results39 _ _ w.heap.size _ rfl rfl K1.out) rfl K2.out)
              · have hk2 : (k == 2) = false := by rw [beq_eq_false_iff_ne]; exact k2
                have hby := bX_bd S 2 s6 (by decide)
                clear k0 k1 k2
                go_wp2_with fail
                refine (below_any S ok 2 p s6 w6 ST6.c).mono ?_
                rintro e w7 ⟨rfl, c7, g7⟩
                have ST7 := ST6.cur c7 g7
                obtain ⟨y, hy⟩ := Int.eq_ofNat_of_zero_le hby.1
                have hy2 : y < 2 := by omega
                rw [hy]
                generalize bS S 2 s6 = s7 at ST7
                have hw4 : IntKind.i64.wrap (400 + (y : Int)) = 400 + (y : Int) := by rw [IntKind.wrap_i64]; omega
                have BE := below_lit w7 (.cells #[] 5)
                have hown7 := empty_row w7 5
                clear ST6 c7 g7 hby hy
                go_wp2
                go_loopw [7] (fun v wr => ∃ (l : List UInt8) (va : Option Addr) (vc : Nat), v = .slice va l.length vc ∧ l.length ≤ 400 + y ∧ wr.ownsRow w7.heap.size 5 1 v l.length (bytesV l) ∧ Below w7.heap.size w7 wr) (fun v _ => 500 - sliceM v)
                case atStart => exact ⟨[], _, _, rfl, by simp, hown7, BE⟩
                case round =>
                  obtain ⟨l, va, vc, rfl, hl, hown, hbel⟩ := hrel
                  by_cases hlt : l.length < 400 + y
                  · have hlt' : (l.length : Int) < 400 + (y : Int) := by omega
                    have HLL : Hid (l.length < 400 + y) := hlt
                    clear hlt
                    go_wp2_with (at_builtin; refine append_byte wr rfl (.tmp 51) (.tmp 52) 37 5 rfl w7.heap.size Tryd.underlying37 Tryd.infoB _ l 66 (by omega) (by omega) (by omega) hown rfl rfl hbel.size ?_; intro v8 w8 hown8 hbel8; obtain ⟨va8, vc8, hf8⟩ := row_slice hown8; subst hf8)
                    go_roundw
                    case rel =>
                      have e1 : (l ++ [UInt8.ofNat (Int.toNat 66)]).length = l.length + 1 := by simp
                      exact ⟨l ++ [UInt8.ofNat (Int.toNat 66)], va8, vc8, by rw [e1], by rw [e1]; have := HLL.out; omega, by rw [e1] at hown8 ⊢; exact hown8, hbel.trans hbel8⟩
                    case measure => simp [sliceM]; have := HLL.out; omega
                  · have hlt' : ¬ ((l.length : Int) < 400 + (y : Int)) := by omega
                    have hcv := row_string (P := Tryd.prog) (T := 9) Tryd.underlying37 Tryd.underlying5 Tryd.underlying9 hown
                    have ST8 := ST7.below hbel
                    have hls : l.toArray.size ≤ 500 := by rw [List.size_toArray]; omega
                    obtain ⟨x0, l0, hacc0⟩ : ∃ x l, Hid (acc = x :: l) := by
                      cases acc with
                      | nil => simp at hacl
                      | cons x l => exact ⟨x, l, rfl⟩
                    obtain ⟨g, rfl, hg0, gc, gf, ST9⟩ := ST8.txt hacc0.out hacl ⟨l.toArray⟩
                    obtain ⟨⟨v0, v1, vf⟩, -⟩ := ST8.cells
                    obtain ⟨⟨u0, u1, uf⟩, y0, y1, yf⟩ := ST9.cells
                    have hl9 : (⟨x0.block, ⟨l.toArray⟩⟩ :: l0 : List Wr).length = acc.length := by rw [hacc0.out]; rfl
                    obtain ⟨K1, K2⟩ := ST9.fin (by rw [hl9]; omega) (fun z hz => by
                      rcases List.mem_cons.1 hz with rfl | h
                      · exact hls
                      · exact HXX.out z (by rw [hacc0.out]; exact List.mem_cons_of_mem _ h))
                    have hacl' : (0 : Int) < (acc.length : Int) := by omega
                    clear hlt ST7 ST8 ST9
                    go_wp2
                    exact bodyPost_ret (results_txn Tryd.results39 _ _ w.heap.size _ rfl rfl K1.out) rfl K2.out
      · have hn1 : ¬ ((0 : Int) < n) := hnn
        have hdn : decide ((0 : Int) < n) = false := decide_eq_false hn1
        have HX : ∀ x ∈ acc, x.text.size ≤ 500 := HOO.out.1
        have hne : acc ≠ [] := fun h => hgo (HOO.out.2 h)
        have hl10 : acc.length + 1 ≤ 10 := by omega
        have HXX : Hid (∀ x ∈ acc, x.text.size ≤ 500) := HX
        have hacl : 0 < acc.length := List.length_pos_iff.2 hne
        have ST4 := HST.out
        clear HX hne HOO HST HST3 hgo
        go_wp2_with fail
        refine (once_any S ok 10 p s' wr ST4.c).mono ?_
        rintro e w5 ⟨rfl, c5, g5⟩
        have ST5 := ST4.cur c5 g5
        generalize (bX S 10 s' == 0) = once
        generalize bS S 10 s' = s5 at ST5
        obtain ⟨ua, uc, hu⟩ := row_slice ST5.row
        subst hu
        clear ST4 c5 g5
        cases once with
        | false =>
          obtain ⟨⟨x0, x1', xf⟩, y0, y1, yf⟩ := ST5.cells
          obtain ⟨K1, K2⟩ := ST5.fin (by omega) HXX.out
          clear ST5
          go_wp2
          exact bodyPost_ret (results_txn Tryd.results39 _ _ w.heap.size _ rfl rfl K1.out) rfl K2.out
        | true =>
          have hbx := bX_bd S 4 s5 (by decide)
          go_wp2_with fail
          refine (below_any S ok 4 p s5 w5 ST5.c).mono ?_
          rintro e w6 ⟨rfl, c6, g6⟩
          have ST6 := ST5.cur c6 g6
          generalize bX S 4 s5 = k at *
          generalize bS S 4 s5 = s6 at ST6
          clear ST5 c6 g6
          by_cases k0 : k = 0
          · have hk0 : (k == 0) = true := by rw [beq_iff_eq]; exact k0
            have BP := below_lit w6 (.cells #[.int .i64 (-1), .int .i64 0, .int .i64 1000000, .int .i64 1000001] 3)
            have STP := ST6.below BP
            have hpk := (MapKept.heap_alloc w6 (.cells #[.int .i64 (-1), .int .i64 0, .int .i64 1000000, .int .i64 1000001] 3)).1
            have hzp : p < w6.heap.size := ST6.c.size
            clear k0
            go_wp2_with fail
            refine (pick_any S ok [-1, 0, 1000000, 1000001] 4 rfl w6.heap.size 3 p s6 _ STP.c (by decide) (by decide) (by omega) hpk).mono ?_
            rintro e w7 ⟨rfl, c7, g7⟩
            have ST7 := STP.cur c7 g7
            generalize pX S [-1, 0, 1000000, 1000001] s6 = z7
            obtain ⟨⟨x0, x1', xf⟩, -⟩ := ST7.cells
            have ST8 := ST7.set0 z7
            obtain ⟨⟨u0, u1, uf⟩, y0, y1, yf⟩ := ST8.cells
            obtain ⟨K1, K2⟩ := ST8.fin (by omega) HXX.out
            clear ST6 STP ST7 ST8 c7 g7 BP hpk
            go_wp2
            exact bodyPost_ret (results_txn Tryd.results39 _ _ w.heap.size _ rfl rfl K1.out) rfl K2.out
          · have hk0 : (k == 0) = false := by rw [beq_eq_false_iff_ne]; exact k0
            by_cases k1 : k = 1
            · have hk1 : (k == 1) = true := by rw [beq_iff_eq]; exact k1
              have BP := below_lit w6 (.cells #[] 43)
              have STP := ST6.below BP
              have hz6 := lt_of_block ST6.box
              have hr6 := WrRow.mono (lit_wrs w6) (base' := w1.heap.size + 1) (by omega)
              obtain ⟨wa, HWA⟩ : ∃ wa, Hid (wa = w6.alloc (.cells #[] 43)) := ⟨_, rfl⟩
              have hfa : w6.alloc (.cells #[] 43) = wa := HWA.out.symm
              rw [hfa] at STP hr6 BP
              obtain ⟨⟨c9, f9⟩, ST8⟩ := STP.app (⟨rfl, rfl, rfl, Nat.le_refl _, fun _ _ _ => rfl⟩) hr6
              obtain ⟨⟨u0, u1, uf⟩, y0, y1, yf⟩ := ST8.cells
              obtain ⟨K1, K2⟩ := ST8.fin (by simp) (fun x hx => (by cases hx))
              have hq7 : ¬ w1.heap.size = w6.heap.size := by omega
              have hq7' : ¬ w6.heap.size = w1.heap.size := by omega
              clear ST6 STP ST8 BP k0 k1
              go_wp2
              exact bodyPost_ret (results_txn Tryd.results39 _ _ w.heap.size _ rfl rfl K1.out) rfl K2.out
            · have hk1 : (k == 1) = false := by rw [beq_eq_false_iff_ne]; exact k1
              by_cases k2 : k = 2
              · have hk2 : (k == 2) = true := by rw [beq_iff_eq]; exact k2
                have c4 : w6.cell? ⟨w1.heap.size, 1, none⟩ = some (.slice ua acc.length uc) := ST6.cells.1.2.1
                have STP := (ST6.below (below_lit w6 (.cells #[.int .i64 0, .int .i64 16, .int .i64 17] 3))).below ((Below.refl _ (w6.alloc (.cells #[.int .i64 0, .int .i64 16, .int .i64 17] 3))).drew)
                have c5 : (w6.alloc (.cells #[.int .i64 0, .int .i64 16, .int .i64 17] 3)).cell? ⟨w1.heap.size, 1, none⟩ = some (.slice ua acc.length uc) := STP.cells.1.2.1
                have hpk : (w6.alloc (.cells #[.int .i64 0, .int .i64 16, .int .i64 17] 3)).drew.heap[w6.heap.size]? = some (.cells #[.int .i64 0, .int .i64 16, .int .i64 17] 3) := (MapKept.heap_alloc w6 (.cells #[.int .i64 0, .int .i64 16, .int .i64 17] 3)).1
                have hzp : p < w6.heap.size := ST6.c.size
                have HPC := pick_any S ok [0, 16, 17] 3 rfl w6.heap.size 3 p s6 _ STP.c (by decide) (by decide) (by omega) hpk
                obtain ⟨pz, HPZ⟩ : ∃ pz, Hid (pz = pX S [0, 16, 17] s6) := ⟨_, rfl⟩
                rw [← HPZ.out] at HPC
                generalize bS S (([0, 16, 17] : List Int).length : Int) s6 = s7 at HPC
                have HE0 : Calls Tryd.prog 58 #[.pointer (some ⟨p, 0, none⟩), .slice (some ⟨w6.heap.size, 0, none⟩) 3 3] (w6.alloc (.cells #[.int .i64 0, .int .i64 16, .int .i64 17] 3)).drew fun e w' => e = .returned (.int .i64 pz) ∧ LxSt S p w w1.heap.size sq (.slice ua acc.length uc) acc s7 w' := HPC.mono fun e w' h => ⟨h.1, STP.cur h.2.1 h.2.2⟩
                have haccl : acc.length + 1 ≤ 1099511627776 := by omega
                have hln2 : (acc ++ [(⟨pz, ⟨#[]⟩⟩ : Wr)]).length = acc.length + 1 := by simp
                have HX2 : Hid (∀ x ∈ acc ++ [(⟨pz, ⟨#[]⟩⟩ : Wr)], x.text.size ≤ 500) := fun x hx => by
                  rcases List.mem_append.1 hx with h | h
                  · exact HXX.out x h
                  · rw [List.mem_singleton.1 h]; simp [ByteArray.size]
                have hz6 := lt_of_block ST6.box
                have hq6 : ¬ w1.heap.size = w6.heap.size := by omega
                have hq6' : ¬ w6.heap.size = w1.heap.size := by omega
                clear HPC STP HPZ k0 k1 k2 ST6 hz6
                go_wp2
                go_region_law
                  (first
                  | (go_simp; go_at_call 58; refine HE0.mono ?_; rintro e w7 ⟨rfl, ST7⟩; have c7 : w7.cell? ⟨w1.heap.size, 1, none⟩ = some (.slice ua acc.length uc) := Joins.cell_of_block ST7.box 1; have ST8 := ST7.below (below_lit w7 (.cells #[.int .i64 pz, .string ⟨#[]⟩] 43)); have c8 : (w7.alloc (.cells #[.int .i64 pz, .string ⟨#[]⟩] 43)).cell? ⟨w1.heap.size, 1, none⟩ = some (.slice ua acc.length uc) := Joins.cell_of_block ST8.box 1; have hblk8 := (MapKept.heap_alloc w7 (.cells #[.int .i64 pz, .string ⟨#[]⟩] 43)).1; have hb8 : w1.heap.size + 1 ≤ (w7.alloc (.cells #[.int .i64 pz, .string ⟨#[]⟩] 43)).heap.size := Nat.le_trans (lt_of_block ST7.box) (by simp); have hq7 : ¬ w1.heap.size = w7.heap.size := (by have := lt_of_block ST7.box; omega); have hq7' : ¬ w7.heap.size = w1.heap.size := (by omega); dsimp only)
                  | ((refine step_append_wr1 (by rfl) (.tmp 73) (.tmp 78) (by rfl) (w1.heap.size + 1) (.slice ua acc.length uc) acc ⟨pz, ⟨#[]⟩⟩ ST8.row (by rfl) w7.heap.size 1 (by rfl) hblk8 haccl hb8 ?_; intro v' w9 hr9 hg9; obtain ⟨⟨c9, f9⟩, ST9⟩ := ST8.app hg9 hr9; obtain ⟨va, vc, hv9⟩ := row_slice hr9; rw [hln2] at hv9; subst hv9; have ST9 : Hid (LxSt S p w w1.heap.size sq (.slice va (acc.length + 1) vc) (acc ++ [(⟨pz, ⟨#[]⟩⟩ : Wr)]) s7 (w9.setCell ⟨w1.heap.size, 1, none⟩ (.slice va (acc.length + 1) vc))) := ST9)))
                all_goals (
                  obtain ⟨⟨u0, u1, uf⟩, y0, y1, yf⟩ := ST9.out.cells
                  obtain ⟨K1, K2⟩ := ST9.out.fin (by rw [hln2]; omega) HX2.out
                  clear ST9 ST8 ST7
                  go_wp2
                  exact bodyPost_ret (results_txn Tryd.results39 _ _ w.heap.size _ rfl rfl K1.out) rfl K2.out)
              · have hk2 : (k == 2) = false := by rw [beq_eq_false_iff_ne]; exact k2
                have hby := bX_bd S 2 s6 (by decide)
                clear k0 k1 k2
                go_wp2_with fail
                refine (below_any S ok 2 p s6 w6 ST6.c).mono ?_
                rintro e w7 ⟨rfl, c7, g7⟩
                have ST7 := ST6.cur c7 g7
                obtain ⟨y, hy⟩ := Int.eq_ofNat_of_zero_le hby.1
                have hy2 : y < 2 := by omega
                rw [hy]
                generalize bS S 2 s6 = s7 at ST7
                have hw4 : IntKind.i64.wrap (400 + (y : Int)) = 400 + (y : Int) := by rw [IntKind.wrap_i64]; omega
                have BE := below_lit w7 (.cells #[] 5)
                have hown7 := empty_row w7 5
                clear ST6 c7 g7 hby hy
                go_wp2
                go_loopw [7] (fun v wr => ∃ (l : List UInt8) (va : Option Addr) (vc : Nat), v = .slice va l.length vc ∧ l.length ≤ 400 + y ∧ wr.ownsRow w7.heap.size 5 1 v l.length (bytesV l) ∧ Below w7.heap.size w7 wr) (fun v _ => 500 - sliceM v)
                case atStart => exact ⟨[], _, _, rfl, by simp, hown7, BE⟩
                case round =>
                  obtain ⟨l, va, vc, rfl, hl, hown, hbel⟩ := hrel
                  by_cases hlt : l.length < 400 + y
                  · have hlt' : (l.length : Int) < 400 + (y : Int) := by omega
                    have HLL : Hid (l.length < 400 + y) := hlt
                    clear hlt
                    go_wp2_with (at_builtin; refine append_byte wr rfl (.tmp 51) (.tmp 52) 37 5 rfl w7.heap.size Tryd.underlying37 Tryd.infoB _ l 66 (by omega) (by omega) (by omega) hown rfl rfl hbel.size ?_; intro v8 w8 hown8 hbel8; obtain ⟨va8, vc8, hf8⟩ := row_slice hown8; subst hf8)
                    go_roundw
                    case rel =>
                      have e1 : (l ++ [UInt8.ofNat (Int.toNat 66)]).length = l.length + 1 := by simp
                      exact ⟨l ++ [UInt8.ofNat (Int.toNat 66)], va8, vc8, by rw [e1], by rw [e1]; have := HLL.out; omega, by rw [e1] at hown8 ⊢; exact hown8, hbel.trans hbel8⟩
                    case measure => simp [sliceM]; have := HLL.out; omega
                  · have hlt' : ¬ ((l.length : Int) < 400 + (y : Int)) := by omega
                    have hcv := row_string (P := Tryd.prog) (T := 9) Tryd.underlying37 Tryd.underlying5 Tryd.underlying9 hown
                    have ST8 := ST7.below hbel
                    have hls : l.toArray.size ≤ 500 := by rw [List.size_toArray]; omega
                    obtain ⟨x0, l0, hacc0⟩ : ∃ x l, Hid (acc = x :: l) := by
                      cases acc with
                      | nil => simp at hacl
                      | cons x l => exact ⟨x, l, rfl⟩
                    obtain ⟨g, rfl, hg0, gc, gf, ST9⟩ := ST8.txt hacc0.out hacl ⟨l.toArray⟩
                    obtain ⟨⟨v0, v1, vf⟩, -⟩ := ST8.cells
                    obtain ⟨⟨u0, u1, uf⟩, y0, y1, yf⟩ := ST9.cells
                    have hl9 : (⟨x0.block, ⟨l.toArray⟩⟩ :: l0 : List Wr).length = acc.length := by rw [hacc0.out]; rfl
                    obtain ⟨K1, K2⟩ := ST9.fin (by rw [hl9]; omega) (fun z hz => by
                      rcases List.mem_cons.1 hz with rfl | h
                      · exact hls
                      · exact HXX.out z (by rw [hacc0.out]; exact List.mem_cons_of_mem _ h))
                    have hacl' : (0 : Int) < (acc.length : Int) := by omega
                    clear hlt ST7 ST8 ST9
                    go_wp2
                    exact bodyPost_ret (results_txn Tryd.results39 _ _ w.heap.size _ rfl rfl K1.out) rfl K2.out

end Go.Proofs.YtfdahfealibbnaaDoor
