/- Names in order: places sorted by the names that stand there: what the library's sort functions share here. Names in order: the library's choosePivot: a place of the row between both ends; it changes nothing. Names in order: the library's reverseRange: the places between both ends, in another order. -/
import Derived.Test.YtlkemmdcjnaepaaDoorRows
import Derived.Test.YtlkemmdcjnaepaaDoorG38
import Derived.Shelf.SlSortCmp.Kit1
import Derived.Deep.QuietTactic
import Derived.BigQuiet
import Derived.Sort.LotC
namespace Go.Proofs.YtlkemmdcjnaepaaDoor

section
open Go.RowKit Go.Sort Go.Shelf Go.Lib

def encF {m : Nat} (x : Fin (m + 1)) : Value := .int .i64 ((x.val : Nat) : Int)
theorem encF_one {m : Nat} : OneCell (encF (m := m)) := fun _ => rfl
/-- the row of places, and what they are held against each other by -/
structure Sby (m : Nat) (w0 : World) (blk off : Nat) (d0 : Array (Fin (m + 1))) (rv : Value) (cf : Fin (m + 1) → Fin (m + 1) → Int) : Prop where
  R : Row1 encF w0 blk off d0
  cmp : ∀ (dk : Array (Fin (m + 1))) (W : World), dk.size = d0.size → SW encF w0 blk off dk W → ∀ x y : Fin (m + 1),
    Calls Tryd.prog 37 #[rv, .int .i64 ((x.val : Nat) : Int), .int .i64 ((y.val : Nat) : Int)] W fun e w' => e = .returned (.int .i64 (cf x y)) ∧ ∃ q, w' = W.drewN q
  hs : d0.size ≤ 1048576
section
variable {m : Nat} {w0 : World} {blk off : Nat} {d0 : Array (Fin (m + 1))} {rv : Value} {cf : Fin (m + 1) → Fin (m + 1) → Int}
/-- a place of the row, as it is read -/
theorem Sby.cell (S : Sby m w0 blk off d0 rv cf) {dk : Array (Fin (m + 1))} {W : World} (h : SW encF w0 blk off dk W) (hs : dk.size = d0.size) (i : Nat) (hi : i < dk.size) : W.cell? ⟨blk, off + i, none⟩ = some (.int .i64 ((dk[i]!.val : Nat) : Int)) := h.c1 S.R hs i hi
/-- two places exchanged -/
theorem Sby.swap (S : Sby m w0 blk off d0 rv cf) {dk : Array (Fin (m + 1))} {W : World} (h : SW encF w0 blk off dk W) (hs : dk.size = d0.size) (i j : Nat) (hi : i < dk.size) (hj : j < dk.size) :
    (W.cell? ⟨blk, off + i, none⟩ = some (.int .i64 ((dk[i]!.val : Nat) : Int)) ∧ W.cell? ⟨blk, off + j, none⟩ = some (.int .i64 ((dk[j]!.val : Nat) : Int))) ∧ (W.frozen? ⟨blk, off + i, none⟩ = false ∧ W.frozen? ⟨blk, off + j, none⟩ = false) ∧
    (∃ u, (W.setCell ⟨blk, off + i, none⟩ (.int .i64 ((dk[j]!.val : Nat) : Int))).cell? ⟨blk, off + j, none⟩ = some u) ∧
    SW encF w0 blk off (swp dk i j) ((W.setCell ⟨blk, off + i, none⟩ (.int .i64 ((dk[j]!.val : Nat) : Int))).setCell ⟨blk, off + j, none⟩ (.int .i64 ((dk[i]!.val : Nat) : Int))) :=
  ⟨⟨h.c1 S.R hs i hi, h.c1 S.R hs j hj⟩, ⟨h.f1 S.R hs i hi, h.f1 S.R hs j hj⟩, h.c2 S.R hs i j hi hj _, h.swap S.R.hblk i j hi hj⟩
end

/-- the counter of choosePivot, in a block of its own -/
def CnF {m : Nat} (w0 : World) (blk off : Nat) (dk : Array (Fin (m + 1))) (c : Nat) (W : World) : Prop :=
  SW encF w0 blk off dk W ∧ (∃ z : Int, W.cell? ⟨c, 0, none⟩ = some (.int .i64 z)) ∧ W.frozen? ⟨c, 0, none⟩ = false ∧ w0.heap.size ≤ c ∧ c < W.heap.size
theorem CnF.drewN {m : Nat} {w0 : World} {blk off c : Nat} {dk : Array (Fin (m + 1))} {W : World} (h : CnF w0 blk off dk c W) (n : Nat) : CnF w0 blk off dk c (W.drewN n) := ⟨h.1.drewN n, h.2.1, h.2.2.1, h.2.2.2.1, h.2.2.2.2⟩
theorem CnF.put {m : Nat} {w0 : World} {blk off c : Nat} {dk : Array (Fin (m + 1))} {W : World} (h : CnF w0 blk off dk c W) (z : Int) : CnF w0 blk off dk c (W.setCell ⟨c, 0, none⟩ (.int .i64 z)) := by
  obtain ⟨h1, ⟨z0, hz⟩, h3, h4, h5⟩ := h
  refine ⟨h1.setCell_new c 0 _ h4, ⟨z, World.cell?_setCell_same _ _ _ hz⟩, ?_, h4, ?_⟩
  · rw [World.frozen?_setCell]; exact h3
  · simpa [World.setCell] using h5

/-- what order2 says: both of them, in one order or the other one -/
def Ord2 {m : Nat} (w0 : World) (blk off : Nat) (dk : Array (Fin (m + 1))) (c a b : Nat) (e : Ending) (w' : World) : Prop :=
  ∃ x y : Nat, e = .returned (.tuple #[.int .i64 (x : Int), .int .i64 (y : Int)]) ∧ ((x = a ∧ y = b) ∨ (x = b ∧ y = a)) ∧ CnF w0 blk off dk c w'

set_option maxRecDepth 100000 in
set_option maxHeartbeats 1000000 in
theorem order2_any {m : Nat} {w0 : World} {blk off : Nat} {d0 : Array (Fin (m + 1))} {rv : Value} {cf : Fin (m + 1) → Fin (m + 1) → Int} (S : Sby m w0 blk off d0 rv cf) (cap a b c : Nat) (dk : Array (Fin (m + 1))) (w : World) (hw : CnF w0 blk off dk c w) (hs : dk.size = d0.size) (ha : a < dk.size) (hb : b < dk.size) :
    Calls Tryd.prog 108 #[.slice (some ⟨blk, off, none⟩) dk.size cap, .int .i64 a, .int .i64 b, .pointer (some ⟨c, 0, none⟩), .func (.func 37) #[rv] #[]] w fun e w' => Ord2 w0 blk off dk c a b e w' := by
  have ca := S.cell hw.1 hs a ha
  have cb := S.cell hw.1 hs b hb
  have HC := fun n => S.cmp dk (w.drewN n) hs (hw.1.drewN n) dk[b]! dk[a]!
  have ha' : (a : Int) < (dk.size : Int) := by omega
  have hb' : (b : Int) < (dk.size : Int) := by omega
  have HN : Hid (∀ n, CnF w0 blk off dk c (w.drewN n)) := fun n => hw.drewN n
  have HP : Hid (∀ W z, CnF w0 blk off dk c W → CnF w0 blk off dk c (W.setCell ⟨c, 0, none⟩ (.int .i64 z))) := fun W z h => h.put z
  have HCC : Hid (∀ n, ∃ z : Int, (w.drewN n).cell? ⟨c, 0, none⟩ = some (.int .i64 z) ∧ (w.drewN n).frozen? ⟨c, 0, none⟩ = false) := fun n => by
    obtain ⟨-, ⟨z, hz⟩, h3, -⟩ := hw
    exact ⟨z, hz, h3⟩
  generalize dk[a]! = x at *
  generalize dk[b]! = y at *
  generalize cf y x = k at HC
  generalize dk.size = n at *
  clear hw hs ha hb
  obtain ⟨q, hq⟩ : ∃ q, decide (k < 0) = q := ⟨_, rfl⟩
  cases q
  · go_enter Tryd.func108, Tryd.ntmps108
    go_wp2
    go_quiet ((go_at_call 37; exact Calls.quiet_of (HC _)))
    go_wp2
    go_ret2
    exact ⟨a, b, rfl, .inl ⟨rfl, rfl⟩, HN.out _⟩
  · go_enter Tryd.func108, Tryd.ntmps108
    go_wp2
    go_quiet ((go_at_call 37; exact Calls.quiet_of (HC _)))
    obtain ⟨z, hz, hf⟩ := HCC.out nq
    have H2 : Hid (∀ y, CnF w0 blk off dk c ((w.drewN nq).setCell ⟨c, 0, none⟩ (.int .i64 y))) := fun y => HP.out _ y (HN.out nq)
    clear ca cb HC HN HP HCC
    generalize w.drewN nq = w2 at hz hf H2 ⊢
    go_wp2
    go_ret2
    exact ⟨b, a, rfl, .inr ⟨rfl, rfl⟩, H2.out _⟩

set_option maxRecDepth 100000 in
set_option maxHeartbeats 1000000 in
theorem median_any {m : Nat} {w0 : World} {blk off : Nat} {d0 : Array (Fin (m + 1))} {rv : Value} {cf : Fin (m + 1) → Fin (m + 1) → Int} (S : Sby m w0 blk off d0 rv cf) (cap a b t c : Nat) (dk : Array (Fin (m + 1))) (w : World) (hw : CnF w0 blk off dk c w) (hs : dk.size = d0.size) (ha : a < dk.size) (hb : b < dk.size) (ht : t < dk.size) :
    Calls Tryd.prog 98 #[.slice (some ⟨blk, off, none⟩) dk.size cap, .int .i64 a, .int .i64 b, .int .i64 t, .pointer (some ⟨c, 0, none⟩), .func (.func 37) #[rv] #[]] w fun e w' =>
      ∃ x : Nat, e = .returned (.int .i64 (x : Int)) ∧ (x = a ∨ x = b ∨ x = t) ∧ CnF w0 blk off dk c w' := by
  have HO := fun W x y (h : CnF w0 blk off dk c W) (hx : x < dk.size) (hy : y < dk.size) => order2_any S cap x y c dk W h hs hx hy
  have HW : Hid (CnF w0 blk off dk c w) := hw
  clear hw hs
  generalize dk.size = n at *
  go_enter Tryd.func98, Tryd.ntmps98
  go_wp2_with fail
  refine (HO w a b HW.out ha hb).mono ?_
  rintro e w1 ⟨x1, y1, rfl, h1, hw1⟩
  have HW1 : Hid (CnF w0 blk off dk c w1) := hw1
  have q1 : x1 < n ∧ y1 < n ∧ (x1 = a ∨ x1 = b) ∧ (y1 = a ∨ y1 = b) := by omega
  obtain ⟨q1, q2, q3, q4⟩ := q1
  clear hw1 h1
  go_wp2_with fail
  refine (HO w1 y1 t HW1.out q2 ht).mono ?_
  rintro e w2 ⟨x2, y2, rfl, h2, hw2⟩
  have HW2 : Hid (CnF w0 blk off dk c w2) := hw2
  have q5 : x2 < n ∧ (x2 = y1 ∨ x2 = t) := by omega
  obtain ⟨q5, q6⟩ := q5
  clear hw2 h2
  go_wp2_with fail
  refine (HO w2 x1 x2 HW2.out q1 q5).mono ?_
  rintro e w3 ⟨x3, y3, rfl, h3, hw3⟩
  have HW3 : Hid (CnF w0 blk off dk c w3) := hw3
  have q7 : y3 = a ∨ y3 = b ∨ y3 = t := by omega
  clear hw3 h3
  go_wp2
  go_ret
  exact ⟨y3, rfl, q7, HW3.out⟩

set_option maxRecDepth 100000 in
set_option maxHeartbeats 1000000 in
theorem medianAdj_any {m : Nat} {w0 : World} {blk off : Nat} {d0 : Array (Fin (m + 1))} {rv : Value} {cf : Fin (m + 1) → Fin (m + 1) → Int} (S : Sby m w0 blk off d0 rv cf) (cap a c : Nat) (dk : Array (Fin (m + 1))) (w : World) (hw : CnF w0 blk off dk c w) (hs : dk.size = d0.size) (ha0 : 1 ≤ a) (ha : a + 1 < dk.size) :
    Calls Tryd.prog 97 #[.slice (some ⟨blk, off, none⟩) dk.size cap, .int .i64 a, .pointer (some ⟨c, 0, none⟩), .func (.func 37) #[rv] #[]] w fun e w' =>
      ∃ x : Nat, e = .returned (.int .i64 (x : Int)) ∧ (a ≤ x + 1 ∧ x ≤ a + 1) ∧ CnF w0 blk off dk c w' := by
  obtain ⟨k, rfl⟩ : ∃ k, a = k + 1 := ⟨a - 1, by omega⟩
  have hsz := S.hs
  have HM := median_any S cap k (k + 1) (k + 1 + 1) c dk w hw hs (by omega) (by omega) (by omega)
  have h1 : IntKind.i64.wrap ((k : Int) + 1 - 1) = (k : Int) := by rw [IntKind.wrap_i64]; omega
  have h2 : IntKind.i64.wrap ((k : Int) + 1 + 1) = (k : Int) + 1 + 1 := by rw [IntKind.wrap_i64]; omega
  have h3 : IntKind.i64.wrap (k : Int) = (k : Int) := by rw [IntKind.wrap_i64]; omega
  have h4 : ((k + 1 + 1 : Nat) : Int) = (k : Int) + 1 + 1 := by omega
  have h5 : ((k + 1 : Nat) : Int) = (k : Int) + 1 := by omega
  rw [h4, h5] at HM
  rw [h5]
  clear h4 h5 hw hs
  generalize dk.size = n at *
  go_enter Tryd.func97, Tryd.ntmps97
  go_wp2_with fail
  refine HM.mono ?_
  rintro e w1 ⟨x, rfl, hx, hw1⟩
  have HW1 : Hid (CnF w0 blk off dk c w1) := hw1
  have q : k + 1 ≤ x + 1 ∧ x ≤ k + 1 + 1 := by omega
  clear hw1
  go_wp2
  go_ret
  exact ⟨x, rfl, q, HW1.out⟩
end

section
open Go.RowKit Go.Sort Go.Shelf Go.Lib

theorem CnF.new {m : Nat} {w0 : World} {blk off : Nat} {dk : Array (Fin (m + 1))} {w : World} (h : SW encF w0 blk off dk w) : CnF w0 blk off dk w.heap.size (w.alloc (.cells #[.int .i64 0] 3)) := by
  refine ⟨h.alloc _, ⟨0, ?_⟩, ?_, h.le, by simp⟩
  · rw [World.cell?_alloc_mark]; rfl
  · exact frozen_of_row _ _ 0 _ _ (heap_alloc_new w _)
/-- what choosePivot says -/
def PivF {m : Nat} (w0 : World) (blk off : Nat) (dk : Array (Fin (m + 1))) (a b : Nat) (e : Ending) (w' : World) : Prop :=
  ∃ (p : Nat) (h : Int), e = .returned (.tuple #[.int .i64 (p : Int), .int .i64 h]) ∧ (a ≤ p ∧ p < b) ∧ SW encF w0 blk off dk w'
set_option maxRecDepth 100000 in
set_option maxHeartbeats 2000000 in
theorem choose_any {m : Nat} {w0 : World} {blk off : Nat} {d0 : Array (Fin (m + 1))} {rv : Value} {cf : Fin (m + 1) → Fin (m + 1) → Int} (S : Sby m w0 blk off d0 rv cf) (cap a l : Nat) (dk : Array (Fin (m + 1))) (w : World) (hw : SW encF w0 blk off dk w) (hs : dk.size = d0.size) (hl : 13 ≤ l) (hb : a + l ≤ dk.size) :
    Calls Tryd.prog 75 #[.slice (some ⟨blk, off, none⟩) dk.size cap, .int .i64 a, .int .i64 ((a + l : Nat) : Int), .func (.func 37) #[rv] #[]] w fun e w' => PivF w0 blk off dk a (a + l) e w' := by
  have hsz := S.hs
  have hcn := CnF.new hw
  have HA : ∀ (c : Nat) (W : World) (x : Nat) (z : Int), z = (x : Int) → CnF w0 blk off dk c W → 1 ≤ x → x + 1 < dk.size → Calls Tryd.prog 97 #[.slice (some ⟨blk, off, none⟩) dk.size cap, .int .i64 z, .pointer (some ⟨c, 0, none⟩), .func (.func 37) #[rv] #[]] W fun e w' =>
      ∃ y : Nat, e = .returned (.int .i64 (y : Int)) ∧ (x ≤ y + 1 ∧ y ≤ x + 1) ∧ CnF w0 blk off dk c w' := fun c W x z hz h h1 h2 => by subst hz; exact medianAdj_any S cap x c dk W h hs h1 h2
  have HM : ∀ (c : Nat) (W : World) (x y z : Nat) (zx zy zz : Int), zx = (x : Int) → zy = (y : Int) → zz = (z : Int) → CnF w0 blk off dk c W → x < dk.size → y < dk.size → z < dk.size → Calls Tryd.prog 98 #[.slice (some ⟨blk, off, none⟩) dk.size cap, .int .i64 zx, .int .i64 zy, .int .i64 zz, .pointer (some ⟨c, 0, none⟩), .func (.func 37) #[rv] #[]] W fun e w' =>
      ∃ t : Nat, e = .returned (.int .i64 (t : Int)) ∧ (t = x ∨ t = y ∨ t = z) ∧ CnF w0 blk off dk c w' := fun c W x y z zx zy zz e1 e2 e3 h h1 h2 h3 => by subst e1 e2 e3; exact median_any S cap x y z c dk W h hs h1 h2 h3
  have HW : Hid (CnF w0 blk off dk w.heap.size (w.alloc (.cells #[.int .i64 0] 3))) := hcn
  have HEND : Hid (∀ W (p : Nat) (h : Int), CnF w0 blk off dk w.heap.size W → a ≤ p → p < a + l → PivF w0 blk off dk a (a + l) (.returned (.tuple #[.int .i64 (p : Int), .int .i64 h])) W) := fun W p h hc h1 h2 => ⟨p, h, rfl, ⟨h1, h2⟩, hc.1⟩
  have h1 : IntKind.i64.wrap ((a : Int) + (l : Int) - (a : Int)) = (l : Int) := by rw [IntKind.wrap_i64]; omega
  obtain ⟨q, hq⟩ : ∃ q : Nat, q = l / 4 := ⟨_, rfl⟩
  have q0 : IntKind.i64.wrap ((l : Int) / 4) = (q : Int) := by rw [IntKind.wrap_i64]; omega
  have q1 : IntKind.i64.wrap (q : Int) = (q : Int) := by rw [IntKind.wrap_i64]; omega
  have q2 : IntKind.i64.wrap ((q : Int) * 2) = (q : Int) * 2 := by rw [IntKind.wrap_i64]; omega
  have q3 : IntKind.i64.wrap ((q : Int) * 3) = (q : Int) * 3 := by rw [IntKind.wrap_i64]; omega
  have r1 : IntKind.i64.wrap ((a : Int) + (q : Int)) = (a : Int) + (q : Int) := by rw [IntKind.wrap_i64]; omega
  have r2 : IntKind.i64.wrap ((a : Int) + (q : Int) * 2) = (a : Int) + (q : Int) * 2 := by rw [IntKind.wrap_i64]; omega
  have r3 : IntKind.i64.wrap ((a : Int) + (q : Int) * 3) = (a : Int) + (q : Int) * 3 := by rw [IntKind.wrap_i64]; omega
  have hb1 : 3 ≤ q ∧ q * 4 ≤ l ∧ (50 ≤ l → 12 ≤ q) := by omega
  obtain ⟨hb1, hb2, hb3⟩ := hb1
  have HFIN : Hid (∀ (W : World) (x : Nat), CnF w0 blk off dk w.heap.size W → a ≤ x → x < a + l → ∃ z : Int, W.cell? ⟨w.heap.size, 0, none⟩ = some (.int .i64 z)) := fun W x h _ _ => h.2.1
  have h8 : (8 : Int) ≤ (l : Int) := by omega
  clear hw hs hcn hq
  generalize dk.size = n at *
  go_enter Tryd.func75, Tryd.ntmps75
  go_upto_region 7 with fail
  generalize (w.alloc (.cells #[.int .i64 0] 3)) = W0 at HW ⊢
  clear q0 q1 q2 q3 r1 r2 r3 h1
  by_cases h50 : (50 : Int) ≤ (l : Int)
  · have h12 := hb3 (by omega)
    go_wp2_with fail
    refine (HA _ W0 (a + q) _ (by omega) HW.out (by omega) (by omega)).mono ?_
    rintro e w1 ⟨x1, rfl, ⟨c1, c2⟩, hw1⟩
    have HW1 : Hid (CnF w0 blk off dk w.heap.size w1) := hw1
    clear hw1
    go_wp2_with fail
    refine (HA _ w1 (a + q * 2) _ (by omega) HW1.out (by omega) (by omega)).mono ?_
    rintro e w2 ⟨x2, rfl, ⟨c3, c4⟩, hw2⟩
    have HW2 : Hid (CnF w0 blk off dk w.heap.size w2) := hw2
    clear hw2
    go_wp2_with fail
    refine (HA _ w2 (a + q * 3) _ (by omega) HW2.out (by omega) (by omega)).mono ?_
    rintro e w3 ⟨x3, rfl, ⟨c5, c6⟩, hw3⟩
    have HW3 : Hid (CnF w0 blk off dk w.heap.size w3) := hw3
    clear hw3
    go_wp2_with fail
    refine (HM _ w3 x1 x2 x3 _ _ _ rfl rfl rfl HW3.out (by omega) (by omega) (by omega)).mono ?_
    rintro e w4 ⟨y, rfl, hy, hw4⟩
    have y1 : a ≤ y := by omega
    have y2 : y < a + l := by omega
    obtain ⟨z, hz⟩ := HFIN.out w4 y hw4 y1 y2
    have HE : Hid (∀ h : Int, PivF w0 blk off dk a (a + l) (.returned (.tuple #[.int .i64 (y : Int), .int .i64 h])) w4) := fun h => HEND.out w4 y h hw4 y1 y2
    clear hw4 y1 y2 hy HA HM HEND HFIN
    obtain ⟨b1, hb⟩ : ∃ b, (z == 0) = b := ⟨_, rfl⟩
    obtain ⟨b2, hb'⟩ : ∃ b, (z == 12) = b := ⟨_, rfl⟩
    cases b1
    · cases b2
      · go_wp2
        go_ret2
        exact HE.out _
      · go_wp2
        go_ret2
        exact HE.out _
    · go_wp2
      go_ret2
      exact HE.out _
  · go_wp2_with fail
    refine (HM _ W0 (a + q) (a + q * 2) (a + q * 3) _ _ _ (by omega) (by omega) (by omega) HW.out (by omega) (by omega) (by omega)).mono ?_
    rintro e w4 ⟨y, rfl, hy, hw4⟩
    have y1 : a ≤ y := by omega
    have y2 : y < a + l := by omega
    obtain ⟨z, hz⟩ := HFIN.out w4 y hw4 y1 y2
    have HE : Hid (∀ h : Int, PivF w0 blk off dk a (a + l) (.returned (.tuple #[.int .i64 (y : Int), .int .i64 h])) w4) := fun h => HEND.out w4 y h hw4 y1 y2
    clear hw4 y1 y2 hy HA HM HEND HFIN
    obtain ⟨b1, hb⟩ : ∃ b, (z == 0) = b := ⟨_, rfl⟩
    obtain ⟨b2, hb'⟩ : ∃ b, (z == 12) = b := ⟨_, rfl⟩
    cases b1
    · cases b2
      · go_wp2
        go_ret2
        exact HE.out _
      · go_wp2
        go_ret2
        exact HE.out _
    · go_wp2
      go_ret2
      exact HE.out _
end

section
open Go.RowKit Go.Sort Go.Shelf Go.Lib

set_option maxRecDepth 100000 in
set_option maxHeartbeats 2000000 in
theorem rev_any {m : Nat} {w0 : World} {blk off : Nat} {d0 : Array (Fin (m + 1))} {rv : Value} {cf : Fin (m + 1) → Fin (m + 1) → Int} (S : Sby m w0 blk off d0 rv cf) (cap a b : Nat) (d : Array (Fin (m + 1))) (w : World) (hw : SW encF w0 blk off d w) (hs : d.size = d0.size) (hab : a < b) (hb : b ≤ d.size) :
    Calls Tryd.prog 76 #[.slice (some ⟨blk, off, none⟩) d.size cap, .int .i64 a, .int .i64 b, .func (.func 37) #[rv] #[]] w fun e w' => e = .returned (.tuple #[]) ∧ ∃ d', PermIn a b d d' ∧ SW encF w0 blk off d' w' := by
  have mixed : Tryd.prog.follows .mixedOrders = true := by kernel_rfl
  have hsz := S.hs
  have HSW : Hid (∀ dk W i j, dk.size = d.size → SW encF w0 blk off dk W → i < d.size → j < d.size → (W.cell? ⟨blk, off + i, none⟩ = some (.int .i64 ((dk[i]!.val : Nat) : Int)) ∧ W.cell? ⟨blk, off + j, none⟩ = some (.int .i64 ((dk[j]!.val : Nat) : Int))) ∧ (W.frozen? ⟨blk, off + i, none⟩ = false ∧ W.frozen? ⟨blk, off + j, none⟩ = false) ∧
    (∃ u, (W.setCell ⟨blk, off + i, none⟩ (.int .i64 ((dk[j]!.val : Nat) : Int))).cell? ⟨blk, off + j, none⟩ = some u) ∧
    SW encF w0 blk off (swp dk i j) ((W.setCell ⟨blk, off + i, none⟩ (.int .i64 ((dk[j]!.val : Nat) : Int))).setCell ⟨blk, off + j, none⟩ (.int .i64 ((dk[i]!.val : Nat) : Int)))) := fun dk W i j h1 h2 h3 h4 => S.swap h2 (h1.trans hs) i j (by omega) (by omega)
  have h1 : IntKind.i64.wrap ((b : Int) - 1) = ((b - 1 : Nat) : Int) := by rw [IntKind.wrap_i64]; omega
  have HW : Hid (SW encF w0 blk off d w) := hw
  have HPT : Hid (∀ dk i j, PermIn a b d dk → a ≤ i → i < b → a ≤ j → j < b → PermIn a b d (swp dk i j)) := fun dk i j hp h1 h2 h3 h4 => permIn_trans _ _ _ _ _ hp (swp_permIn _ _ _ _ _ h1 h2 h3 h4 (by rw [hp.1]; exact hb))
  have HPS : Hid (∀ dk, PermIn a b d dk → dk.size = d.size) := fun dk hp => hp.1
  have HP0 : Hid (PermIn a b d d) := permIn_refl _ _ _
  clear hw
  generalize d.size = n at *
  go_enter Tryd.func76, Tryd.ntmps76
  go_wp2
  go_loopw [8, 9] (fun iv jv wr => ∃ (i j : Nat) (dk : Array (Fin (m + 1))), iv = .int .i64 i ∧ jv = .int .i64 j ∧ a ≤ i ∧ j < b ∧ Hid (PermIn a b d dk) ∧ Hid (SW encF w0 blk off dk wr)) (fun iv jv _ => (intOf jv).toNat - (intOf iv).toNat)
  case atStart => exact ⟨a, b - 1, d, rfl, rfl, Nat.le_refl _, by omega, HP0, HW⟩
  case round =>
    obtain ⟨i, j, dk, rfl, rfl, hai, hjb, hp, hsw⟩ := hrel
    by_cases hlt : i < j
    · have hltz : (i : Int) < (j : Int) := by omega
      obtain ⟨⟨c1, c2⟩, ⟨f1, f2⟩, ⟨u, c3⟩, hsw2⟩ := HSW.out dk wr i j (HPS.out _ hp.out) hsw.out (by omega) (by omega)
      have HS2 : Hid (SW encF w0 blk off (swp dk i j) ((wr.setCell ⟨blk, off + i, none⟩ (.int .i64 ((dk[j]!.val : Nat) : Int))).setCell ⟨blk, off + j, none⟩ (.int .i64 ((dk[i]!.val : Nat) : Int))).drew) := hsw2.drewN 1
      have HP2 : Hid (PermIn a b d (swp dk i j)) := HPT.out dk i j hp.out (by omega) (by omega) (by omega) (by omega)
      have hin : (i : Int) < (n : Int) := by omega
      have hjn : (j : Int) < (n : Int) := by omega
      have w1 : IntKind.i64.wrap ((i : Int) + 1) = ((i + 1 : Nat) : Int) := by rw [IntKind.wrap_i64]; omega
      have w2 : IntKind.i64.wrap ((j : Int) - 1) = ((j - 1 : Nat) : Int) := by rw [IntKind.wrap_i64]; omega
      generalize ((dk[i]!.val : Nat) : Int) = x at *
      generalize ((dk[j]!.val : Nat) : Int) = y at *
      clear hsw2 hsw hp HP0 HW HSW HPT HPS
      go_upto_region 3 with fail
      go_big_region_o
      generalize ((wr.setCell ⟨blk, off + i, none⟩ (.int .i64 y)).setCell ⟨blk, off + j, none⟩ (.int .i64 x)).drew = w4 at HS2 ⊢
      clear c1 c2 f1 f2 c3
      go_wp2
      go_roundw
      case rel => exact ⟨i + 1, j - 1, _, rfl, rfl, by omega, by omega, HP2, HS2⟩
      case measure => simp [intOf]; omega
    · have hltz : ¬ (i : Int) < (j : Int) := by omega
      go_wp2
      go_end0
      exact ⟨rfl, dk, hp.out, hsw.out⟩
end

end Go.Proofs.YtlkemmdcjnaepaaDoor
