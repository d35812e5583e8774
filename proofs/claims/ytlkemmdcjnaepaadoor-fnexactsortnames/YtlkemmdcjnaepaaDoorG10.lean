/- Names: marks in order: what the sorting by insertion comes to. No word of the program. Names: taken apart, folded, and both: what they come to. No word of the program. Signs: the source of parts: its table is made when a sign first needs it; impl.Parts at every int: its contract. -/
import Derived.Test.YtlkemmdcjnaepaaDoorRows
import Derived.Test.YtlkemmdcjnaepaaDoorG00
import Derived.Test.YtlkemmdcjnaepaaDoorG09
namespace Go.Proofs.YtlkemmdcjnaepaaDoor

section
/-- does x go past z, which stands ahead of it? -/
def past (x z : Int) : Prop := 0 < clsN x ∧ clsN x < clsN z

/-- x goes into a row that stands backward -/
def insR (x : Int) : List Int → List Int
  | [] => [x]
  | z :: p => if 0 < clsN x ∧ clsN x < clsN z then z :: insR x p else x :: z :: p
theorem insR_pos {x z : Int} (h : past x z) (p : List Int) : insR x (z :: p) = z :: insR x p := if_pos h
theorem insR_neg {x z : Int} (h : ¬ past x z) (p : List Int) : insR x (z :: p) = x :: z :: p := if_neg h
def srtR (r : List Int) (l : List Int) : List Int := l.foldl (fun r x => insR x r) r
def srtN (l : List Int) : List Int := (srtR [] l).reverse

/-- a row that stands backward, in order -/
def okR : List Int → Prop
  | [] => True
  | [_] => True
  | y :: z :: p => ¬ past y z ∧ okR (z :: p)

theorem insR_len (x : Int) : ∀ r, (insR x r).length = r.length + 1
  | [] => rfl
  | z :: p => by
    by_cases hp : past x z
    · rw [insR_pos hp]; simp [insR_len x p]
    · rw [insR_neg hp]; rfl
theorem insR_mem (x : Int) : ∀ r y, y ∈ insR x r ↔ y = x ∨ y ∈ r
  | [], y => by simp [insR]
  | z :: p, y => by
    by_cases hp : past x z
    · rw [insR_pos hp, List.mem_cons, insR_mem x p y, List.mem_cons]; constructor <;> (intro h; rcases h with h | h | h <;> simp [h])
    · rw [insR_neg hp]; simp
theorem insR_ok (x : Int) : ∀ r, okR r → okR (insR x r)
  | [], _ => trivial
  | z :: p, h => by
    by_cases hp : past x z
    · rw [insR_pos hp]
      have hi : okR (insR x p) := insR_ok x p (by cases p with | nil => trivial | cons a b => exact h.2)
      cases p with
      | nil =>
        refine ⟨?_, trivial⟩
        unfold past at hp ⊢; omega
      | cons a b =>
        have h1 : ¬ past z a := h.1
        by_cases hq : past x a
        · rw [insR_pos hq] at hi ⊢
          exact ⟨h1, hi⟩
        · rw [insR_neg hq] at hi ⊢
          exact ⟨by unfold past at hp ⊢; omega, hi⟩
    · rw [insR_neg hp]
      exact ⟨hp, h⟩
theorem srtR_ok (l : List Int) : ∀ r, okR r → okR (srtR r l) := by
  induction l with
  | nil => intro r h; exact h
  | cons x l ih => intro r h; exact ih _ (insR_ok x r h)
theorem srtR_append (r a b : List Int) : srtR r (a ++ b) = srtR (srtR r a) b := by unfold srtR; rw [List.foldl_append]
theorem srtR_len (l : List Int) : ∀ r, (srtR r l).length = r.length + l.length := by
  induction l with
  | nil => intro r; rfl
  | cons x l ih => intro r; show (srtR (insR x r) l).length = _; rw [ih, insR_len]; simp; omega
theorem srtR_mem (l : List Int) : ∀ r y, y ∈ srtR r l ↔ y ∈ r ∨ y ∈ l := by
  induction l with
  | nil => intro r y; simp [srtR]
  | cons x l ih =>
    intro r y
    show y ∈ srtR (insR x r) l ↔ _
    rw [ih, insR_mem]
    simp only [List.mem_cons]
    constructor
    · rintro ((h | h) | h) <;> simp [h]
    · rintro (h | h | h) <;> simp [h]

/-- what is in order stays -/
theorem srtR_self : ∀ r, okR r → srtR [] r.reverse = r
  | [], _ => rfl
  | [x], _ => rfl
  | y :: z :: p, h => by
    have ih := srtR_self (z :: p) h.2
    rw [List.reverse_cons, srtR_append, ih]
    show insR y (z :: p) = _
    rw [insR_neg h.1]
theorem srtN_idem (l : List Int) : srtN (srtN l) = srtN l := by
  unfold srtN
  rw [srtR_self _ (srtR_ok l [] trivial)]

/-- two that stand out of order: which of them comes first is all one -/
theorem insR_swap (x y : Int) (h : past y x) : ∀ r, insR y (insR x r) = insR x (insR y r)
  | [] => by
    have hn : ¬ past x y := by unfold past at h ⊢; omega
    show insR y [x] = insR x [y]
    rw [insR_pos h, insR_neg hn]
    rfl
  | z :: p => by
    have hn : ¬ past x y := by unfold past at h ⊢; omega
    by_cases hx : past x z
    · have hy : past y z := by unfold past at h hx ⊢; omega
      rw [insR_pos hx, insR_pos hy, insR_pos hy, insR_pos hx, insR_swap x y h p]
    · by_cases hy : past y z
      · rw [insR_neg hx, insR_pos h, insR_pos hy, insR_neg hx]
      · rw [insR_neg hx, insR_pos h, insR_neg hy, insR_neg hn]
theorem srtR_ins (x : Int) : ∀ s r, srtR r (insR x s).reverse = srtR r (s.reverse ++ [x])
  | [], r => rfl
  | z :: p, r => by
    by_cases hp : past x z
    · rw [insR_pos hp, List.reverse_cons, List.reverse_cons, srtR_append, srtR_ins x p r, srtR_append, srtR_append, srtR_append]
      show insR z (insR x (srtR r p.reverse)) = insR x (insR z (srtR r p.reverse))
      exact (insR_swap z x hp _).symm
    · rw [insR_neg hp, List.reverse_cons]
theorem srtR_srt (b : List Int) : ∀ s r, srtR r (srtR s b).reverse = srtR r (s.reverse ++ b) := by
  induction b with
  | nil => intro s r; simp [srtR]
  | cons x b ih =>
    intro s r
    show srtR r (srtR (insR x s) b).reverse = _
    rw [ih, srtR_append, srtR_ins x s r, ← srtR_append, List.append_assoc]
    rfl
/-- what is in order, put side by side and put in order -/
theorem srtN_parts (a b : List Int) : srtN (srtN a ++ srtN b) = srtN (a ++ b) := by
  unfold srtN
  rw [srtR_append, srtR_self _ (srtR_ok a [] trivial), srtR_srt b [] _]
  show (srtR (srtR [] a) b).reverse = _
  rw [srtR_append]

/-- side by side, forward -/
theorem okR_at : ∀ r, okR r → ∀ i, i + 1 < r.length → ¬ past (r.getD i 0) (r.getD (i + 1) 0)
  | [], _, i, hi => by simp at hi
  | [_], _, i, hi => by simp at hi
  | y :: z :: p, h, 0, _ => h.1
  | y :: z :: p, h, i + 1, hi => by
    have := okR_at (z :: p) h.2 i (by simpa using hi)
    simpa using this
end

section
def apartN (l : List Int) : List Int := srtN (l.flatMap takeN)
def foldsN (l : List Int) : List Int := l.flatMap foldN
def keyL (l : List Int) : List Int := apartN (foldsN (apartN l))

theorem take1_leaves (c d : Int) (h : ∀ e ∈ partsN c, partsN e = []) (hd : d ∈ take1 c) : partsN d = [] := by
  unfold take1 takeBy at hd
  split at hd
  · rename_i hp
    simp at hd; rw [hd]; exact hp
  · simp at hd; exact h d hd
theorem takeN_leaves (c d : Int) (hd : d ∈ takeN c) : partsN d = [] := by
  unfold takeN takeBy at hd
  split at hd
  · rename_i hp
    simp at hd; rw [hd]; exact hp
  · obtain ⟨e, he, hde⟩ := List.mem_flatMap.1 hd
    exact take1_leaves e d (fun x hx => parts_two c e x he hx) hde
theorem apartN_mem (l : List Int) (y : Int) : y ∈ apartN l ↔ ∃ c ∈ l, y ∈ takeN c := by
  unfold apartN srtN
  rw [List.mem_reverse, srtR_mem]
  simp
theorem apart_leaves (l : List Int) (y : Int) (h : y ∈ apartN l) : partsN y = [] := by
  obtain ⟨c, _, hy⟩ := (apartN_mem l y).1 h
  exact takeN_leaves c y hy
theorem flat_leaves (l : List Int) (h : ∀ y ∈ l, partsN y = []) : l.flatMap takeN = l := by
  induction l with
  | nil => rfl
  | cons y l ih =>
    rw [List.flatMap_cons, takeN_leaf y (h y (by simp)), ih (fun z hz => h z (by simp [hz]))]
    rfl
theorem apart_of_leaves (l : List Int) (h : ∀ y ∈ l, partsN y = []) : apartN l = srtN l := by
  unfold apartN; rw [flat_leaves l h]
theorem apart_idem (l : List Int) : apartN (apartN l) = apartN l := by
  rw [apart_of_leaves _ (apart_leaves l)]
  exact srtN_idem _
theorem apart_parts (a b : List Int) : apartN (apartN a ++ apartN b) = apartN (a ++ b) := by
  rw [apart_of_leaves _ (fun y hy => by
    rcases List.mem_append.1 hy with h | h
    · exact apart_leaves a y h
    · exact apart_leaves b y h)]
  unfold apartN
  rw [srtN_parts, List.flatMap_append]

theorem up_ranges : (∀ k : Nat, k < 26 → partsN (97 + (k : Int)) = [] ∧ foldN (97 + (k : Int)) = [97 + (k : Int)]) ∧ (∀ k : Nat, k < 17 → partsN (945 + (k : Int)) = [] ∧ foldN (945 + (k : Int)) = [945 + (k : Int)]) ∧
    (∀ k : Nat, k < 7 → partsN (963 + (k : Int)) = [] ∧ foldN (963 + (k : Int)) = [963 + (k : Int)]) ∧ (∀ k : Nat, k < 32 → partsN (1072 + (k : Int)) = [] ∧ foldN (1072 + (k : Int)) = [1072 + (k : Int)]) := by decide
theorem up_ones : ∀ y ∈ [230, 240, 248, 254, 115, 963], partsN y = [] ∧ foldN y = [y] := by decide

/-- what is folded is folded -/
theorem fold_fix (x y : Int) (hx : partsN x = []) (hy : y ∈ foldN x) : partsN y = [] ∧ foldN y = [y] := by
  obtain ⟨r1, r2, r3, r4⟩ := up_ranges
  by_cases hu : upB x = true
  · rw [foldN_up x hu] at hy
    simp only [List.mem_singleton] at hy
    subst hy
    simp only [upB, inB, amongB, foldL, Bool.or_eq_true, Bool.and_eq_true, decide_eq_true_eq, List.contains_cons, List.contains_nil, Bool.or_false, beq_iff_eq] at hu
    rcases hu with (((h | h) | h) | h) | h | h | h | h
    · have := r1 (x - 65).toNat (by omega)
      rwa [show (97 : Int) + ((x - 65).toNat : Int) = x + 32 by omega] at this
    · have := r2 (x - 913).toNat (by omega)
      rwa [show (945 : Int) + ((x - 913).toNat : Int) = x + 32 by omega] at this
    · have := r3 (x - 931).toNat (by omega)
      rwa [show (963 : Int) + ((x - 931).toNat : Int) = x + 32 by omega] at this
    · have := r4 (x - 1040).toNat (by omega)
      rwa [show (1072 : Int) + ((x - 1040).toNat : Int) = x + 32 by omega] at this
    · subst h; exact up_ones 230 (by decide)
    · subst h; exact up_ones 240 (by decide)
    · subst h; exact up_ones 248 (by decide)
    · subst h; exact up_ones 254 (by decide)
  · unfold foldN at hy
    rw [if_neg hu] at hy
    by_cases h1 : x = 223
    · rw [if_pos h1] at hy
      simp at hy
      subst hy; exact up_ones 115 (by decide)
    · rw [if_neg h1] at hy
      by_cases h2 : x = 962
      · rw [if_pos h2] at hy
        simp at hy
        subst hy; exact up_ones 963 (by decide)
      · rw [if_neg h2] at hy
        simp at hy
        subst hy
        refine ⟨hx, ?_⟩
        unfold foldN
        rw [if_neg hu, if_neg h1, if_neg h2]

theorem folds_fix (l : List Int) (h : ∀ y ∈ l, foldN y = [y]) : foldsN l = l := by
  unfold foldsN
  induction l with
  | nil => rfl
  | cons y l ih => rw [List.flatMap_cons, h y (by simp), ih (fun z hz => h z (by simp [hz]))]; rfl
theorem folds_mem (l : List Int) (y : Int) (hl : ∀ x ∈ l, partsN x = []) (hy : y ∈ foldsN l) : partsN y = [] ∧ foldN y = [y] := by
  obtain ⟨x, hx, hyx⟩ := List.mem_flatMap.1 hy
  exact fold_fix x y (hl x hx) hyx
/-- each sign of a key has no parts and is folded -/
theorem key_mem (l : List Int) (y : Int) (hy : y ∈ keyL l) : partsN y = [] ∧ foldN y = [y] := by
  obtain ⟨c, hc, hyc⟩ := (apartN_mem _ y).1 hy
  have hf := folds_mem (apartN l) c (apart_leaves l) hc
  rw [takeN_leaf c hf.1] at hyc
  simp at hyc
  subst hyc
  exact hf

theorem key_apart (l : List Int) : keyL (apartN l) = keyL l := by unfold keyL; rw [apart_idem]
theorem key_of_fixed (m : List Int) (h : ∀ y ∈ m, partsN y = [] ∧ foldN y = [y]) : keyL m = apartN m := by
  have e : foldsN (apartN m) = apartN m := folds_fix _ fun y hy => by
    obtain ⟨c, hc, hyc⟩ := (apartN_mem m y).1 hy
    rw [takeN_leaf c (h c hc).1] at hyc
    simp at hyc
    subst hyc
    exact (h _ hc).2
  unfold keyL
  rw [e, apart_idem]
theorem key_fold (l : List Int) : keyL (foldsN (apartN l)) = keyL l := key_of_fixed _ fun y hy => folds_mem _ y (apart_leaves l) hy
theorem key_key (l : List Int) : keyL (keyL l) = keyL l := by
  rw [key_of_fixed _ (key_mem l)]
  unfold keyL
  exact apart_idem _
end

section
open Go.RowKit

/-- the source of parts lies at B: it has no table yet, or the whole one -/
def SrcAt (B : Nat) (w : World) : Prop :=
  ∃ mo, w.heap[B]? = some (.cells #[.map mo] 119 (0, 0)) ∧ (mo = none ∨ ∃ g L, mo = some g ∧ MapIs g L w ∧ ∀ j, j ∈ L ↔ j < 75)
theorem MapIs.lt {g : Nat} {L : List Nat} {w : World} (h : MapIs g L w) : g < w.heap.size := by
  obtain ⟨es, clk, hb, _⟩ := h
  exact lt_of_block hb
theorem MapIs.kept {g : Nat} {L : List Nat} {w w' : World} (h : MapIs g L w) (e : w'.heap[g]? = w.heap[g]?) : MapIs g L w' := by
  obtain ⟨es, clk, hb, hes⟩ := h
  exact ⟨es, clk, e.trans hb, hes⟩
theorem SrcAt.below {B : Nat} {w w' : World} (h : SrcAt B w) (b : Below w.heap.size w w') : SrcAt B w' := by
  obtain ⟨mo, hb, hm⟩ := h
  refine ⟨mo, (b.block B (lt_of_block hb)).trans hb, ?_⟩
  rcases hm with h | ⟨g, L, h1, h2, h3⟩
  · exact .inl h
  · exact .inr ⟨g, L, h1, h2.kept (b.block g h2.lt), h3⟩
theorem SrcAt.lt {B : Nat} {w : World} (h : SrcAt B w) : B < w.heap.size := by
  obtain ⟨mo, hb, _⟩ := h
  exact lt_of_block hb

/-- the row is laid in its own place, and answered -/
theorem rowOf_end (B : Nat) (w w2 : World) (p0 p1 : Int) (hlt : B < w.heap.size) (hR : w2.heap[w.heap.size]? = some (.cells #[.int .i64 0, .int .i64 0] 134 (0, 0))) (hs : SrcAt B w2) (hg : w.grownBy w2 (some B)) :
    ((w2.setCell ⟨w.heap.size, 0, none⟩ (.int .i64 p0)).setCell ⟨w.heap.size, 1, none⟩ (.int .i64 p1)).heap[w.heap.size]? = some (.cells #[.int .i64 p0, .int .i64 p1] 134 (0, 0)) ∧
    SrcAt B ((w2.setCell ⟨w.heap.size, 0, none⟩ (.int .i64 p0)).setCell ⟨w.heap.size, 1, none⟩ (.int .i64 p1)) ∧ w.grownBy ((w2.setCell ⟨w.heap.size, 0, none⟩ (.int .i64 p0)).setCell ⟨w.heap.size, 1, none⟩ (.int .i64 p1)) (some B) := by
  have hk : ∀ k, k ≠ w.heap.size → ((w2.setCell ⟨w.heap.size, 0, none⟩ (.int .i64 p0)).setCell ⟨w.heap.size, 1, none⟩ (.int .i64 p1)).heap[k]? = w2.heap[k]? := fun k h =>
    (Below.heap_setCell _ _ _ _ h).trans (Below.heap_setCell _ _ _ _ h)
  obtain ⟨mo, hb, hm⟩ := hs
  refine ⟨heap_setCell_same _ _ 1 _ _ _ (heap_setCell_same _ _ 0 _ _ _ hR), ⟨mo, (hk B (by omega)).trans hb, ?_⟩, ⟨hg.os, hg.tape, hg.output, by simpa [World.setCell] using hg.size, fun k h1 h2 => (hk k (by omega)).trans (hg.block k h1 h2)⟩⟩
  rcases hm with h | ⟨g, L, h1, h2, h3⟩
  · exact .inl h
  · refine .inr ⟨g, L, h1, h2.kept (hk g ?_), h3⟩
    intro e
    obtain ⟨es, clk, hmb, _⟩ := h2
    rw [e, hR] at hmb
    cases hmb

set_option maxRecDepth 100000 in
set_option maxHeartbeats 2000000 in
theorem rowOf_any (B : Nat) (c p0 p1 : Int) (h0 : Hid ((pFind c pTab).1 = p0)) (h1 : Hid ((pFind c pTab).2 = p1)) (w : World) (hs : SrcAt B w) :
    Calls Tryd.prog 119 #[.pointer (some ⟨B, 0, none⟩), .int .i64 c] w fun e w' => e = .returned (.agg #[.int .i64 p0, .int .i64 p1]) ∧ SrcAt B w' ∧ w.grownBy w' (some B) := by
  have HT : ∀ g L w' (hM : MapIs g L w') (hL : ∀ j, j ∈ L ↔ j < 75), (Instr.lookup 117 (.map (some g)) (.agg #[.int .i64 c]) false).run Tryd.prog w' = .ok (.agg #[.int .i64 p0, .int .i64 p1]) w' := fun g L w' hM hL => by
    rw [← h0.out, ← h1.out]; exact hM.lookup hL c
  clear h0 h1
  obtain ⟨mo, hB, hm⟩ := hs
  have hlt := lt_of_block hB
  have HA : ∀ o, (w.alloc o).heap[B]? = some (.cells #[.map mo] 119 (0, 0)) := fun o => (Below.heap_alloc _ _ _ hlt).trans hB
  have hc0 : ∀ o, (w.alloc o).cell? ⟨B, 0, none⟩ = some (.map mo) := fun o => cell_of_row _ B 0 _ _ (0, 0) (HA o)
  have hE0 : ∀ w, Sem.run Tryd.prog (binOp BinOp.eql 117 (.map none) (.map none)) w = .ok (.bool true) w := fun w => by kernel_rfl
  have hE1 : ∀ g w, Sem.run Tryd.prog (binOp BinOp.eql 117 (.map (some g)) (.map none)) w = .ok (.bool false) w := fun g w => by kernel_rfl
  rcases hm with rfl | ⟨g, L, rfl, hM, hL⟩
  · go_enter Tryd.func119, Tryd.ntmps119
    go_wp2_with fail
    refine (partTable_any _).mono ?_
    rintro e w1 ⟨rfl, ⟨L, hM, hL⟩, hb1⟩
    rw [hs_alloc] at hM hb1 ⊢
    have hB1 : w1.heap[B]? = some (.cells #[.map none] 119 (0, 0)) := (hb1.block B (by omega)).trans (HA _)
    have hR1 : w1.heap[w.heap.size]? = some (.cells #[.int .i64 0, .int .i64 0] 134 (0, 0)) := (hb1.block _ (by omega)).trans (by show (w.heap.push _)[w.heap.size]? = _; simp)
    have hs1 := hb1.size
    rw [hs_alloc] at hs1
    have hg1 : w.grownBy w1 (some B) := ⟨hb1.os, hb1.tape, hb1.output, by omega, fun k hk _ => (hb1.block k (by omega)).trans (Below.heap_alloc _ _ _ hk)⟩
    have hM2 : MapIs (w.heap.size + 1) L (w1.setCell ⟨B, 0, none⟩ (.map (some (w.heap.size + 1)))) := hM.kept (Below.heap_setCell _ _ _ _ (by show w.heap.size + 1 ≠ B; omega))
    have hB2 : (w1.setCell ⟨B, 0, none⟩ (.map (some (w.heap.size + 1)))).heap[B]? = some (.cells #[.map (some (w.heap.size + 1))] 119 (0, 0)) := heap_setCell_same w1 B 0 _ _ _ hB1
    have hR2 : (w1.setCell ⟨B, 0, none⟩ (.map (some (w.heap.size + 1)))).heap[w.heap.size]? = some (.cells #[.int .i64 0, .int .i64 0] 134 (0, 0)) := (Below.heap_setCell _ _ _ _ (by show w.heap.size ≠ B; omega)).trans hR1
    have hg2 : w.grownBy (w1.setCell ⟨B, 0, none⟩ (.map (some (w.heap.size + 1)))) (some B) := gbi_trans hg1 (gbi_set w1 B 0 _)
    have c1 := cell_of_row w1 B 0 _ _ (0, 0) hB1
    have f1 := frozen_of_row w1 B 0 _ _ hB1
    have hlk := HT _ _ _ hM2 hL
    have c2 := cell_of_row _ B 0 _ _ (0, 0) hB2
    obtain ⟨w2, HW2⟩ : ∃ w2, Hid (w1.setCell ⟨B, 0, none⟩ (.map (some (w.heap.size + 1))) = w2) := ⟨_, rfl⟩
    have hst : ∀ v, v = Value.map (some (w.heap.size + 1)) → w1.setCell ⟨B, 0, none⟩ v = w2 := fun v hv => by rw [hv]; exact HW2.out
    have hst := hst _ rfl
    rw [HW2.out] at hM2 hB2 hR2 hg2 hlk c2
    have d0 := cell_of_row w2 _ 0 _ _ (0, 0) hR2
    have d1 := cell_of_row w2 _ 1 _ _ (0, 0) hR2
    have g0 := frozen_of_row w2 _ 0 _ _ hR2
    have g1 := frozen_of_row w2 _ 1 _ _ hR2
    have HS : Hid (SrcAt B w2) := ⟨_, hB2, .inr ⟨_, L, rfl, hM2, hL⟩⟩
    have HG : Hid (w.grownBy w2 (some B)) := hg2
    have HR : Hid (w2.heap[w.heap.size]? = _) := hR2
    clear hM hM2 hB1 hB2 hR1 hR2 hg1 hg2 hb1 HT hc0 HA hB
    go_wp2
    obtain ⟨he, hs3, hg3⟩ := rowOf_end B w w2 p0 p1 hlt HR.out HS.out HG.out
    (try simp only [Exit.inBlock, Exit.then])
    exact bodyPost_ret (results_cell_row rfl _ _ w.heap.size 134 #[.int .i64 p0, .int .i64 p1] (0, 0) _ rfl he Tryd.underlying134 rfl (by kernel_rfl)) rfl ⟨rfl, hs3, hg3⟩
  · go_enter Tryd.func119, Tryd.ntmps119
    have hM1 : ∀ o, MapIs g L (w.alloc o) := fun o => hM.kept (Below.heap_alloc _ _ _ hM.lt)
    have hlk := fun o => HT g L _ (hM1 o) hL
    have HS : Hid (∀ o, SrcAt B (w.alloc o)) := fun o => ⟨_, HA o, .inr ⟨_, L, rfl, hM1 o, hL⟩⟩
    clear hM1 hM HT hB
    go_wp2
    (try simp only [Exit.inBlock, Exit.then])
    exact bodyPost_ret (results_cell_row rfl _ _ w.heap.size 134 #[.int .i64 p0, .int .i64 p1] (0, 0) _ rfl (heap_alloc_new _ _) Tryd.underlying134 rfl (by kernel_rfl)) rfl ⟨rfl, HS.out _, ⟨rfl, rfl, rfl, by simp, fun k hk _ => Below.heap_alloc _ _ _ hk⟩⟩

set_option maxRecDepth 100000 in
set_option maxHeartbeats 2000000 in
theorem partsOf_any (B : Nat) (c : Int) (w : World) (hs : SrcAt B w) :
    Calls Tryd.prog 111 #[.pointer (some ⟨B, 0, none⟩), .int .i64 c] w fun e w' => ∃ v, e = .returned v ∧ IntRow w' w.heap.size v (partsN c) ∧ SrcAt B w' ∧ w.grownBy w' (some B) := by
  have hlt := hs.lt
  cases h1 : inB c 44032 55203
  · cases h2 : inB c 192 8491
    · have HR : Hid (partsN c = []) := partsN_out c h2 h1
      generalize partsN c = l at HR ⊢
      go_enter Tryd.func111, Tryd.ntmps111
      go_wp2_with (go_at_call 99; refine (btw_any _ _ _ _).mono ?_; rintro e w' ⟨rfl, rfl⟩)
      go_ret
      rw [HR.out]
      exact ⟨_, rfl, World.ownsRow_nil _ _ _ _, hs, ⟨rfl, rfl, rfl, Nat.le_refl _, fun _ _ _ => rfl⟩⟩
    · have HR : Hid (partsN c = partsOf [(pFind c pTab).1, (pFind c pTab).2]) := partsN_tabl c h2
      obtain ⟨p0, H0⟩ : ∃ p0, Hid ((pFind c pTab).1 = p0) := ⟨_, rfl⟩
      obtain ⟨p1, H1⟩ : ∃ p1, Hid ((pFind c pTab).2 = p1) := ⟨_, rfl⟩
      have HRow := rowOf_any B c p0 p1 H0 H1 w hs
      rw [H0.out, H1.out] at HR
      have HS := fun g w' h => readRow_any g p0 p1 w' h
      generalize partsOf [p0, p1] = q at HR HS
      rw [HR.out]
      clear HR H0 H1
      have hmf : ∀ (fn : Fn) (first cap : Array Value) (w : World), (Instr.makeFunc fn first cap).run Tryd.prog w = .ok (.func fn first cap) w := fun _ _ _ _ => rfl
      go_enter Tryd.func111, Tryd.ntmps111
      go_wp2_with (first | (go_at_call 99; refine (btw_any _ _ _ _).mono ?_; rintro e w' ⟨rfl, rfl⟩) | (go_at_call 119; refine HRow.mono ?_; rintro e w1 ⟨rfl, hs1, hg1⟩))
      refine (HS (w1.heap.size + 1) _ (row_new _ _ ?_ _ _ _)).mono ?_
      · rw [hs_alloc]
      rintro e w2 ⟨v, rfl, hrow, hb2⟩
      have hz := hg1.size
      have hb3 : Below w1.heap.size w1 w2 := (((Below.refl w1.heap.size w1).alloc (Nat.le_refl _) _).alloc (by rw [hs_alloc]; omega) _).trans (hb2.mono (by rw [hs_alloc, hs_alloc]; omega))
      have hs2 := hs1.below hb3
      go_wp2
      go_ret
      exact ⟨v, rfl, hrow.mono (by rw [hs_alloc, hs_alloc]; omega), hs2, ⟨hb3.os.trans hg1.os, hb3.tape.trans hg1.tape, hb3.output.trans hg1.output, Nat.le_trans hg1.size hb3.size, fun k hk hn => (hb3.block k (by omega)).trans (hg1.block k hk hn)⟩⟩
  · have hb := inB_le h1
    have HR : Hid (partsN c = partsOf [leadP (c - 44032), vowP (c - 44032), tailP (c - 44032)]) := by
      show _ = _
      rw [partsN_rest c (fun hc => by have := keys_bd c hc; omega), h1, han_parts c hb.1]; rfl
    rw [HR.out]
    refine (partsOfH _ c h1 w).mono ?_
    rintro e w' ⟨v, rfl, hrow, hb⟩
    exact ⟨v, rfl, hrow, hs.below hb, ⟨hb.os, hb.tape, hb.output, hb.size, fun k hk _ => hb.block k hk⟩⟩

/-- a new source -/
theorem src_new (w : World) : SrcAt w.heap.size (w.alloc (.cells #[.map none] 119)) :=
  ⟨none, by show (w.heap.push _)[w.heap.size]? = _; simp, .inl rfl⟩
end

end Go.Proofs.YtlkemmdcjnaepaaDoor
