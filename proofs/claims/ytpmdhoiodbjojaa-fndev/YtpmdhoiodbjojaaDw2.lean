/- Draws of devices: what stands while a device is drawn; one round of it. -/
import Derived.Test.YtpmdhoiodbjojaaRows
import Derived.Test.YtpmdhoiodbjojaaDw1
namespace Go.Proofs.Ytpmdhoiodbjojaa
open Go.RowKit

/-- the answer's box, the device's box at o with x and y in it, the cursor -/
structure BxSt (S : Src) (p : Nat) (w : World) (o : Nat) (x y : Value) (s : Nat × Int) (wr : World) : Prop where
  hR : wr.heap[w.heap.size]? = some (.cells #[.slice none 0 0, .slice none 0 0] 27)
  hO : wr.heap[o]? = some (.cells #[x, y] 27)
  c : At S p s wr
  gb : w.grownBy wr (some p)
  hp : p < w.heap.size
  ho : w.heap.size < o
theorem BxSt.cur {S : Src} {p : Nat} {w : World} {o : Nat} {x y : Value} {s s' : Nat × Int} {wr wr' : World} (h : BxSt S p w o x y s wr) (c : At S p s' wr') (g : wr.grownBy wr' (some p)) : BxSt S p w o x y s' wr' :=
  ⟨(g.block _ (lt_of_block h.hR) (fun e => by have := Option.some.inj e; have := h.hp; omega)).trans h.hR, (g.block _ (lt_of_block h.hO) (fun e => by have := Option.some.inj e; have := h.hp; have := h.ho; omega)).trans h.hO, c, gb_trans h.gb g, h.hp, h.ho⟩
theorem BxSt.below {S : Src} {p : Nat} {w : World} {o : Nat} {x y : Value} {s : Nat × Int} {wr wr' : World} (h : BxSt S p w o x y s wr) (b : Below wr.heap.size wr wr') : BxSt S p w o x y s wr' :=
  ⟨(b.block _ (lt_of_block h.hR)).trans h.hR, (b.block _ (lt_of_block h.hO)).trans h.hO, h.c.below (b.mono h.c.size), gb_trans h.gb ⟨b.os, b.tape, b.output, b.size, fun k hk _ => b.block k hk⟩, h.hp, h.ho⟩
theorem BxSt.grown {S : Src} {p : Nat} {w : World} {o : Nat} {x y : Value} {s : Nat × Int} {wr wr' : World} {r : Option Nat} (h : BxSt S p w o x y s wr) (g : wr.grownBy wr' r) (hr : ∀ q, r = some q → w.heap.size < q ∧ q ≠ o) : BxSt S p w o x y s wr' := by
  have hp := h.hp
  refine ⟨(g.block _ (lt_of_block h.hR) (fun e => by have := (hr _ e.symm).1; omega)).trans h.hR, (g.block _ (lt_of_block h.hO) (fun e => (hr _ e.symm).2 rfl)).trans h.hO, h.c.below ⟨g.os, g.tape, g.output, g.size, fun k hk => g.block k (by have := h.c.size; omega) (fun e => by have := (hr _ e.symm).1; omega)⟩, ⟨g.os.trans h.gb.os, g.tape.trans h.gb.tape, g.output.trans h.gb.output, Nat.le_trans h.gb.size g.size, fun k hk hne => (g.block k (Nat.lt_of_lt_of_le hk h.gb.size) (fun e => by have := (hr _ e.symm).1; omega)).trans (h.gb.block k hk hne)⟩, h.hp, h.ho⟩
theorem BxSt.set0 {S : Src} {p : Nat} {w : World} {o : Nat} {x y : Value} {s : Nat × Int} {wr : World} (h : BxSt S p w o x y s wr) (u : Value) : BxSt S p w o u y s (wr.setCell ⟨o, 0, none⟩ u) := by
  have hp := h.hp
  have ho := h.ho
  have g := gb_set wr o 0 u
  exact ⟨(Below.heap_setCell wr ⟨o, 0, none⟩ _ w.heap.size (by show w.heap.size ≠ o; omega)).trans h.hR, block_set (i := 0) h.hO u, h.c.below ((Below.refl _ _).setCell (by show p + 1 ≤ o; omega) _), ⟨g.os.trans h.gb.os, g.tape.trans h.gb.tape, g.output.trans h.gb.output, Nat.le_trans h.gb.size g.size, fun k hk hne => (g.block k (Nat.lt_of_lt_of_le hk h.gb.size) (fun e => by have := Option.some.inj e; omega)).trans (h.gb.block k hk hne)⟩, h.hp, h.ho⟩
theorem BxSt.set1 {S : Src} {p : Nat} {w : World} {o : Nat} {x y : Value} {s : Nat × Int} {wr : World} (h : BxSt S p w o x y s wr) (u : Value) : BxSt S p w o x u s (wr.setCell ⟨o, 1, none⟩ u) := by
  have hp := h.hp
  have ho := h.ho
  have g := gb_set wr o 1 u
  exact ⟨(Below.heap_setCell wr ⟨o, 1, none⟩ _ w.heap.size (by show w.heap.size ≠ o; omega)).trans h.hR, block_set (i := 1) h.hO u, h.c.below ((Below.refl _ _).setCell (by show p + 1 ≤ o; omega) _), ⟨g.os.trans h.gb.os, g.tape.trans h.gb.tape, g.output.trans h.gb.output, Nat.le_trans h.gb.size g.size, fun k hk hne => (g.block k (Nat.lt_of_lt_of_le hk h.gb.size) (fun e => by have := Option.some.inj e; omega)).trans (h.gb.block k hk hne)⟩, h.hp, h.ho⟩
theorem BxSt.cells {S : Src} {p : Nat} {w : World} {o : Nat} {x y : Value} {s : Nat × Int} {wr : World} (h : BxSt S p w o x y s wr) : wr.cell? ⟨o, 0, none⟩ = some x ∧ wr.cell? ⟨o, 1, none⟩ = some y ∧ ∀ i, wr.frozen? ⟨o, i, none⟩ = false := ⟨cell_blk h.hO 0, cell_blk h.hO 1, fun i => unfrozen_blk h.hO i⟩
theorem dev_cur {p : Nat} {wr wr' : World} {B : Nat} {a b : Value} {d : Dv} (h : DevRow wr B a b d) (g : wr.grownBy wr' (some p)) (hp : p < B) : DevRow wr' B a b d :=
  ⟨own_gb h.t g fun q hq e => by have := Option.some.inj e; have := (h.blk.1 q hq).1; omega, own_gb h.p g fun q hq e => by have := Option.some.inj e; have := (h.blk.2 q hq).1; omega, h.ap⟩
theorem dev_set {wr : World} {B o : Nat} {a b x y : Value} {d : Dv} (h : DevRow wr B a b d) (hO : wr.heap[o]? = some (.cells #[x, y] 27)) (i : Nat) (u : Value) : DevRow (wr.setCell ⟨o, i, none⟩ u) B a b d :=
  ⟨own_st h.t _ _ _ (own_ne h.t hO (by decide)), own_st h.p _ _ _ (own_ne h.p hO (by decide)), h.ap⟩
theorem done_right {keep : Nat → Bool} {d : Dv} (h : devB d = true) : devB ⟨doneN keep 0 d.pend d.blocks, []⟩ = true := by
  obtain ⟨⟨h1, -⟩, h2, h3⟩ := (devB_iff d).1 h
  have key : ∀ (l : List Wr) (i : Nat) (b : List ByteArray), (∀ x ∈ l, x.text.size ≤ 4000) → (∀ t ∈ b, t.size ≤ 4000) → ∀ t ∈ doneN keep i l b, t.size ≤ 4000 := by
    intro l
    induction l with
    | nil => intro i b _ hb; exact hb
    | cons x l ih =>
      intro i b hl hb
      rw [doneN]
      refine ih (i + 1) _ (fun y hy => hl y (by simp [hy])) ?_
      split
      · intro t ht
        rcases List.mem_or_eq_of_mem_set ht with h | h
        · exact hb t h
        · rw [h]; exact hl x (by simp)
      · exact hb
  refine (devB_iff _).2 ⟨⟨by dsimp only; rw [doneN_len]; exact h1, by simp⟩, fun t ht => ?_, fun t ht => by simp at ht⟩
  dsimp only at ht ⊢
  rw [getElem!_pos _ t ht]
  refine key d.pend 0 d.blocks (fun x hx => ?_) (fun x hx => ?_) _ (List.getElem_mem ht)
  · obtain ⟨i, hi, rfl⟩ := List.getElem_of_mem hx
    have := (h3 i hi).2.2
    rwa [getElem!_pos _ i hi] at this
  · obtain ⟨i, hi, rfl⟩ := List.getElem_of_mem hx
    have := h2 i hi
    rwa [getElem!_pos _ i hi] at this
theorem put_right {d : Dv} (h : devB d = true) (l : List Wr) : devB (putN d l).1 = true := by
  unfold putN
  rw [if_pos h]
  by_cases hp : putFits d l = true
  · rw [if_pos hp]
    unfold putFits wrsB at hp
    rw [Bool.and_eq_true, decide_eq_true_eq, List.all_eq_true] at hp
    obtain ⟨⟨h1, h2⟩, h3, h4⟩ := (devB_iff d).1 h
    refine (devB_iff _).2 ⟨⟨h1, by dsimp only; rw [List.length_append]; omega⟩, h3, fun t ht => ?_⟩
    dsimp only at ht ⊢
    rw [getElem!_pos _ t ht]
    rw [List.length_append] at ht
    by_cases hlt : t < d.pend.length
    · rw [List.getElem_append_left hlt]
      have := h4 t hlt
      rwa [getElem!_pos _ t hlt] at this
    · rw [List.getElem_append_right (by omega)]
      have := hp.2 _ (List.getElem_mem (l := l) (n := t - d.pend.length) (by omega))
      unfold wrB at this
      exact of_decide_eq_true this
  · rw [if_neg hp]; exact h

end Go.Proofs.Ytpmdhoiodbjojaa
