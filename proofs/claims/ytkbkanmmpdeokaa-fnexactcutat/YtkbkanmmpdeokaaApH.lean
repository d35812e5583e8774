/- Rows of whole numbers: what an append leaves as it was. -/
import Derived.Test.YtkbkanmmpdeokaaRows
import Derived.Test.YtkbkanmmpdeokaaIntS
import Derived.Laws.AppendOwnNone
import Derived.Deep.AppendSrc
import Derived.Lib.AppendZeros
namespace Go.Proofs.Ytkbkanmmpdeokaa
open Go.RowKit

/-- a piece of a row written anew -/
def putI (C : List Value) (o : Nat) (X : List Value) : List Value := C.take o ++ X ++ C.drop (o + X.length)
theorem putI_len {C X : List Value} {o : Nat} (h : o + X.length ≤ C.length) : (putI C o X).length = C.length := by
  unfold putI; simp; omega
theorem putI_to {C X : List Value} {o b : Nat} (h : o ≤ C.length) (hb : b = o + X.length) : (putI C o X).take b = C.take o ++ X := by
  unfold putI
  rw [List.take_append_of_le_length (by simp; omega), List.take_of_length_le (by simp; omega)]
theorem setRow_but (w : World) (g : Nat) (cs : Array Value) (k : Nat) (h : k ≠ g) : (w.setRow g cs).heap[k]? = w.heap[k]? := by
  simp only [World.setRow, Array.getElem?_modify]
  rw [if_neg (by omega)]
/-- 'append(row, x)': the row stays in its block or goes to a new one -/
theorem append_intH (w : World) {ops : Array Oper} {rest : List Oper} {o : Oper} {a : Act} {Q : Exit → Act → World → Prop} (hgd : o.guard = none) (s x : Operand)
    (ho : o.op = .call { callee := .builtin .append, args := #[s, x], argTypes := #[31, 31] }) (base : Nat)
    (v : Value) (g cap : Nat) (l : List Int) (e : Int) (hl : l.length + 1 ≤ 1099511627776) (hown : IntRow w base v l) (hc : w.cell? ⟨g, 0, none⟩ = some (.int .i64 e)) (hs : a.eval s = v) (hx : a.eval x = .slice (some ⟨g, 0, none⟩) 1 cap)
    (hbase : base ≤ w.heap.size)
    (h : ∀ v' w', IntRow w' base v' (l ++ [e]) → w.grownBy w' v.ownBlock → (∀ k, v'.ownBlock = some k → v.ownBlock = some k ∨ w.heap.size ≤ k) → wpList Try.prog ops Q rest (a.put o.dst v') w') :
    wpList Try.prog ops Q (o :: rest) a w := by
  obtain ⟨i0, hi0, hz0, hz1, hz2⟩ := info_parts Try.infoInt
  have hcell : ∀ j u, [Value.int .i64 e][j]? = some u → w.cell? ((⟨g, 0, none⟩ : Addr).add j) = some u := fun j y hj => by
    match j, hj with
    | 0, hj => simp at hj; subst hj; rw [Addr.add_lit]; exact hc
    | j + 1, hj => simp at hj
  have hone : ∀ u ∈ [Value.int .i64 e], u.oneCell' = true := fun u hu => by simp at hu; subst hu; rfl
  have hsrc : _root_.Go.Src Try.prog i0.size 31 (.slice (some ⟨g, 0, none⟩) 1 cap) 1 [Value.int .i64 e] w :=
    _root_.Go.Src.ofSlice w Try.underlying31 ⟨g, 0, none⟩ 1 cap _ (by rw [hz1]; rfl) hcell hone
  have hle : (l ++ [e]).length = l.length + 1 := by simp
  have hfe : intsV (l ++ [e]) = intsV l ++ [.int .i64 e] := intsV_append _ _
  have hil : (intsV l).length = l.length := by simp [intsV]
  have GROW : ∀ (ad : Option Addr) (c : Nat), v = .slice ad l.length c → c < l.length + 1 → (Builtin.firstCells i0.size l.length (.slice ad l.length c)).run Try.prog w.drew = .ok (intsV l).toArray w.drew → wpList Try.prog ops Q (o :: rest) a w := fun ad c hv hroom hold => by
    have hrun := run_append_grow_src w 31 31 o.type 3 i0 _ Try.underlying31 hi0 hz0 ad l.length c (intsV l) hold _ 1 [.int .i64 e] hsrc hroom (by omega) (by rw [hz2]; exact growslice_fits hroom (by omega))
    have hGn : l.length + 1 ≤ grownCap w (l.length + 1) c 3 := grownCap_ge w _ _ _
    have hGm : grownCap w (l.length + 1) c 3 ≤ maxLen := grownCap_le_maxLen w (l.length + 1) c _ (by unfold maxLen; omega)
    generalize grownCap w (l.length + 1) c 3 = G at hrun hGn hGm
    refine Lib.wpList_append_run w hgd s x _ _ ho _ _ (hs.trans hv) hx _ _ hrun ?_
    refine h _ _ ⟨by rw [hfe, List.length_append, hil]; simp, .inr ⟨w.heap.size, G, _, by rw [hle], hbase, heap_alloc_new w.drew _, by rw [hle]; exact hGn, hGm, ?_, ?_⟩⟩ ⟨rfl, rfl, rfl, by simp, fun k hk _ => Below.heap_alloc w.drew _ _ hk⟩ (fun k hk => .inr (by cases hk; exact Nat.le_refl _))
    · rw [Array.size_append, List.size_toArray, List.length_append, hil, size_zeroCells]
      simp [Value.cells]
      omega
    · rw [Array.toList_append, hle, hfe, List.take_append_of_le_length (by simp [hil]), List.take_of_length_le (by simp [hil])]
  rcases hown.2 with ⟨rfl, h0⟩ | ⟨g0, c0, cur, rfl, hg, hh, hnc, hcp, hcs, htake⟩
  · have hl0 : l = [] := List.length_eq_zero_iff.1 h0
    subst hl0
    exact GROW none 0 rfl (by simp) (run_firstCells_none w.drew i0.size 0 0 0)
  · by_cases hroom : l.length + 1 ≤ c0
    · have hlen : cur.toList.length = c0 * 1 := by rw [Array.length_toList, hcs]
      have hrun := run_append_room (P := Try.prog) w 31 o.type 3 i0 Try.underlying31 hi0 g0 l.length c0 cur hh ⟨g, 0, none⟩ 1 cap [.int .i64 e] (by rw [hz1]; rfl) hcell hone hroom (by rw [hz1, hcs]; simp; omega)
      rw [hz1] at hrun
      refine Lib.wpList_append_run w hgd s x _ _ ho _ _ hs hx _ _ hrun ?_
      refine h _ _ ⟨by rw [hfe, List.length_append, hil]; simp, .inr ⟨g0, c0, _, by rw [hle], hg, setRow_heap w g0 _ _ _ _ hh, by rw [hle]; exact hroom, hcp, ?_, ?_⟩⟩ ⟨rfl, rfl, rfl, by simp, fun k hk hn => setRow_but w g0 _ k (fun e => hn (by rw [e]; rfl))⟩ (fun k hk => .inl hk)
      · rw [List.size_toArray]
        show (putI cur.toList (l.length * 1) [.int .i64 e]).length = _
        rw [putI_len (by rw [hlen]; simp; omega), hlen]
      · show (putI cur.toList (l.length * 1) [.int .i64 e]).take _ = _
        rw [hle, show (l.length + 1) * 1 = l.length * 1 + [Value.int .i64 e].length by simp, putI_to (by rw [hlen]; omega) (by rfl), hfe]
        congr 1
    · refine GROW _ c0 rfl (by omega) ?_
      rw [hz1]
      exact run_firstCells_some w.drew 1 l.length ⟨g0, 0, none⟩ l.length c0 (intsV l) (by rw [hil]; omega) (fun j u hj => by
        rw [Addr.add_lit, Nat.zero_add]
        have hj1 := (List.getElem?_eq_some_iff.1 hj).1
        rw [hil] at hj1
        show w.cell? _ = _
        rw [cell_of_row w g0 _ _ _ _ hh, ← hj, ← htake, List.getElem?_take, if_pos (by omega)]
        simp)
end Go.Proofs.Ytkbkanmmpdeokaa
