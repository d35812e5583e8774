/- Rows of entries: what laws.toEntS, szEnt, szEntS do. -/
import Derived.Test.YtgjehmobafkjfaaRows
import Derived.Test.YtgjehmobafkjfaaLEn
namespace Go.Proofs.Ytgjehmobafkjfaa
open Go.RowKit Go.Sort

theorem own_below {w w' : World} {base size n : Nat} {e : TypeId} {v : Value} {xs : List Value} (h : w.ownsRow base e size v n xs) (b : Below w.heap.size w w') : w'.ownsRow base e size v n xs :=
  ⟨h.1, by
    rcases h.2 with h0 | ⟨g, cap, cur, e, hg, hh, r⟩
    · exact .inl h0
    · exact .inr ⟨g, cap, cur, e, hg, (b.block g (lt_of_block hh)).trans hh, r⟩⟩
theorem flatE_set : ∀ (l : List En) (t : Nat) (e : En), t < l.length → ((((flatE l).set (t * 4) (.int .i64 e.hash)).set (t * 4 + 1) (.int .i64 e.index)).set (t * 4 + 2) (.string e.name)).set (t * 4 + 3) (.int .i64 e.id) = flatE (l.set t e)
  | [], t, e, h => by simp at h
  | x :: l, 0, e, _ => by simp [flatE_cons, encE]
  | x :: l, t + 1, e, h => by
    have ih := flatE_set l t e (by simpa using h)
    rw [List.set_cons_succ, flatE_cons, flatE_cons, ← ih]
    simp only [encE, List.cons_append, List.nil_append]
    rw [show (t + 1) * 4 = t * 4 + 1 + 1 + 1 + 1 by omega]
    simp only [List.set_cons_succ]

/-- the four cells of one entry of a row of the call's own written anew -/
theorem row_put {w : World} {base g n cap : Nat} {l : List En} (h : w.ownsRow base 49 4 (.slice (some ⟨g, 0, none⟩) n cap) n (flatE l)) (t : Nat) (ht : t < l.length) (e : En) :
    ((((w.setCell ⟨g, t * 4, none⟩ (.int .i64 e.hash)).setCell ⟨g, t * 4 + 1, none⟩ (.int .i64 e.index)).setCell ⟨g, t * 4 + 2, none⟩ (.string e.name)).setCell ⟨g, t * 4 + 3, none⟩ (.int .i64 e.id)).ownsRow base 49 4 (.slice (some ⟨g, 0, none⟩) n cap) n (flatE (l.set t e)) := by
  have h1 := (h.stored (t * 4) (.int .i64 e.hash)).1
  have h2 := (h1.stored (t * 4 + 1) (.int .i64 e.index)).1
  have h3 := (h2.stored (t * 4 + 2) (.string e.name)).1
  have h4 := (h3.stored (t * 4 + 3) (.int .i64 e.id)).1
  rw [flatE_set l t e ht] at h4
  exact h4
/-- each of its cells is there and may be written -/
theorem row_cells {w : World} {base g n cap : Nat} {xs : List Value} (h : w.ownsRow base 49 4 (.slice (some ⟨g, 0, none⟩) n cap) n xs) (t : Nat) (ht : t < n * 4) : (∃ u, w.cell? ⟨g, t, none⟩ = some u) ∧ w.frozen? ⟨g, t, none⟩ = false :=
  ⟨⟨_, (h.cellAt t ht).trans (List.getElem?_eq_getElem (by have := h.1; omega))⟩, h.frozenAt t⟩

/-- the first j of l, then empty ones -/
def fillE (j : Nat) (l : List En) : List En := l.take j ++ List.replicate (l.length - j) default
theorem fillE_len (j : Nat) (l : List En) : (fillE j l).length = l.length := by unfold fillE; simp; omega
theorem fillE_step (j : Nat) (l : List En) (h : j < l.length) : (fillE j l).set j l[j]! = fillE (j + 1) l := by
  have e : min j l.length = j := by omega
  unfold fillE
  rw [List.set_append_right _ _ (by rw [List.length_take, e]; exact Nat.le_refl _), List.take_succ_eq_append_getElem h, getElem!_pos l j h, List.length_take, e, Nat.sub_self]
  rw [show l.length - j = (l.length - (j + 1)) + 1 by omega, List.replicate_succ, List.set_cons_zero, List.append_assoc]
  rfl
theorem flatE_zero (n : Nat) : (madeCells #[.int .i64 0, .int .i64 0, .string ⟨#[]⟩, .int .i64 0] (n * 4)).toList = flatE (List.replicate n default) := by
  apply List.ext_getElem?
  intro j
  by_cases hj : j < n * 4
  · have h1 := flatE_at (List.replicate n default) (j / 4) (by simp; omega) (j % 4) (by omega)
    have h2 : (List.replicate n (default : En))[j / 4]! = default := by
      rw [getElem!_pos _ _ (by simp; omega)]; simp
    rw [h2, show j / 4 * 4 + j % 4 = j by omega] at h1
    rw [h1]
    simp only [madeCells, Array.toList_map, List.getElem?_map, Array.toList_range, List.getElem?_range hj, Option.map_some]
    have : j % 4 < 4 := by omega
    show some (#[Value.int .i64 0, .int .i64 0, .string ⟨#[]⟩, .int .i64 0][j % 4]!) = _
    generalize j % 4 = s at *
    rcases s with _ | _ | _ | _ | s
    · rfl
    · rfl
    · rfl
    · rfl
    · omega
  · rw [List.getElem?_eq_none (by rw [Array.length_toList, size_madeCells]; omega), List.getElem?_eq_none (by rw [flatE_len]; simp; omega)]

end Go.Proofs.Ytgjehmobafkjfaa
