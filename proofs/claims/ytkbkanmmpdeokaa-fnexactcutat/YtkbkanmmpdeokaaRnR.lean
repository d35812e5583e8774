/- Rows of structs of 2 whole numbers (Run): how they lie; a row behind a row. -/
import Derived.Test.YtkbkanmmpdeokaaRows
import Derived.Test.YtkbkanmmpdeokaaBtT
import Derived.Test.YtkbkanmmpdeokaaSgn
import Derived.Laws.AppendOwnNone
namespace Go.Proofs.Ytkbkanmmpdeokaa
open Go.RowKit

theorem ownRn_below {w w' : World} {base size n : Nat} {e : TypeId} {v : Value} {xs : List Value} (h : w.ownsRow base e size v n xs) (b : Below w.heap.size w w') : w'.ownsRow base e size v n xs :=
  ⟨h.1, by
    rcases h.2 with h0 | ⟨g, cap, cur, e, hg, hh, r⟩
    · exact .inl h0
    · exact .inr ⟨g, cap, cur, e, hg, (b.block g (lt_of_block hh)).trans hh, r⟩⟩
def encRn (e : Rn) : List Value := [.int .i64 e.p, .int .i64 e.n]
theorem encRn_len (e : Rn) : (encRn e).length = 2 := rfl
theorem encRn_one (e : Rn) : ∀ v ∈ encRn e, v.oneCell' = true := by
  intro v hv
  simp only [encRn, List.mem_cons, List.not_mem_nil, or_false] at hv
  rcases hv with rfl | rfl <;> rfl
def flatRn (l : List Rn) : List Value := l.flatMap encRn
theorem flatRn_len (l : List Rn) : (flatRn l).length = l.length * 2 := by
  unfold flatRn
  induction l with
  | nil => rfl
  | cons c l ih => rw [List.flatMap_cons, List.length_append, ih, encRn_len, List.length_cons]; omega
theorem flatRn_append (l m : List Rn) : flatRn (l ++ m) = flatRn l ++ flatRn m := by simp [flatRn]
theorem flatRn_cons (e : Rn) (l : List Rn) : flatRn (e :: l) = encRn e ++ flatRn l := by simp [flatRn]
theorem flatRn_one (e : Rn) : flatRn [e] = encRn e := by simp [flatRn]
theorem flatRn_cell (l : List Rn) (v : Value) (hv : v ∈ flatRn l) : v.oneCell' = true := by
  unfold flatRn at hv
  obtain ⟨e, _, he⟩ := List.mem_flatMap.1 hv
  exact encRn_one e v he
/-- the cells of one of them at place o -/
structure CellsRn (w : World) (b o : Nat) (e : Rn) : Prop where
  c0 : w.cell? ⟨b, o, none⟩ = some (.int .i64 e.p)
  c1 : w.cell? ⟨b, o + 1, none⟩ = some (.int .i64 e.n)
theorem flatRn_at : ∀ (l : List Rn) (j : Nat), j < l.length → ∀ t, t < 2 → (flatRn l)[j * 2 + t]? = (encRn l[j]!)[t]?
  | [], j, h, _, _ => by simp at h
  | e :: l, 0, _, t, ht => by
    rw [flatRn_cons, List.getElem?_append_left (by rw [encRn_len]; omega), Nat.zero_mul, Nat.zero_add]; rfl
  | e :: l, j + 1, h, t, ht => by
    have ih := flatRn_at l j (by simpa using h) t ht
    rw [flatRn_cons, List.getElem?_append_right (by rw [encRn_len]; omega), encRn_len, show (j + 1) * 2 + t - 2 = j * 2 + t by omega, ih]
    rfl

/-- the slice v reads as l -/
def RnsAt (w : World) (v : Value) (l : List Rn) : Prop :=
  ∃ a cap, v = .slice a l.length cap ∧ (a = none → cap = 0) ∧ ∀ t, t < l.length → ∃ b off, a = some ⟨b, off, none⟩ ∧ b < w.heap.size ∧ CellsRn w b (off + t * 2) l[t]!



theorem CellsRn.below {w w' : World} {b o : Nat} {e : Rn} (h : CellsRn w b o e) (hl : b < w.heap.size) (hb : Below w.heap.size w w') : CellsRn w' b o e :=
  ⟨(hb.cell (p := ⟨b, o, none⟩) hl).trans h.c0, (hb.cell (p := ⟨b, o + 1, none⟩) hl).trans h.c1⟩
theorem RnsAt.below {w w' : World} {v : Value} {l : List Rn} (h : RnsAt w v l) (b : Below w.heap.size w w') : RnsAt w' v l := by
  obtain ⟨a, cap, rfl, hn, hc⟩ := h
  refine ⟨a, cap, rfl, hn, fun t ht => ?_⟩
  obtain ⟨bb, off, h1, h2, h3⟩ := hc t ht
  exact ⟨bb, off, h1, Nat.lt_of_lt_of_le h2 b.size, h3.below h2 b⟩







theorem Rns_ext (l m : List Rn) (hl : l.length = m.length) (h : ∀ t, t < l.length → l[t]! = m[t]!) : l = m := by
  apply List.ext_getElem hl
  intro t h1 h2
  have := h t h1
  rwa [getElem!_pos l t h1, getElem!_pos m t h2] at this
theorem flatRn_put : ∀ (l : List Rn) (t : Nat) (e : Rn), t < l.length → ((flatRn l).set (t * 2) (.int .i64 e.p)).set (t * 2 + 1) (.int .i64 e.n) = flatRn (l.set t e)
  | [], t, e, h => by simp at h
  | x :: l, 0, e, _ => by simp [flatRn_cons, encRn]
  | x :: l, t + 1, e, h => by
    have ih := flatRn_put l t e (by simpa using h)
    rw [List.set_cons_succ, flatRn_cons, flatRn_cons, ← ih]
    simp only [encRn, List.cons_append, List.nil_append]
    rw [show (t + 1) * 2 = t * 2 + 1 + 1 by omega]
    simp only [List.set_cons_succ]
theorem flatRn_set (l : List Rn) (t : Nat) (e : Rn) (i : Nat) (v : Value) (ht : t < l.length) (hi : i < 2) (he : encRn e = (encRn l[t]!).set i v) : (flatRn l).set (t * 2 + i) v = flatRn (l.set t e) := by
  apply List.ext_getElem?
  intro j
  by_cases hj : j < l.length * 2
  · have h1 := flatRn_at (l.set t e) (j / 2) (by simp; omega) (j % 2) (by omega)
    have h2 := flatRn_at l (j / 2) (by omega) (j % 2) (by omega)
    rw [show j / 2 * 2 + j % 2 = j by omega] at h1 h2
    rw [h1, List.getElem?_set]
    by_cases hjt : j / 2 = t
    · have h3 : (l.set t e)[j / 2]! = e := by rw [hjt, getElem!_pos _ _ (by simpa using ht)]; simp
      rw [h3, he, List.getElem?_set]
      rw [hjt] at h2
      by_cases hji : j % 2 = i
      · rw [if_pos (by omega), if_pos (by rw [flatRn_len]; omega), if_pos hji.symm, if_pos (by rw [encRn_len]; omega)]
      · rw [if_neg (by omega), if_neg (by omega), h2]
    · have h3 : (l.set t e)[j / 2]! = l[j / 2]! := by
        rw [getElem!_pos _ _ (by simp; omega), getElem!_pos l _ (by omega), List.getElem_set_ne (by omega)]
      rw [h3, if_neg (by omega), h2]
  · rw [List.getElem?_eq_none (by rw [List.length_set, flatRn_len]; omega), List.getElem?_eq_none (by rw [flatRn_len, List.length_set]; omega)]


end Go.Proofs.Ytkbkanmmpdeokaa
