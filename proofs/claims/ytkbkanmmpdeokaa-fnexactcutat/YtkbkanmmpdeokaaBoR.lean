/- Rows of flags: how they lie; a row behind a row. -/
import Derived.Test.YtkbkanmmpdeokaaRows
import Derived.Test.YtkbkanmmpdeokaaNum
import Derived.Test.YtkbkanmmpdeokaaSgn
import Derived.Laws.AppendOwnNone
namespace Go.Proofs.Ytkbkanmmpdeokaa
open Go.RowKit

theorem ownBo_below {w w' : World} {base size n : Nat} {e : TypeId} {v : Value} {xs : List Value} (h : w.ownsRow base e size v n xs) (b : Below w.heap.size w w') : w'.ownsRow base e size v n xs :=
  ⟨h.1, by
    rcases h.2 with h0 | ⟨g, cap, cur, e, hg, hh, r⟩
    · exact .inl h0
    · exact .inr ⟨g, cap, cur, e, hg, (b.block g (lt_of_block hh)).trans hh, r⟩⟩
def encBo (e : Bool) : List Value := [.bool e]
theorem encBo_len (e : Bool) : (encBo e).length = 1 := rfl
theorem encBo_one (e : Bool) : ∀ v ∈ encBo e, v.oneCell' = true := by
  intro v hv
  simp only [encBo, List.mem_cons, List.not_mem_nil, or_false] at hv
  subst hv; rfl
def flatBo (l : List Bool) : List Value := l.flatMap encBo
theorem flatBo_len (l : List Bool) : (flatBo l).length = l.length * 1 := by
  unfold flatBo
  induction l with
  | nil => rfl
  | cons c l ih => rw [List.flatMap_cons, List.length_append, ih, encBo_len, List.length_cons]; omega
theorem flatBo_append (l m : List Bool) : flatBo (l ++ m) = flatBo l ++ flatBo m := by simp [flatBo]
theorem flatBo_cons (e : Bool) (l : List Bool) : flatBo (e :: l) = encBo e ++ flatBo l := by simp [flatBo]
theorem flatBo_one (e : Bool) : flatBo [e] = encBo e := by simp [flatBo]
theorem flatBo_cell (l : List Bool) (v : Value) (hv : v ∈ flatBo l) : v.oneCell' = true := by
  unfold flatBo at hv
  obtain ⟨e, _, he⟩ := List.mem_flatMap.1 hv
  exact encBo_one e v he
/-- the cells of one of them at place o -/
structure CellsBo (w : World) (b o : Nat) (e : Bool) : Prop where
  c0 : w.cell? ⟨b, o, none⟩ = some (.bool e)
theorem flatBo_at : ∀ (l : List Bool) (j : Nat), j < l.length → ∀ t, t < 1 → (flatBo l)[j * 1 + t]? = (encBo l[j]!)[t]?
  | [], j, h, _, _ => by simp at h
  | e :: l, 0, _, t, ht => by
    rw [flatBo_cons, List.getElem?_append_left (by rw [encBo_len]; omega), Nat.zero_mul, Nat.zero_add]; rfl
  | e :: l, j + 1, h, t, ht => by
    have ih := flatBo_at l j (by simpa using h) t ht
    rw [flatBo_cons, List.getElem?_append_right (by rw [encBo_len]; omega), encBo_len, show (j + 1) * 1 + t - 1 = j * 1 + t by omega, ih]
    rfl

/-- the slice v reads as l -/
def BosAt (w : World) (v : Value) (l : List Bool) : Prop :=
  ∃ a cap, v = .slice a l.length cap ∧ (a = none → cap = 0) ∧ ∀ t, t < l.length → ∃ b off, a = some ⟨b, off, none⟩ ∧ b < w.heap.size ∧ CellsBo w b (off + t * 1) l[t]!

/-- the slice v is a row that lies from block base on and is the call's own -/
def BoRow (w : World) (base : Nat) (v : Value) (l : List Bool) : Prop := w.ownsRow base 4 1 v l.length (flatBo l)

theorem BoRow.at {w : World} {base : Nat} {v : Value} {l : List Bool} (h : BoRow w base v l) : BosAt w v l := by
  rcases h.2 with ⟨rfl, h0⟩ | ⟨g, cap, cur, rfl, hg, hh, hnc, hcp, hcs, htake⟩
  · exact ⟨none, 0, by rw [h0], fun _ => rfl, fun t ht => by omega⟩
  · refine ⟨some ⟨g, 0, none⟩, cap, rfl, fun h => (by cases h), fun t ht => ⟨g, 0, rfl, lt_of_block hh, ?_⟩⟩
    have key : ∀ s, s < 1 → w.cell? ⟨g, 0 + t * 1 + s, none⟩ = (encBo l[t]!)[s]? := fun s hs => by
      rw [Nat.zero_add, World.ownsRow.cellAt h _ (by omega), flatBo_at l t ht s hs]
    exact ⟨key 0 (by omega)⟩
theorem CellsBo.below {w w' : World} {b o : Nat} {e : Bool} (h : CellsBo w b o e) (hl : b < w.heap.size) (hb : Below w.heap.size w w') : CellsBo w' b o e :=
  ⟨(hb.cell (p := ⟨b, o, none⟩) hl).trans h.c0⟩
theorem BosAt.below {w w' : World} {v : Value} {l : List Bool} (h : BosAt w v l) (b : Below w.heap.size w w') : BosAt w' v l := by
  obtain ⟨a, cap, rfl, hn, hc⟩ := h
  refine ⟨a, cap, rfl, hn, fun t ht => ?_⟩
  obtain ⟨bb, off, h1, h2, h3⟩ := hc t ht
  exact ⟨bb, off, h1, Nat.lt_of_lt_of_le h2 b.size, h3.below h2 b⟩
theorem BoRow.below {w w' : World} {base : Nat} {v : Value} {l : List Bool} (h : BoRow w base v l) (b : Below w.heap.size w w') : BoRow w' base v l := ownBo_below h b
theorem BoRow.mono {w : World} {base base' : Nat} {v : Value} {l : List Bool} (h : BoRow w base v l) (hb : base' ≤ base) : BoRow w base' v l := World.ownsRow.mono h hb

theorem Try.infoBo : (Try.prog.info? 4).map (fun i => (i.zero, i.size, i.bytes)) = some (some (.bool false), 1, 1) := by kernel_rfl

/-- a new row that is empty, as the walk has it -/
theorem lit_Bos (w : World) : BoRow (w.alloc (.cells #[] 4)) w.heap.size (.slice (some ⟨w.heap.size, 0, none⟩) 0 0) [] :=
  World.ownsRow_lit (base := w.heap.size) (e := 4) (size := 1) w #[] 0 (Nat.le_refl _) (by unfold maxLen; omega) rfl
/-- a new block with one of them -/
theorem one_Bo (w : World) (e : Bool) : BosAt (w.alloc (.cells #[.bool e] 4)) (.slice (some ⟨w.heap.size, 0, none⟩) 1 1) [e] := by
  refine ⟨_, _, rfl, fun h => (by cases h), fun t ht => ⟨w.heap.size, 0, rfl, by simp, ?_⟩⟩
  obtain rfl : t = 0 := by simpa using ht
  refine ⟨?_⟩ <;> rw [World.cell?_alloc_mark] <;> rfl

/-- 'append(out, x...)', out a row of the call's own, x any row -/
theorem append_BosG (w : World) {ops : Array Oper} {rest : List Oper} {o : Oper} {a : Act} {Q : Exit → Act → World → Prop} (hgd : o.guard = none) (s x : Operand)
    (ho : o.op = .call { callee := .builtin .append, args := #[s, x], argTypes := #[66, 66] }) (base : Nat)
    (v u : Value) (l m : List Bool) (hl : l.length + m.length ≤ 1099511627776) (hown : BoRow w base v l) (hu : BosAt w u m) (hs : a.eval s = v) (hx : a.eval x = u)
    (hbase : base ≤ w.heap.size)
    (h : ∀ v' w', BoRow w' base v' (l ++ m) → w.grownBy w' v.ownBlock → wpList Try.prog ops Q rest (a.put o.dst v') w') :
    wpList Try.prog ops Q (o :: rest) a w := by
  obtain ⟨i0, hi, hz0, hz1, hz2⟩ := info_parts Try.infoBo
  obtain ⟨ad, cap, rfl, hn, hc⟩ := hu
  cases ad with
  | none =>
    have hc0 := hn rfl
    have hm : m = [] := by
      cases m with
      | nil => rfl
      | cons e m => obtain ⟨b, off, h1, _⟩ := hc 0 (by simp); cases h1
    subst hm hc0
    refine wpList_append_own_none hgd s x 66 ho base 4 i0 1 Try.underlying66 hi v l.length (flatBo l) hs hown hx ?_
    refine h v w (by rw [List.append_nil]; exact hown) ⟨rfl, rfl, rfl, Nat.le_refl _, fun _ _ _ => rfl⟩
  | some ad =>
    have hcl : ∀ j y, (flatBo m)[j]? = some y → w.cell? (ad.add j) = some y := by
      intro j y hy
      have hj : j < m.length * 1 := by
        have := (List.getElem?_eq_some_iff.1 hy).1
        rwa [flatBo_len] at this
      obtain ⟨b1, off1, e, _, hcj⟩ := hc (j / 1) (by omega)
      cases e
      have hjj : j = j / 1 * 1 + j % 1 := by omega
      have h4 := flatBo_at m (j / 1) (by omega) (j % 1) (by omega)
      rw [← hjj, hy] at h4
      rw [Addr.add_lit, hjj, ← Nat.add_assoc]
      have : j % 1 < 1 := by omega
      generalize j % 1 = s at *
      rcases s with _ | s
      · exact hcj.c0.trans h4.symm
      · omega
    refine wpList_append_own _ hgd s x 66 ho base 4 i0 _ 1 1 Try.underlying66 hi hz0 hz1 hz2 rfl (by decide) v l.length (flatBo l) hs hown ad m.length cap (flatBo m) hx (flatBo_len m) hcl (flatBo_cell m) (by unfold maxLen; omega) (by omega) hbase ?_
    intro v' w' hown' hgrow _
    refine h v' w' ?_ ?_
    · unfold BoRow
      rw [flatBo_append, List.length_append]
      exact hown'
    · exact hgrow
theorem append_Bos (w : World) {ops : Array Oper} {rest : List Oper} {o : Oper} {a : Act} {Q : Exit → Act → World → Prop} (hgd : o.guard = none) (s x : Operand)
    (ho : o.op = .call { callee := .builtin .append, args := #[s, x], argTypes := #[66, 66] }) (base : Nat)
    (v u : Value) (l m : List Bool) (hl : l.length + m.length ≤ 1099511627776) (hown : BoRow w base v l) (hu : BosAt w u m) (hs : a.eval s = v) (hx : a.eval x = u)
    (hbase : base ≤ w.heap.size)
    (h : ∀ v' w', BoRow w' base v' (l ++ m) → Below base w w' → wpList Try.prog ops Q rest (a.put o.dst v') w') :
    wpList Try.prog ops Q (o :: rest) a w :=
  append_BosG w hgd s x ho base v u l m hl hown hu hs hx hbase fun v' w' hr hg => h v' w' hr ((Below.refl base w).grown hg hbase fun k hk => (World.ownsRow.lt hown k hk).1)

theorem Bos_ext (l m : List Bool) (hl : l.length = m.length) (h : ∀ t, t < l.length → l[t]! = m[t]!) : l = m := by
  apply List.ext_getElem hl
  intro t h1 h2
  have := h t h1
  rwa [getElem!_pos l t h1, getElem!_pos m t h2] at this
theorem flatBo_put : ∀ (l : List Bool) (t : Nat) (e : Bool), t < l.length → (flatBo l).set (t * 1) (.bool e) = flatBo (l.set t e)
  | [], t, e, h => by simp at h
  | x :: l, 0, e, _ => by simp [flatBo_cons, encBo]
  | x :: l, t + 1, e, h => by
    have ih := flatBo_put l t e (by simpa using h)
    rw [List.set_cons_succ, flatBo_cons, flatBo_cons, ← ih]
    simp only [encBo, List.cons_append, List.nil_append]
    rw [show (t + 1) * 1 = t * 1 + 1 by omega]
    simp only [List.set_cons_succ]
theorem flatBo_set (l : List Bool) (t : Nat) (e : Bool) (i : Nat) (v : Value) (ht : t < l.length) (hi : i < 1) (he : encBo e = (encBo l[t]!).set i v) : (flatBo l).set (t * 1 + i) v = flatBo (l.set t e) := by
  apply List.ext_getElem?
  intro j
  by_cases hj : j < l.length * 1
  · have h1 := flatBo_at (l.set t e) (j / 1) (by simp; omega) (j % 1) (by omega)
    have h2 := flatBo_at l (j / 1) (by omega) (j % 1) (by omega)
    rw [show j / 1 * 1 + j % 1 = j by omega] at h1 h2
    rw [h1, List.getElem?_set]
    by_cases hjt : j / 1 = t
    · have h3 : (l.set t e)[j / 1]! = e := by rw [hjt, getElem!_pos _ _ (by simpa using ht)]; simp
      rw [h3, he, List.getElem?_set]
      rw [hjt] at h2
      by_cases hji : j % 1 = i
      · rw [if_pos (by omega), if_pos (by rw [flatBo_len]; omega), if_pos hji.symm, if_pos (by rw [encBo_len]; omega)]
      · rw [if_neg (by omega), if_neg (by omega), h2]
    · have h3 : (l.set t e)[j / 1]! = l[j / 1]! := by
        rw [getElem!_pos _ _ (by simp; omega), getElem!_pos l _ (by omega), List.getElem_set_ne (by omega)]
      rw [h3, if_neg (by omega), h2]
  · rw [List.getElem?_eq_none (by rw [List.length_set, flatBo_len]; omega), List.getElem?_eq_none (by rw [flatBo_len, List.length_set]; omega)]
/-- one cell of one of a row of the call's own written anew -/
theorem rowBo_set {w : World} {base g n cap : Nat} {l : List Bool} (h : w.ownsRow base 4 1 (.slice (some ⟨g, 0, none⟩) n cap) n (flatBo l)) (t : Nat) (e : Bool) (i : Nat) (v : Value) (ht : t < l.length) (hi : i < 1) (he : encBo e = (encBo l[t]!).set i v) :
    (w.setCell ⟨g, t * 1 + i, none⟩ v).ownsRow base 4 1 (.slice (some ⟨g, 0, none⟩) n cap) n (flatBo (l.set t e)) := by
  have := (h.stored (t * 1 + i) v).1
  rwa [flatBo_set l t e i v ht hi he] at this
/-- the cells of one of a row written anew -/
theorem rowBo_put {w : World} {base g n cap : Nat} {l : List Bool} (h : w.ownsRow base 4 1 (.slice (some ⟨g, 0, none⟩) n cap) n (flatBo l)) (t : Nat) (ht : t < l.length) (e : Bool) :
    (w.setCell ⟨g, t * 1, none⟩ (.bool e)).ownsRow base 4 1 (.slice (some ⟨g, 0, none⟩) n cap) n (flatBo (l.set t e)) := by
  have h0 := h
  have h1 := (h0.stored (t * 1) (.bool e)).1
  rw [flatBo_put l t e ht] at h1
  exact h1
/-- each of its cells is there and may be written -/
theorem rowBo_cells {w : World} {base g n cap : Nat} {xs : List Value} (h : w.ownsRow base 4 1 (.slice (some ⟨g, 0, none⟩) n cap) n xs) (t : Nat) (ht : t < n * 1) : (∃ u, w.cell? ⟨g, t, none⟩ = some u) ∧ w.frozen? ⟨g, t, none⟩ = false :=
  ⟨⟨_, (h.cellAt t ht).trans (List.getElem?_eq_getElem (by have := h.1; omega))⟩, h.frozenAt t⟩

end Go.Proofs.Ytkbkanmmpdeokaa
