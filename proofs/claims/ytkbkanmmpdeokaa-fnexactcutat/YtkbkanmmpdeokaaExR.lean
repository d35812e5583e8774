/- Rows of structs of 3 whole numbers (Ext): how they lie; a row behind a row. -/
import Derived.Test.YtkbkanmmpdeokaaRows
import Derived.Test.YtkbkanmmpdeokaaExT
import Derived.Test.YtkbkanmmpdeokaaSgn
import Derived.Laws.AppendOwnNone
namespace Go.Proofs.Ytkbkanmmpdeokaa
open Go.RowKit

theorem ownEx_below {w w' : World} {base size n : Nat} {e : TypeId} {v : Value} {xs : List Value} (h : w.ownsRow base e size v n xs) (b : Below w.heap.size w w') : w'.ownsRow base e size v n xs :=
  ⟨h.1, by
    rcases h.2 with h0 | ⟨g, cap, cur, e, hg, hh, r⟩
    · exact .inl h0
    · exact .inr ⟨g, cap, cur, e, hg, (b.block g (lt_of_block hh)).trans hh, r⟩⟩
def encEx (e : Ex) : List Value := [.int .i64 e.p, .int .i64 e.b, .int .i64 e.n]
theorem encEx_len (e : Ex) : (encEx e).length = 3 := rfl
theorem encEx_one (e : Ex) : ∀ v ∈ encEx e, v.oneCell' = true := by
  intro v hv
  simp only [encEx, List.mem_cons, List.not_mem_nil, or_false] at hv
  rcases hv with rfl | rfl | rfl <;> rfl
def flatEx (l : List Ex) : List Value := l.flatMap encEx
theorem flatEx_len (l : List Ex) : (flatEx l).length = l.length * 3 := by
  unfold flatEx
  induction l with
  | nil => rfl
  | cons c l ih => rw [List.flatMap_cons, List.length_append, ih, encEx_len, List.length_cons]; omega
theorem flatEx_append (l m : List Ex) : flatEx (l ++ m) = flatEx l ++ flatEx m := by simp [flatEx]
theorem flatEx_cons (e : Ex) (l : List Ex) : flatEx (e :: l) = encEx e ++ flatEx l := by simp [flatEx]
theorem flatEx_one (e : Ex) : flatEx [e] = encEx e := by simp [flatEx]
theorem flatEx_cell (l : List Ex) (v : Value) (hv : v ∈ flatEx l) : v.oneCell' = true := by
  unfold flatEx at hv
  obtain ⟨e, _, he⟩ := List.mem_flatMap.1 hv
  exact encEx_one e v he
/-- the cells of one of them at place o -/
structure CellsEx (w : World) (b o : Nat) (e : Ex) : Prop where
  c0 : w.cell? ⟨b, o, none⟩ = some (.int .i64 e.p)
  c1 : w.cell? ⟨b, o + 1, none⟩ = some (.int .i64 e.b)
  c2 : w.cell? ⟨b, o + 2, none⟩ = some (.int .i64 e.n)
theorem flatEx_at : ∀ (l : List Ex) (j : Nat), j < l.length → ∀ t, t < 3 → (flatEx l)[j * 3 + t]? = (encEx l[j]!)[t]?
  | [], j, h, _, _ => by simp at h
  | e :: l, 0, _, t, ht => by
    rw [flatEx_cons, List.getElem?_append_left (by rw [encEx_len]; omega), Nat.zero_mul, Nat.zero_add]; rfl
  | e :: l, j + 1, h, t, ht => by
    have ih := flatEx_at l j (by simpa using h) t ht
    rw [flatEx_cons, List.getElem?_append_right (by rw [encEx_len]; omega), encEx_len, show (j + 1) * 3 + t - 3 = j * 3 + t by omega, ih]
    rfl

/-- the slice v reads as l -/
def ExsAt (w : World) (v : Value) (l : List Ex) : Prop :=
  ∃ a cap, v = .slice a l.length cap ∧ ((a = none → cap = 0) ∧ l.length ≤ cap) ∧ ∀ t, t < l.length → ∃ b off, a = some ⟨b, off, none⟩ ∧ b < w.heap.size ∧ CellsEx w b (off + t * 3) l[t]!

/-- the slice v is a row that lies from block base on and is the call's own -/
def ExRow (w : World) (base : Nat) (v : Value) (l : List Ex) : Prop := w.ownsRow base 58 3 v l.length (flatEx l)

theorem ExRow.at {w : World} {base : Nat} {v : Value} {l : List Ex} (h : ExRow w base v l) : ExsAt w v l := by
  rcases h.2 with ⟨rfl, h0⟩ | ⟨g, cap, cur, rfl, hg, hh, hnc, hcp, hcs, htake⟩
  · exact ⟨none, 0, by rw [h0], ⟨fun _ => rfl, by omega⟩, fun t ht => by omega⟩
  · refine ⟨some ⟨g, 0, none⟩, cap, rfl, ⟨fun h => (by cases h), hnc⟩, fun t ht => ⟨g, 0, rfl, lt_of_block hh, ?_⟩⟩
    have key : ∀ s, s < 3 → w.cell? ⟨g, 0 + t * 3 + s, none⟩ = (encEx l[t]!)[s]? := fun s hs => by
      rw [Nat.zero_add, World.ownsRow.cellAt h _ (by omega), flatEx_at l t ht s hs]
    exact ⟨key 0 (by omega), key 1 (by omega), key 2 (by omega)⟩
theorem CellsEx.below {w w' : World} {b o : Nat} {e : Ex} (h : CellsEx w b o e) (hl : b < w.heap.size) (hb : Below w.heap.size w w') : CellsEx w' b o e :=
  ⟨(hb.cell (p := ⟨b, o, none⟩) hl).trans h.c0, (hb.cell (p := ⟨b, o + 1, none⟩) hl).trans h.c1, (hb.cell (p := ⟨b, o + 2, none⟩) hl).trans h.c2⟩
theorem ExsAt.below {w w' : World} {v : Value} {l : List Ex} (h : ExsAt w v l) (b : Below w.heap.size w w') : ExsAt w' v l := by
  obtain ⟨a, cap, rfl, hn, hc⟩ := h
  refine ⟨a, cap, rfl, hn, fun t ht => ?_⟩
  obtain ⟨bb, off, h1, h2, h3⟩ := hc t ht
  exact ⟨bb, off, h1, Nat.lt_of_lt_of_le h2 b.size, h3.below h2 b⟩
theorem ExRow.below {w w' : World} {base : Nat} {v : Value} {l : List Ex} (h : ExRow w base v l) (b : Below w.heap.size w w') : ExRow w' base v l := ownEx_below h b
theorem ExRow.mono {w : World} {base base' : Nat} {v : Value} {l : List Ex} (h : ExRow w base v l) (hb : base' ≤ base) : ExRow w base' v l := World.ownsRow.mono h hb

theorem Try.infoEx : (Try.prog.info? 58).map (fun i => (i.zero, i.size, i.bytes)) = some (some (.agg #[.int .i64 0, .int .i64 0, .int .i64 0]), 3, 24) := by kernel_rfl

/-- a new row that is empty, as the walk has it -/
theorem lit_Exs (w : World) : ExRow (w.alloc (.cells #[] 58)) w.heap.size (.slice (some ⟨w.heap.size, 0, none⟩) 0 0) [] :=
  World.ownsRow_lit (base := w.heap.size) (e := 58) (size := 3) w #[] 0 (Nat.le_refl _) (by unfold maxLen; omega) rfl
/-- a new block with one of them -/
theorem one_Ex (w : World) (e : Ex) : ExsAt (w.alloc (.cells #[.int .i64 e.p, .int .i64 e.b, .int .i64 e.n] 58)) (.slice (some ⟨w.heap.size, 0, none⟩) 1 1) [e] := by
  refine ⟨_, _, rfl, ⟨fun h => (by cases h), by simp⟩, fun t ht => ⟨w.heap.size, 0, rfl, by simp, ?_⟩⟩
  obtain rfl : t = 0 := by simpa using ht
  refine ⟨?_, ?_, ?_⟩ <;> rw [World.cell?_alloc_mark] <;> rfl

/-- 'append(out, x...)', out a row of the call's own, x any row -/
theorem append_ExsG (w : World) {ops : Array Oper} {rest : List Oper} {o : Oper} {a : Act} {Q : Exit → Act → World → Prop} (hgd : o.guard = none) (s x : Operand)
    (ho : o.op = .call { callee := .builtin .append, args := #[s, x], argTypes := #[24, 24] }) (base : Nat)
    (v u : Value) (l m : List Ex) (hl : l.length + m.length ≤ 1099511627776) (hown : ExRow w base v l) (hu : ExsAt w u m) (hs : a.eval s = v) (hx : a.eval x = u)
    (hbase : base ≤ w.heap.size)
    (h : ∀ v' w', ExRow w' base v' (l ++ m) → w.grownBy w' v.ownBlock → wpList Try.prog ops Q rest (a.put o.dst v') w') :
    wpList Try.prog ops Q (o :: rest) a w := by
  obtain ⟨i0, hi, hz0, hz1, hz2⟩ := info_parts Try.infoEx
  obtain ⟨ad, cap, rfl, hn, hc⟩ := hu
  cases ad with
  | none =>
    have hc0 := hn.1 rfl
    have hm : m = [] := by
      cases m with
      | nil => rfl
      | cons e m => obtain ⟨b, off, h1, _⟩ := hc 0 (by simp); cases h1
    subst hm hc0
    refine wpList_append_own_none hgd s x 24 ho base 58 i0 3 Try.underlying24 hi v l.length (flatEx l) hs hown hx ?_
    refine h v w (by rw [List.append_nil]; exact hown) ⟨rfl, rfl, rfl, Nat.le_refl _, fun _ _ _ => rfl⟩
  | some ad =>
    have hcl : ∀ j y, (flatEx m)[j]? = some y → w.cell? (ad.add j) = some y := by
      intro j y hy
      have hj : j < m.length * 3 := by
        have := (List.getElem?_eq_some_iff.1 hy).1
        rwa [flatEx_len] at this
      obtain ⟨b1, off1, e, _, hcj⟩ := hc (j / 3) (by omega)
      cases e
      have hjj : j = j / 3 * 3 + j % 3 := by omega
      have h4 := flatEx_at m (j / 3) (by omega) (j % 3) (by omega)
      rw [← hjj, hy] at h4
      rw [Addr.add_lit, hjj, ← Nat.add_assoc]
      have : j % 3 < 3 := by omega
      generalize j % 3 = s at *
      rcases s with _ | _ | _ | s
      · exact hcj.c0.trans h4.symm
      · exact hcj.c1.trans h4.symm
      · exact hcj.c2.trans h4.symm
      · omega
    refine wpList_append_own _ hgd s x 24 ho base 58 i0 _ 3 24 Try.underlying24 hi hz0 hz1 hz2 rfl (by decide) v l.length (flatEx l) hs hown ad m.length cap (flatEx m) hx (flatEx_len m) hcl (flatEx_cell m) (by unfold maxLen; omega) (by omega) hbase ?_
    intro v' w' hown' hgrow _
    refine h v' w' ?_ ?_
    · unfold ExRow
      rw [flatEx_append, List.length_append]
      exact hown'
    · exact hgrow
theorem append_Exs (w : World) {ops : Array Oper} {rest : List Oper} {o : Oper} {a : Act} {Q : Exit → Act → World → Prop} (hgd : o.guard = none) (s x : Operand)
    (ho : o.op = .call { callee := .builtin .append, args := #[s, x], argTypes := #[24, 24] }) (base : Nat)
    (v u : Value) (l m : List Ex) (hl : l.length + m.length ≤ 1099511627776) (hown : ExRow w base v l) (hu : ExsAt w u m) (hs : a.eval s = v) (hx : a.eval x = u)
    (hbase : base ≤ w.heap.size)
    (h : ∀ v' w', ExRow w' base v' (l ++ m) → Below base w w' → wpList Try.prog ops Q rest (a.put o.dst v') w') :
    wpList Try.prog ops Q (o :: rest) a w :=
  append_ExsG w hgd s x ho base v u l m hl hown hu hs hx hbase fun v' w' hr hg => h v' w' hr ((Below.refl base w).grown hg hbase fun k hk => (World.ownsRow.lt hown k hk).1)

theorem Exs_ext (l m : List Ex) (hl : l.length = m.length) (h : ∀ t, t < l.length → l[t]! = m[t]!) : l = m := by
  apply List.ext_getElem hl
  intro t h1 h2
  have := h t h1
  rwa [getElem!_pos l t h1, getElem!_pos m t h2] at this
theorem flatEx_put : ∀ (l : List Ex) (t : Nat) (e : Ex), t < l.length → (((flatEx l).set (t * 3) (.int .i64 e.p)).set (t * 3 + 1) (.int .i64 e.b)).set (t * 3 + 2) (.int .i64 e.n) = flatEx (l.set t e)
  | [], t, e, h => by simp at h
  | x :: l, 0, e, _ => by simp [flatEx_cons, encEx]
  | x :: l, t + 1, e, h => by
    have ih := flatEx_put l t e (by simpa using h)
    rw [List.set_cons_succ, flatEx_cons, flatEx_cons, ← ih]
    simp only [encEx, List.cons_append, List.nil_append]
    rw [show (t + 1) * 3 = t * 3 + 1 + 1 + 1 by omega]
    simp only [List.set_cons_succ]
theorem flatEx_set (l : List Ex) (t : Nat) (e : Ex) (i : Nat) (v : Value) (ht : t < l.length) (hi : i < 3) (he : encEx e = (encEx l[t]!).set i v) : (flatEx l).set (t * 3 + i) v = flatEx (l.set t e) := by
  apply List.ext_getElem?
  intro j
  by_cases hj : j < l.length * 3
  · have h1 := flatEx_at (l.set t e) (j / 3) (by simp; omega) (j % 3) (by omega)
    have h2 := flatEx_at l (j / 3) (by omega) (j % 3) (by omega)
    rw [show j / 3 * 3 + j % 3 = j by omega] at h1 h2
    rw [h1, List.getElem?_set]
    by_cases hjt : j / 3 = t
    · have h3 : (l.set t e)[j / 3]! = e := by rw [hjt, getElem!_pos _ _ (by simpa using ht)]; simp
      rw [h3, he, List.getElem?_set]
      rw [hjt] at h2
      by_cases hji : j % 3 = i
      · rw [if_pos (by omega), if_pos (by rw [flatEx_len]; omega), if_pos hji.symm, if_pos (by rw [encEx_len]; omega)]
      · rw [if_neg (by omega), if_neg (by omega), h2]
    · have h3 : (l.set t e)[j / 3]! = l[j / 3]! := by
        rw [getElem!_pos _ _ (by simp; omega), getElem!_pos l _ (by omega), List.getElem_set_ne (by omega)]
      rw [h3, if_neg (by omega), h2]
  · rw [List.getElem?_eq_none (by rw [List.length_set, flatEx_len]; omega), List.getElem?_eq_none (by rw [flatEx_len, List.length_set]; omega)]
/-- one cell of one of a row of the call's own written anew -/
theorem rowEx_set {w : World} {base g n cap : Nat} {l : List Ex} (h : w.ownsRow base 58 3 (.slice (some ⟨g, 0, none⟩) n cap) n (flatEx l)) (t : Nat) (e : Ex) (i : Nat) (v : Value) (ht : t < l.length) (hi : i < 3) (he : encEx e = (encEx l[t]!).set i v) :
    (w.setCell ⟨g, t * 3 + i, none⟩ v).ownsRow base 58 3 (.slice (some ⟨g, 0, none⟩) n cap) n (flatEx (l.set t e)) := by
  have := (h.stored (t * 3 + i) v).1
  rwa [flatEx_set l t e i v ht hi he] at this
/-- the cells of one of a row written anew -/
theorem rowEx_put {w : World} {base g n cap : Nat} {l : List Ex} (h : w.ownsRow base 58 3 (.slice (some ⟨g, 0, none⟩) n cap) n (flatEx l)) (t : Nat) (ht : t < l.length) (e : Ex) :
    (((w.setCell ⟨g, t * 3, none⟩ (.int .i64 e.p)).setCell ⟨g, t * 3 + 1, none⟩ (.int .i64 e.b)).setCell ⟨g, t * 3 + 2, none⟩ (.int .i64 e.n)).ownsRow base 58 3 (.slice (some ⟨g, 0, none⟩) n cap) n (flatEx (l.set t e)) := by
  have h0 := h
  have h1 := (h0.stored (t * 3) (.int .i64 e.p)).1
  have h2 := (h1.stored (t * 3 + 1) (.int .i64 e.b)).1
  have h3 := (h2.stored (t * 3 + 2) (.int .i64 e.n)).1
  rw [flatEx_put l t e ht] at h3
  exact h3
/-- each of its cells is there and may be written -/
theorem rowEx_cells {w : World} {base g n cap : Nat} {xs : List Value} (h : w.ownsRow base 58 3 (.slice (some ⟨g, 0, none⟩) n cap) n xs) (t : Nat) (ht : t < n * 3) : (∃ u, w.cell? ⟨g, t, none⟩ = some u) ∧ w.frozen? ⟨g, t, none⟩ = false :=
  ⟨⟨_, (h.cellAt t ht).trans (List.getElem?_eq_getElem (by have := h.1; omega))⟩, h.frozenAt t⟩

end Go.Proofs.Ytkbkanmmpdeokaa
