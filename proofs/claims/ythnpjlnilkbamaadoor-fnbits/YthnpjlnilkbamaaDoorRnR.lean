/- Rows of structs of 2 whole numbers (Run): how they lie; a row behind a row. -/
import Derived.Test.YthnpjlnilkbamaaDoorRows
import Derived.Test.YthnpjlnilkbamaaDoorBtT
import Derived.Test.YthnpjlnilkbamaaDoorSgn
import Derived.Laws.AppendOwnNone
namespace Go.Proofs.YthnpjlnilkbamaaDoor
open Go.RowKit

theorem ownRn_below {w w' : World} {base size n : Nat} {e : TypeId} {v : Value} {xs : List Value} (h : w.ownsRow base e size v n xs) (b : Below w.heap.size w w') : w'.ownsRow base e size v n xs :=
  ⟨h.1, by
    rcases h.2 with h0 | ⟨g, cap, cur, e, hg, hh, r⟩
    · exact .inl h0
    · exact .inr ⟨g, cap, cur, e, hg, (b.block g (lt_of_block hh)).trans hh, r⟩⟩
def encRn (e : Rn) : List Value := [.int .i64 e.p, .int .i64 e.n]
theorem encRn_len (e : Rn) : (encRn e).length = 2 := rfl
theorem encRn_one (e : Rn) : ∀ v ∈ encRn e, v.oneCell' = true := by
  intro v hv
  simp only [encRn, List.mem_cons, List.not_mem_nil, or_false] at hv
  rcases hv with rfl | rfl <;> rfl
def flatRn (l : List Rn) : List Value := l.flatMap encRn
theorem flatRn_len (l : List Rn) : (flatRn l).length = l.length * 2 := by
  unfold flatRn
  induction l with
  | nil => rfl
  | cons c l ih => rw [List.flatMap_cons, List.length_append, ih, encRn_len, List.length_cons]; omega
theorem flatRn_append (l m : List Rn) : flatRn (l ++ m) = flatRn l ++ flatRn m := by simp [flatRn]
theorem flatRn_cons (e : Rn) (l : List Rn) : flatRn (e :: l) = encRn e ++ flatRn l := by simp [flatRn]
theorem flatRn_one (e : Rn) : flatRn [e] = encRn e := by simp [flatRn]
theorem flatRn_cell (l : List Rn) (v : Value) (hv : v ∈ flatRn l) : v.oneCell' = true := by
  unfold flatRn at hv
  obtain ⟨e, _, he⟩ := List.mem_flatMap.1 hv
  exact encRn_one e v he
/-- the cells of one of them at place o -/
structure CellsRn (w : World) (b o : Nat) (e : Rn) : Prop where
  c0 : w.cell? ⟨b, o, none⟩ = some (.int .i64 e.p)
  c1 : w.cell? ⟨b, o + 1, none⟩ = some (.int .i64 e.n)
theorem flatRn_at : ∀ (l : List Rn) (j : Nat), j < l.length → ∀ t, t < 2 → (flatRn l)[j * 2 + t]? = (encRn l[j]!)[t]?
  | [], j, h, _, _ => by simp at h
  | e :: l, 0, _, t, ht => by
    rw [flatRn_cons, List.getElem?_append_left (by rw [encRn_len]; omega), Nat.zero_mul, Nat.zero_add]; rfl
  | e :: l, j + 1, h, t, ht => by
    have ih := flatRn_at l j (by simpa using h) t ht
    rw [flatRn_cons, List.getElem?_append_right (by rw [encRn_len]; omega), encRn_len, show (j + 1) * 2 + t - 2 = j * 2 + t by omega, ih]
    rfl

/-- the slice v reads as l -/
def RnsAt (w : World) (v : Value) (l : List Rn) : Prop :=
  ∃ a cap, v = .slice a l.length cap ∧ (a = none → cap = 0) ∧ ∀ t, t < l.length → ∃ b off, a = some ⟨b, off, none⟩ ∧ b < w.heap.size ∧ CellsRn w b (off + t * 2) l[t]!

/-- the slice v is a row that lies from block base on and is the call's own -/
def RnRow (w : World) (base : Nat) (v : Value) (l : List Rn) : Prop := w.ownsRow base 34 2 v l.length (flatRn l)

theorem RnRow.at {w : World} {base : Nat} {v : Value} {l : List Rn} (h : RnRow w base v l) : RnsAt w v l := by
  rcases h.2 with ⟨rfl, h0⟩ | ⟨g, cap, cur, rfl, hg, hh, hnc, hcp, hcs, htake⟩
  · exact ⟨none, 0, by rw [h0], fun _ => rfl, fun t ht => by omega⟩
  · refine ⟨some ⟨g, 0, none⟩, cap, rfl, fun h => (by cases h), fun t ht => ⟨g, 0, rfl, lt_of_block hh, ?_⟩⟩
    have key : ∀ s, s < 2 → w.cell? ⟨g, 0 + t * 2 + s, none⟩ = (encRn l[t]!)[s]? := fun s hs => by
      rw [Nat.zero_add, World.ownsRow.cellAt h _ (by omega), flatRn_at l t ht s hs]
    exact ⟨key 0 (by omega), key 1 (by omega)⟩
theorem CellsRn.below {w w' : World} {b o : Nat} {e : Rn} (h : CellsRn w b o e) (hl : b < w.heap.size) (hb : Below w.heap.size w w') : CellsRn w' b o e :=
  ⟨(hb.cell (p := ⟨b, o, none⟩) hl).trans h.c0, (hb.cell (p := ⟨b, o + 1, none⟩) hl).trans h.c1⟩
theorem RnsAt.below {w w' : World} {v : Value} {l : List Rn} (h : RnsAt w v l) (b : Below w.heap.size w w') : RnsAt w' v l := by
  obtain ⟨a, cap, rfl, hn, hc⟩ := h
  refine ⟨a, cap, rfl, hn, fun t ht => ?_⟩
  obtain ⟨bb, off, h1, h2, h3⟩ := hc t ht
  exact ⟨bb, off, h1, Nat.lt_of_lt_of_le h2 b.size, h3.below h2 b⟩
theorem RnRow.below {w w' : World} {base : Nat} {v : Value} {l : List Rn} (h : RnRow w base v l) (b : Below w.heap.size w w') : RnRow w' base v l := ownRn_below h b
theorem RnRow.mono {w : World} {base base' : Nat} {v : Value} {l : List Rn} (h : RnRow w base v l) (hb : base' ≤ base) : RnRow w base' v l := World.ownsRow.mono h hb

theorem Tryd.infoRn : (Tryd.prog.info? 34).map (fun i => (i.zero, i.size, i.bytes)) = some (some (.agg #[.int .i64 0, .int .i64 0]), 2, 16) := by kernel_rfl

/-- a new row that is empty, as the walk has it -/
theorem lit_Rns (w : World) : RnRow (w.alloc (.cells #[] 34)) w.heap.size (.slice (some ⟨w.heap.size, 0, none⟩) 0 0) [] :=
  World.ownsRow_lit (base := w.heap.size) (e := 34) (size := 2) w #[] 0 (Nat.le_refl _) (by unfold maxLen; omega) rfl
/-- a new block with one of them -/
theorem one_Rn (w : World) (e : Rn) : RnsAt (w.alloc (.cells #[.int .i64 e.p, .int .i64 e.n] 34)) (.slice (some ⟨w.heap.size, 0, none⟩) 1 1) [e] := by
  refine ⟨_, _, rfl, fun h => (by cases h), fun t ht => ⟨w.heap.size, 0, rfl, by simp, ?_⟩⟩
  obtain rfl : t = 0 := by simpa using ht
  refine ⟨?_, ?_⟩ <;> rw [World.cell?_alloc_mark] <;> rfl

/-- 'append(out, x...)', out a row of the call's own, x any row -/
theorem append_RnsG (w : World) {ops : Array Oper} {rest : List Oper} {o : Oper} {a : Act} {Q : Exit → Act → World → Prop} (hgd : o.guard = none) (s x : Operand)
    (ho : o.op = .call { callee := .builtin .append, args := #[s, x], argTypes := #[27, 27] }) (base : Nat)
    (v u : Value) (l m : List Rn) (hl : l.length + m.length ≤ 1099511627776) (hown : RnRow w base v l) (hu : RnsAt w u m) (hs : a.eval s = v) (hx : a.eval x = u)
    (hbase : base ≤ w.heap.size)
    (h : ∀ v' w', RnRow w' base v' (l ++ m) → w.grownBy w' v.ownBlock → wpList Tryd.prog ops Q rest (a.put o.dst v') w') :
    wpList Tryd.prog ops Q (o :: rest) a w := by
  obtain ⟨i0, hi, hz0, hz1, hz2⟩ := info_parts Tryd.infoRn
  obtain ⟨ad, cap, rfl, hn, hc⟩ := hu
  cases ad with
  | none =>
    have hc0 := hn rfl
    have hm : m = [] := by
      cases m with
      | nil => rfl
      | cons e m => obtain ⟨b, off, h1, _⟩ := hc 0 (by simp); cases h1
    subst hm hc0
    refine wpList_append_own_none hgd s x 27 ho base 34 i0 2 Tryd.underlying27 hi v l.length (flatRn l) hs hown hx ?_
    refine h v w (by rw [List.append_nil]; exact hown) ⟨rfl, rfl, rfl, Nat.le_refl _, fun _ _ _ => rfl⟩
  | some ad =>
    have hcl : ∀ j y, (flatRn m)[j]? = some y → w.cell? (ad.add j) = some y := by
      intro j y hy
      have hj : j < m.length * 2 := by
        have := (List.getElem?_eq_some_iff.1 hy).1
        rwa [flatRn_len] at this
      obtain ⟨b1, off1, e, _, hcj⟩ := hc (j / 2) (by omega)
      cases e
      have hjj : j = j / 2 * 2 + j % 2 := by omega
      have h4 := flatRn_at m (j / 2) (by omega) (j % 2) (by omega)
      rw [← hjj, hy] at h4
      rw [Addr.add_lit, hjj, ← Nat.add_assoc]
      have : j % 2 < 2 := by omega
      generalize j % 2 = s at *
      rcases s with _ | _ | s
      · exact hcj.c0.trans h4.symm
      · exact hcj.c1.trans h4.symm
      · omega
    refine wpList_append_own _ hgd s x 27 ho base 34 i0 _ 2 16 Tryd.underlying27 hi hz0 hz1 hz2 rfl (by decide) v l.length (flatRn l) hs hown ad m.length cap (flatRn m) hx (flatRn_len m) hcl (flatRn_cell m) (by unfold maxLen; omega) (by omega) hbase ?_
    intro v' w' hown' hgrow _
    refine h v' w' ?_ ?_
    · unfold RnRow
      rw [flatRn_append, List.length_append]
      exact hown'
    · exact hgrow
theorem append_Rns (w : World) {ops : Array Oper} {rest : List Oper} {o : Oper} {a : Act} {Q : Exit → Act → World → Prop} (hgd : o.guard = none) (s x : Operand)
    (ho : o.op = .call { callee := .builtin .append, args := #[s, x], argTypes := #[27, 27] }) (base : Nat)
    (v u : Value) (l m : List Rn) (hl : l.length + m.length ≤ 1099511627776) (hown : RnRow w base v l) (hu : RnsAt w u m) (hs : a.eval s = v) (hx : a.eval x = u)
    (hbase : base ≤ w.heap.size)
    (h : ∀ v' w', RnRow w' base v' (l ++ m) → Below base w w' → wpList Tryd.prog ops Q rest (a.put o.dst v') w') :
    wpList Tryd.prog ops Q (o :: rest) a w :=
  append_RnsG w hgd s x ho base v u l m hl hown hu hs hx hbase fun v' w' hr hg => h v' w' hr ((Below.refl base w).grown hg hbase fun k hk => (World.ownsRow.lt hown k hk).1)

theorem Rns_ext (l m : List Rn) (hl : l.length = m.length) (h : ∀ t, t < l.length → l[t]! = m[t]!) : l = m := by
  apply List.ext_getElem hl
  intro t h1 h2
  have := h t h1
  rwa [getElem!_pos l t h1, getElem!_pos m t h2] at this
theorem flatRn_put : ∀ (l : List Rn) (t : Nat) (e : Rn), t < l.length → ((flatRn l).set (t * 2) (.int .i64 e.p)).set (t * 2 + 1) (.int .i64 e.n) = flatRn (l.set t e)
  | [], t, e, h => by simp at h
  | x :: l, 0, e, _ => by simp [flatRn_cons, encRn]
  | x :: l, t + 1, e, h => by
    have ih := flatRn_put l t e (by simpa using h)
    rw [List.set_cons_succ, flatRn_cons, flatRn_cons, ← ih]
    simp only [encRn, List.cons_append, List.nil_append]
    rw [show (t + 1) * 2 = t * 2 + 1 + 1 by omega]
    simp only [List.set_cons_succ]
theorem flatRn_set (l : List Rn) (t : Nat) (e : Rn) (i : Nat) (v : Value) (ht : t < l.length) (hi : i < 2) (he : encRn e = (encRn l[t]!).set i v) : (flatRn l).set (t * 2 + i) v = flatRn (l.set t e) := by
  apply List.ext_getElem?
  intro j
  by_cases hj : j < l.length * 2
  · have h1 := flatRn_at (l.set t e) (j / 2) (by simp; omega) (j % 2) (by omega)
    have h2 := flatRn_at l (j / 2) (by omega) (j % 2) (by omega)
    rw [show j / 2 * 2 + j % 2 = j by omega] at h1 h2
    rw [h1, List.getElem?_set]
    by_cases hjt : j / 2 = t
    · have h3 : (l.set t e)[j / 2]! = e := by rw [hjt, getElem!_pos _ _ (by simpa using ht)]; simp
      rw [h3, he, List.getElem?_set]
      rw [hjt] at h2
      by_cases hji : j % 2 = i
      · rw [if_pos (by omega), if_pos (by rw [flatRn_len]; omega), if_pos hji.symm, if_pos (by rw [encRn_len]; omega)]
      · rw [if_neg (by omega), if_neg (by omega), h2]
    · have h3 : (l.set t e)[j / 2]! = l[j / 2]! := by
        rw [getElem!_pos _ _ (by simp; omega), getElem!_pos l _ (by omega), List.getElem_set_ne (by omega)]
      rw [h3, if_neg (by omega), h2]
  · rw [List.getElem?_eq_none (by rw [List.length_set, flatRn_len]; omega), List.getElem?_eq_none (by rw [flatRn_len, List.length_set]; omega)]
/-- one cell of one of a row of the call's own written anew -/
theorem rowRn_set {w : World} {base g n cap : Nat} {l : List Rn} (h : w.ownsRow base 34 2 (.slice (some ⟨g, 0, none⟩) n cap) n (flatRn l)) (t : Nat) (e : Rn) (i : Nat) (v : Value) (ht : t < l.length) (hi : i < 2) (he : encRn e = (encRn l[t]!).set i v) :
    (w.setCell ⟨g, t * 2 + i, none⟩ v).ownsRow base 34 2 (.slice (some ⟨g, 0, none⟩) n cap) n (flatRn (l.set t e)) := by
  have := (h.stored (t * 2 + i) v).1
  rwa [flatRn_set l t e i v ht hi he] at this
/-- the cells of one of a row written anew -/
theorem rowRn_put {w : World} {base g n cap : Nat} {l : List Rn} (h : w.ownsRow base 34 2 (.slice (some ⟨g, 0, none⟩) n cap) n (flatRn l)) (t : Nat) (ht : t < l.length) (e : Rn) :
    ((w.setCell ⟨g, t * 2, none⟩ (.int .i64 e.p)).setCell ⟨g, t * 2 + 1, none⟩ (.int .i64 e.n)).ownsRow base 34 2 (.slice (some ⟨g, 0, none⟩) n cap) n (flatRn (l.set t e)) := by
  have h0 := h
  have h1 := (h0.stored (t * 2) (.int .i64 e.p)).1
  have h2 := (h1.stored (t * 2 + 1) (.int .i64 e.n)).1
  rw [flatRn_put l t e ht] at h2
  exact h2
/-- each of its cells is there and may be written -/
theorem rowRn_cells {w : World} {base g n cap : Nat} {xs : List Value} (h : w.ownsRow base 34 2 (.slice (some ⟨g, 0, none⟩) n cap) n xs) (t : Nat) (ht : t < n * 2) : (∃ u, w.cell? ⟨g, t, none⟩ = some u) ∧ w.frozen? ⟨g, t, none⟩ = false :=
  ⟨⟨_, (h.cellAt t ht).trans (List.getElem?_eq_getElem (by have := h.1; omega))⟩, h.frozenAt t⟩

end Go.Proofs.YthnpjlnilkbamaaDoor
