/- Rows of entries: how they lie; a row behind a row. -/
import Derived.Test.YtgjehmobafkjfaaRows
import Derived.Test.YtgjehmobafkjfaaEnT
import Derived.Test.YtgjehmobafkjfaaSgn
import Derived.Laws.AppendOwnNone
namespace Go.Proofs.Ytgjehmobafkjfaa
open Go.RowKit

/-- an entry's cells -/
def encE (e : En) : List Value := [.int .i64 e.hash, .int .i64 e.index, .string e.name, .int .i64 e.id]
theorem encE_len (e : En) : (encE e).length = 4 := rfl
theorem encE_one (e : En) : ∀ v ∈ encE e, v.oneCell' = true := by
  intro v hv
  simp only [encE, List.mem_cons, List.not_mem_nil, or_false] at hv
  rcases hv with rfl | rfl | rfl | rfl <;> rfl
def flatE (l : List En) : List Value := l.flatMap encE
theorem flatE_len (l : List En) : (flatE l).length = l.length * 4 := by
  unfold flatE
  induction l with
  | nil => rfl
  | cons c l ih => rw [List.flatMap_cons, List.length_append, ih, encE_len, List.length_cons]; omega
theorem flatE_append (l m : List En) : flatE (l ++ m) = flatE l ++ flatE m := by simp [flatE]
theorem flatE_cons (e : En) (l : List En) : flatE (e :: l) = encE e ++ flatE l := by simp [flatE]
theorem flatE_one (e : En) : flatE [e] = encE e := by simp [flatE]
theorem flatE_cell (l : List En) (v : Value) (hv : v ∈ flatE l) : v.oneCell' = true := by
  unfold flatE at hv
  obtain ⟨e, _, he⟩ := List.mem_flatMap.1 hv
  exact encE_one e v he
/-- the cells of entry e at place o -/
structure CellsE (w : World) (b o : Nat) (e : En) : Prop where
  c0 : w.cell? ⟨b, o, none⟩ = some (.int .i64 e.hash)
  c1 : w.cell? ⟨b, o + 1, none⟩ = some (.int .i64 e.index)
  c2 : w.cell? ⟨b, o + 2, none⟩ = some (.string e.name)
  c3 : w.cell? ⟨b, o + 3, none⟩ = some (.int .i64 e.id)
theorem flatE_at : ∀ (l : List En) (j : Nat), j < l.length → ∀ t, t < 4 → (flatE l)[j * 4 + t]? = (encE l[j]!)[t]?
  | [], j, h, _, _ => by simp at h
  | e :: l, 0, _, t, ht => by
    rw [flatE_cons, List.getElem?_append_left (by rw [encE_len]; omega), Nat.zero_mul, Nat.zero_add]; rfl
  | e :: l, j + 1, h, t, ht => by
    have ih := flatE_at l j (by simpa using h) t ht
    rw [flatE_cons, List.getElem?_append_right (by rw [encE_len]; omega), encE_len, show (j + 1) * 4 + t - 4 = j * 4 + t by omega, ih]
    rfl

/-- the slice v reads as the entries l -/
def EntsAt (w : World) (v : Value) (l : List En) : Prop :=
  ∃ a cap, v = .slice a l.length cap ∧ (a = none → cap = 0) ∧ ∀ t, t < l.length → ∃ b off, a = some ⟨b, off, none⟩ ∧ b < w.heap.size ∧ CellsE w b (off + t * 4) l[t]!

/-- the slice v is a row of entries that lies from block base on and is the call's own -/
def EntRow (w : World) (base : Nat) (v : Value) (l : List En) : Prop := w.ownsRow base 49 4 v l.length (flatE l)

theorem EntRow.at {w : World} {base : Nat} {v : Value} {l : List En} (h : EntRow w base v l) : EntsAt w v l := by
  rcases h.2 with ⟨rfl, h0⟩ | ⟨g, cap, cur, rfl, hg, hh, hnc, hcp, hcs, htake⟩
  · exact ⟨none, 0, by rw [h0], fun _ => rfl, fun t ht => by omega⟩
  · refine ⟨some ⟨g, 0, none⟩, cap, rfl, fun h => (by cases h), fun t ht => ⟨g, 0, rfl, lt_of_block hh, ?_⟩⟩
    have key : ∀ s, s < 4 → w.cell? ⟨g, 0 + t * 4 + s, none⟩ = (encE l[t]!)[s]? := fun s hs => by
      rw [Nat.zero_add, World.ownsRow.cellAt h _ (by omega), flatE_at l t ht s hs]
    exact ⟨key 0 (by omega), key 1 (by omega), key 2 (by omega), key 3 (by omega)⟩
theorem CellsE.below {w w' : World} {b o : Nat} {e : En} (h : CellsE w b o e) (hl : b < w.heap.size) (hb : Below w.heap.size w w') : CellsE w' b o e :=
  ⟨(hb.cell (p := ⟨b, o, none⟩) hl).trans h.c0, (hb.cell (p := ⟨b, o + 1, none⟩) hl).trans h.c1, (hb.cell (p := ⟨b, o + 2, none⟩) hl).trans h.c2, (hb.cell (p := ⟨b, o + 3, none⟩) hl).trans h.c3⟩
theorem EntsAt.below {w w' : World} {v : Value} {l : List En} (h : EntsAt w v l) (b : Below w.heap.size w w') : EntsAt w' v l := by
  obtain ⟨a, cap, rfl, hn, hc⟩ := h
  refine ⟨a, cap, rfl, hn, fun t ht => ?_⟩
  obtain ⟨bb, off, h1, h2, h3⟩ := hc t ht
  exact ⟨bb, off, h1, Nat.lt_of_lt_of_le h2 b.size, h3.below h2 b⟩
theorem EntRow.below {w w' : World} {base : Nat} {v : Value} {l : List En} (h : EntRow w base v l) (b : Below w.heap.size w w') : EntRow w' base v l :=
  ⟨h.1, by
    rcases h.2 with h0 | ⟨g, cap, cur, e, hg, hh, r⟩
    · exact .inl h0
    · exact .inr ⟨g, cap, cur, e, hg, (b.block g (lt_of_block hh)).trans hh, r⟩⟩
theorem EntRow.mono {w : World} {base base' : Nat} {v : Value} {l : List En} (h : EntRow w base v l) (hb : base' ≤ base) : EntRow w base' v l :=
  ⟨h.1, by
    rcases h.2 with h0 | ⟨g, cap, cur, e, hg, r⟩
    · exact .inl h0
    · exact .inr ⟨g, cap, cur, e, Nat.le_trans hb hg, r⟩⟩

theorem Try.infoE : (Try.prog.info? 49).map (fun i => (i.zero, i.size, i.bytes)) = some (some (.agg #[.int .i64 0, .int .i64 0, .string ⟨#[]⟩, .int .i64 0]), 4, 40) := by kernel_rfl

/-- a new row that is empty, as the walk has it -/
theorem lit_ents (w : World) : EntRow (w.alloc (.cells #[] 49)) w.heap.size (.slice (some ⟨w.heap.size, 0, none⟩) 0 0) [] :=
  World.ownsRow_lit (base := w.heap.size) (e := 49) (size := 4) w #[] 0 (Nat.le_refl _) (by unfold maxLen; omega) rfl
/-- a new block with one entry -/
theorem one_ent (w : World) (e : En) : EntsAt (w.alloc (.cells #[.int .i64 e.hash, .int .i64 e.index, .string e.name, .int .i64 e.id] 49)) (.slice (some ⟨w.heap.size, 0, none⟩) 1 1) [e] := by
  refine ⟨_, _, rfl, fun h => (by cases h), fun t ht => ⟨w.heap.size, 0, rfl, by simp, ?_⟩⟩
  obtain rfl : t = 0 := by simpa using ht
  refine ⟨?_, ?_, ?_, ?_⟩ <;> rw [World.cell?_alloc_mark] <;> rfl

/-- 'append(out, x...)', out a row of the call's own, x any row of entries -/
theorem append_ents (w : World) {ops : Array Oper} {rest : List Oper} {o : Oper} {a : Act} {Q : Exit → Act → World → Prop} (hgd : o.guard = none) (s x : Operand)
    (ho : o.op = .call { callee := .builtin .append, args := #[s, x], argTypes := #[36, 36] }) (base : Nat)
    (v u : Value) (l m : List En) (hl : l.length + m.length ≤ 1099511627776) (hown : EntRow w base v l) (hu : EntsAt w u m) (hs : a.eval s = v) (hx : a.eval x = u)
    (hbase : base ≤ w.heap.size)
    (h : ∀ v' w', EntRow w' base v' (l ++ m) → Below base w w' → wpList Try.prog ops Q rest (a.put o.dst v') w') :
    wpList Try.prog ops Q (o :: rest) a w := by
  obtain ⟨i0, hi, hz0, hz1, hz2⟩ := info_parts Try.infoE
  obtain ⟨ad, cap, rfl, hn, hc⟩ := hu
  cases ad with
  | none =>
    have hc0 := hn rfl
    have hm : m = [] := by
      cases m with
      | nil => rfl
      | cons e m => obtain ⟨b, off, h1, _⟩ := hc 0 (by simp); cases h1
    subst hm hc0
    refine wpList_append_own_none hgd s x 36 ho base 49 i0 4 Try.underlying36 hi v l.length (flatE l) hs hown hx ?_
    refine h v w (by rw [List.append_nil]; exact hown) (Below.refl _ _)
  | some ad =>
    have hcl : ∀ j y, (flatE m)[j]? = some y → w.cell? (ad.add j) = some y := by
      intro j y hy
      have hj : j < m.length * 4 := by
        have := (List.getElem?_eq_some_iff.1 hy).1
        rwa [flatE_len] at this
      obtain ⟨b1, off1, e, _, hcj⟩ := hc (j / 4) (by omega)
      cases e
      have hjj : j = j / 4 * 4 + j % 4 := by omega
      have h4 := flatE_at m (j / 4) (by omega) (j % 4) (by omega)
      rw [← hjj, hy] at h4
      rw [Addr.add_lit, hjj, ← Nat.add_assoc]
      have : j % 4 < 4 := by omega
      generalize j % 4 = s at *
      rcases s with _ | _ | _ | _ | s
      · exact hcj.c0.trans h4.symm
      · exact hcj.c1.trans h4.symm
      · exact hcj.c2.trans h4.symm
      · exact hcj.c3.trans h4.symm
      · omega
    refine wpList_append_own _ hgd s x 36 ho base 49 i0 _ 4 40 Try.underlying36 hi hz0 hz1 hz2 rfl (by decide) v l.length (flatE l) hs hown ad m.length cap (flatE m) hx (flatE_len m) hcl (flatE_cell m) (by unfold maxLen; omega) (by omega) hbase ?_
    intro v' w' hown' hgrow _
    refine h v' w' ?_ ?_
    · unfold EntRow
      rw [flatE_append, List.length_append]
      exact hown'
    · refine (Below.refl base w).grown hgrow hbase ?_
      intro k hk
      exact (World.ownsRow.lt hown k hk).1

end Go.Proofs.Ytgjehmobafkjfaa
