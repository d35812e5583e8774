/- Rows of writes: how they lie; a row behind a row. -/
import Derived.Test.YtfdahfealibbnaaDoorRows
import Derived.Test.YtfdahfealibbnaaDoorDvT
import Derived.Test.YtfdahfealibbnaaDoorBs
import Derived.Test.YtfdahfealibbnaaDoorSgn
import Derived.Laws.AppendOwnNone
namespace Go.Proofs.YtfdahfealibbnaaDoor
open Go.RowKit

/-- an write's cells -/
def encW (e : Wr) : List Value := [.int .i64 e.block, .string e.text]
theorem encW_len (e : Wr) : (encW e).length = 2 := rfl
theorem encW_one (e : Wr) : ∀ v ∈ encW e, v.oneCell' = true := by
  intro v hv
  simp only [encW, List.mem_cons, List.not_mem_nil, or_false] at hv
  rcases hv with rfl | rfl <;> rfl
def flatW (l : List Wr) : List Value := l.flatMap encW
theorem flatW_len (l : List Wr) : (flatW l).length = l.length * 2 := by
  unfold flatW
  induction l with
  | nil => rfl
  | cons c l ih => rw [List.flatMap_cons, List.length_append, ih, encW_len, List.length_cons]; omega
theorem flatW_append (l m : List Wr) : flatW (l ++ m) = flatW l ++ flatW m := by simp [flatW]
theorem flatW_cons (e : Wr) (l : List Wr) : flatW (e :: l) = encW e ++ flatW l := by simp [flatW]
theorem flatW_one (e : Wr) : flatW [e] = encW e := by simp [flatW]
theorem flatW_cell (l : List Wr) (v : Value) (hv : v ∈ flatW l) : v.oneCell' = true := by
  unfold flatW at hv
  obtain ⟨e, _, he⟩ := List.mem_flatMap.1 hv
  exact encW_one e v he
/-- the cells of write e at place o -/
structure CellsW (w : World) (b o : Nat) (e : Wr) : Prop where
  c0 : w.cell? ⟨b, o, none⟩ = some (.int .i64 e.block)
  c1 : w.cell? ⟨b, o + 1, none⟩ = some (.string e.text)
theorem flatW_at : ∀ (l : List Wr) (j : Nat), j < l.length → ∀ t, t < 2 → (flatW l)[j * 2 + t]? = (encW l[j]!)[t]?
  | [], j, h, _, _ => by simp at h
  | e :: l, 0, _, t, ht => by
    rw [flatW_cons, List.getElem?_append_left (by rw [encW_len]; omega), Nat.zero_mul, Nat.zero_add]; rfl
  | e :: l, j + 1, h, t, ht => by
    have ih := flatW_at l j (by simpa using h) t ht
    rw [flatW_cons, List.getElem?_append_right (by rw [encW_len]; omega), encW_len, show (j + 1) * 2 + t - 2 = j * 2 + t by omega, ih]
    rfl

/-- the slice v reads as the writes l -/
def WrsAt (w : World) (v : Value) (l : List Wr) : Prop :=
  ∃ a cap, v = .slice a l.length cap ∧ (a = none → cap = 0) ∧ ∀ t, t < l.length → ∃ b off, a = some ⟨b, off, none⟩ ∧ b < w.heap.size ∧ CellsW w b (off + t * 2) l[t]!

/-- the slice v is a row of writes that lies from block base on and is the call's own -/
def WrRow (w : World) (base : Nat) (v : Value) (l : List Wr) : Prop := w.ownsRow base 43 2 v l.length (flatW l)

theorem WrRow.at {w : World} {base : Nat} {v : Value} {l : List Wr} (h : WrRow w base v l) : WrsAt w v l := by
  rcases h.2 with ⟨rfl, h0⟩ | ⟨g, cap, cur, rfl, hg, hh, hnc, hcp, hcs, htake⟩
  · exact ⟨none, 0, by rw [h0], fun _ => rfl, fun t ht => by omega⟩
  · refine ⟨some ⟨g, 0, none⟩, cap, rfl, fun h => (by cases h), fun t ht => ⟨g, 0, rfl, lt_of_block hh, ?_⟩⟩
    have key : ∀ s, s < 2 → w.cell? ⟨g, 0 + t * 2 + s, none⟩ = (encW l[t]!)[s]? := fun s hs => by
      rw [Nat.zero_add, World.ownsRow.cellAt h _ (by omega), flatW_at l t ht s hs]
    exact ⟨key 0 (by omega), key 1 (by omega)⟩
theorem CellsW.below {w w' : World} {b o : Nat} {e : Wr} (h : CellsW w b o e) (hl : b < w.heap.size) (hb : Below w.heap.size w w') : CellsW w' b o e :=
  ⟨(hb.cell (p := ⟨b, o, none⟩) hl).trans h.c0, (hb.cell (p := ⟨b, o + 1, none⟩) hl).trans h.c1⟩
theorem WrsAt.below {w w' : World} {v : Value} {l : List Wr} (h : WrsAt w v l) (b : Below w.heap.size w w') : WrsAt w' v l := by
  obtain ⟨a, cap, rfl, hn, hc⟩ := h
  refine ⟨a, cap, rfl, hn, fun t ht => ?_⟩
  obtain ⟨bb, off, h1, h2, h3⟩ := hc t ht
  exact ⟨bb, off, h1, Nat.lt_of_lt_of_le h2 b.size, h3.below h2 b⟩
theorem WrRow.below {w w' : World} {base : Nat} {v : Value} {l : List Wr} (h : WrRow w base v l) (b : Below w.heap.size w w') : WrRow w' base v l :=
  ⟨h.1, by
    rcases h.2 with h0 | ⟨g, cap, cur, e, hg, hh, r⟩
    · exact .inl h0
    · exact .inr ⟨g, cap, cur, e, hg, (b.block g (lt_of_block hh)).trans hh, r⟩⟩
theorem WrRow.mono {w : World} {base base' : Nat} {v : Value} {l : List Wr} (h : WrRow w base v l) (hb : base' ≤ base) : WrRow w base' v l :=
  ⟨h.1, by
    rcases h.2 with h0 | ⟨g, cap, cur, e, hg, r⟩
    · exact .inl h0
    · exact .inr ⟨g, cap, cur, e, Nat.le_trans hb hg, r⟩⟩

theorem Tryd.infoW : (Tryd.prog.info? 43).map (fun i => (i.zero, i.size, i.bytes)) = some (some (.agg #[.int .i64 0, .string ⟨#[]⟩]), 2, 24) := by kernel_rfl

/-- a new row that is empty, as the walk has it -/
theorem lit_wrs (w : World) : WrRow (w.alloc (.cells #[] 43)) w.heap.size (.slice (some ⟨w.heap.size, 0, none⟩) 0 0) [] :=
  World.ownsRow_lit (base := w.heap.size) (e := 43) (size := 2) w #[] 0 (Nat.le_refl _) (by unfold maxLen; omega) rfl
/-- a new block with one write -/
theorem one_wr (w : World) (e : Wr) : WrsAt (w.alloc (.cells #[.int .i64 e.block, .string e.text] 43)) (.slice (some ⟨w.heap.size, 0, none⟩) 1 1) [e] := by
  refine ⟨_, _, rfl, fun h => (by cases h), fun t ht => ⟨w.heap.size, 0, rfl, by simp, ?_⟩⟩
  obtain rfl : t = 0 := by simpa using ht
  refine ⟨?_, ?_⟩ <;> rw [World.cell?_alloc_mark] <;> rfl

/-- 'append(out, x...)', out a row of the call's own, x any row of writes -/
theorem append_wrs (w : World) {ops : Array Oper} {rest : List Oper} {o : Oper} {a : Act} {Q : Exit → Act → World → Prop} (hgd : o.guard = none) (s x : Operand)
    (ho : o.op = .call { callee := .builtin .append, args := #[s, x], argTypes := #[27, 27] }) (base : Nat)
    (v u : Value) (l m : List Wr) (hl : l.length + m.length ≤ 1099511627776) (hown : WrRow w base v l) (hu : WrsAt w u m) (hs : a.eval s = v) (hx : a.eval x = u)
    (hbase : base ≤ w.heap.size)
    (h : ∀ v' w', WrRow w' base v' (l ++ m) → Below base w w' → wpList Tryd.prog ops Q rest (a.put o.dst v') w') :
    wpList Tryd.prog ops Q (o :: rest) a w := by
  obtain ⟨i0, hi, hz0, hz1, hz2⟩ := info_parts Tryd.infoW
  obtain ⟨ad, cap, rfl, hn, hc⟩ := hu
  cases ad with
  | none =>
    have hc0 := hn rfl
    have hm : m = [] := by
      cases m with
      | nil => rfl
      | cons e m => obtain ⟨b, off, h1, _⟩ := hc 0 (by simp); cases h1
    subst hm hc0
    refine wpList_append_own_none hgd s x 27 ho base 43 i0 2 Tryd.underlying27 hi v l.length (flatW l) hs hown hx ?_
    refine h v w (by rw [List.append_nil]; exact hown) (Below.refl _ _)
  | some ad =>
    have hcl : ∀ j y, (flatW m)[j]? = some y → w.cell? (ad.add j) = some y := by
      intro j y hy
      have hj : j < m.length * 2 := by
        have := (List.getElem?_eq_some_iff.1 hy).1
        rwa [flatW_len] at this
      obtain ⟨b1, off1, e, _, hcj⟩ := hc (j / 2) (by omega)
      cases e
      have hjj : j = j / 2 * 2 + j % 2 := by omega
      have h4 := flatW_at m (j / 2) (by omega) (j % 2) (by omega)
      rw [← hjj, hy] at h4
      rw [Addr.add_lit, hjj, ← Nat.add_assoc]
      have : j % 2 < 2 := by omega
      generalize j % 2 = s at *
      rcases s with _ | _ | s
      · exact hcj.c0.trans h4.symm
      · exact hcj.c1.trans h4.symm
      · omega
    refine wpList_append_own _ hgd s x 27 ho base 43 i0 _ 2 24 Tryd.underlying27 hi hz0 hz1 hz2 rfl (by decide) v l.length (flatW l) hs hown ad m.length cap (flatW m) hx (flatW_len m) hcl (flatW_cell m) (by unfold maxLen; omega) (by omega) hbase ?_
    intro v' w' hown' hgrow _
    refine h v' w' ?_ ?_
    · unfold WrRow
      rw [flatW_append, List.length_append]
      exact hown'
    · refine (Below.refl base w).grown hgrow hbase ?_
      intro k hk
      exact (World.ownsRow.lt hown k hk).1

end Go.Proofs.YtfdahfealibbnaaDoor
