/- Rows of texts: how they lie; what laws.eqStringS, markStringS, heldStringS, toStringS do to them. -/
import Derived.Test.YtfdahfealibbnaaDoorRows
import Derived.Test.YtfdahfealibbnaaDoorIntS
import Derived.Test.YtfdahfealibbnaaDoorBs
namespace Go.Proofs.YtfdahfealibbnaaDoor
open Go.RowKit Go.Sort

def strsV (l : List ByteArray) : List Value := l.map fun z => .string z
theorem strsV_length (l : List ByteArray) : (strsV l).length = l.length := by simp [strsV]
theorem strsV_append (l m : List ByteArray) : strsV (l ++ m) = strsV l ++ strsV m := by simp [strsV]
theorem strsV_get (l : List ByteArray) (t : Nat) (h : t < l.length) : (strsV l)[t]? = some (.string l[t]!) := by
  rw [getElem!_pos l t h]; simp [strsV, h]
theorem strsV_set (l : List ByteArray) (t : Nat) (x : ByteArray) : (strsV l).set t (.string x) = strsV (l.set t x) := by simp [strsV, List.map_set]

/-- the slice v reads as the texts l -/
def TxtsAt (w : World) (v : Value) (l : List ByteArray) : Prop :=
  ∃ a cap, v = .slice a l.length cap ∧ (a = none → cap = 0) ∧ ∀ t, t < l.length → ∃ b off, a = some ⟨b, off, none⟩ ∧ b < w.heap.size ∧ w.cell? ⟨b, off + t, none⟩ = some (.string l[t]!)

/-- the slice v is a row of texts that lies from block base on and is the call's own -/
def TxtRow (w : World) (base : Nat) (v : Value) (l : List ByteArray) : Prop := w.ownsRow base 9 1 v l.length (strsV l)

theorem TxtRow.at {w : World} {base : Nat} {v : Value} {l : List ByteArray} (h : TxtRow w base v l) : TxtsAt w v l := by
  rcases h.2 with ⟨rfl, h0⟩ | ⟨g, cap, cur, rfl, hg, hh, hnc, hcp, hcs, htake⟩
  · exact ⟨none, 0, by rw [h0], fun _ => rfl, fun t ht => by omega⟩
  · refine ⟨some ⟨g, 0, none⟩, cap, rfl, fun h => (by cases h), fun t ht => ⟨g, 0, rfl, lt_of_block hh, ?_⟩⟩
    rw [Nat.zero_add, World.ownsRow.cellAt h t (by omega)]
    exact strsV_get l t ht

theorem TxtsAt.below {w w' : World} {v : Value} {l : List ByteArray} (h : TxtsAt w v l) (b : Below w.heap.size w w') : TxtsAt w' v l := by
  obtain ⟨a, cap, rfl, hn, hc⟩ := h
  refine ⟨a, cap, rfl, hn, fun t ht => ?_⟩
  obtain ⟨bb, off, h1, h2, h3⟩ := hc t ht
  exact ⟨bb, off, h1, Nat.lt_of_lt_of_le h2 b.size, (b.cell (p := ⟨bb, off + t, none⟩) h2).trans h3⟩

theorem TxtRow.below {w w' : World} {base : Nat} {v : Value} {l : List ByteArray} (h : TxtRow w base v l) (b : Below w.heap.size w w') : TxtRow w' base v l := own_below h b
theorem TxtRow.mono {w : World} {base base' : Nat} {v : Value} {l : List ByteArray} (h : TxtRow w base v l) (hb : base' ≤ base) : TxtRow w base' v l :=
  ⟨h.1, by
    rcases h.2 with h0 | ⟨g, cap, cur, e, hg, r⟩
    · exact .inl h0
    · exact .inr ⟨g, cap, cur, e, Nat.le_trans hb hg, r⟩⟩

theorem strs_ext (l m : List ByteArray) (hl : l.length = m.length) (h : ∀ t, t < l.length → l[t]! = m[t]!) : l = m := by
  apply List.ext_getElem hl
  intro t h1 h2
  have := h t h1
  rwa [getElem!_pos l t h1, getElem!_pos m t h2] at this
theorem text_beq (x y : ByteArray) : (x.toList == y.toList) = decide (x = y) := by
  by_cases e : x = y
  · simp [e]
  · rw [decide_eq_false e, beq_eq_false_iff_ne]
    exact fun h => e (list_ext (by simpa [ByteArray.toList_eq] using h))

theorem Tryd.infoTxt : (Tryd.prog.info? 9).map (fun i => (i.zero, i.size, i.bytes)) = some (some (.string ⟨#[]⟩), 1, 16) := by kernel_rfl

/-- the texts of the numbers from k on -/
def marksT (k n : Nat) : List ByteArray := (List.range n).map fun t => mkT (k + t)
theorem marksT_len (k n : Nat) : (marksT k n).length = n := by simp [marksT]
theorem marksT_get (k n t : Nat) (h : t < n) : (marksT k n)[t]! = mkT (k + t) := by
  rw [getElem!_pos _ _ (by rw [marksT_len]; exact h)]; simp [marksT]
/-- the first j of them marked -/
def markdT (k j : Nat) (l : List ByteArray) : List ByteArray := (List.range l.length).map fun t => if t < j then mkT (k + t) else l[t]!
theorem markdT_len (k j : Nat) (l : List ByteArray) : (markdT k j l).length = l.length := by simp [markdT]
theorem markdT_zero (k : Nat) (l : List ByteArray) : markdT k 0 l = l := by
  apply strs_ext _ _ (markdT_len _ _ _)
  intro t ht
  have hl : t < l.length := by rw [markdT_len] at ht; exact ht
  rw [getElem!_pos (markdT k 0 l) t ht]; simp [markdT]
theorem markdT_all (k : Nat) (l : List ByteArray) : markdT k l.length l = marksT k l.length := by
  unfold markdT marksT
  apply List.map_congr_left
  intro t ht
  rw [if_pos (List.mem_range.1 ht)]
theorem markdT_step (k j : Nat) (l : List ByteArray) : (markdT k j l).set j (mkT (k + j)) = markdT k (j + 1) l := by
  apply List.ext_getElem (by simp [markdT])
  intro t h1 h2
  rw [List.getElem_set]
  simp only [markdT, List.getElem_map, List.getElem_range]
  by_cases e : j = t
  · subst e; simp
  · rw [if_neg e]
    by_cases h3 : t < j
    · rw [if_pos h3, if_pos (by omega)]
    · rw [if_neg h3, if_neg (by omega)]

/-- the first j of l, then empty ones -/
def fillT (j : Nat) (l : List ByteArray) : List ByteArray := (List.range l.length).map fun t => if t < j then l[t]! else ⟨#[]⟩
theorem fillT_len (j : Nat) (l : List ByteArray) : (fillT j l).length = l.length := by simp [fillT]
theorem fillT_zero (l : List ByteArray) : fillT 0 l = List.replicate l.length ⟨#[]⟩ := by
  apply List.ext_getElem (by simp [fillT])
  intro t h1 h2
  simp [fillT]
theorem fillT_all (l : List ByteArray) : fillT l.length l = l := by
  apply List.ext_getElem (by simp [fillT])
  intro t h1 h2
  simp only [fillT, List.getElem_map, List.getElem_range]
  rw [if_pos h2, getElem!_pos l t h2]
theorem fillT_step (j : Nat) (l : List ByteArray) : (fillT j l).set j l[j]! = fillT (j + 1) l := by
  apply List.ext_getElem (by simp [fillT])
  intro t h1 h2
  rw [List.getElem_set]
  simp only [fillT, List.getElem_map, List.getElem_range]
  by_cases e : j = t
  · subst e; simp
  · rw [if_neg e]
    by_cases h3 : t < j
    · rw [if_pos h3, if_pos (by omega)]
    · rw [if_neg h3, if_neg (by omega)]
theorem made_strs (n : Nat) : (madeCells #[.string ⟨#[]⟩] (n * 1)).toList = strsV (List.replicate n ⟨#[]⟩) := by
  rw [toList_madeCells_one]; simp [strsV]

end Go.Proofs.YtfdahfealibbnaaDoor
