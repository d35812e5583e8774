/- Rows of inodes and volumes: how they lie. -/
import Derived.Test.YtgjehmobafkjfaaRows
import Derived.Test.YtgjehmobafkjfaaInT
import Derived.Test.YtgjehmobafkjfaaLEo
namespace Go.Proofs.Ytgjehmobafkjfaa
open Go.RowKit

/-- an inode's cells; s: the slice of its entries -/
def encI (x : Ino) (s : Value) : List Value := [.int .i64 x.id, .int .i64 x.kind, .int .i64 x.links, .string x.data, s]
theorem encI_len (x : Ino) (s : Value) : (encI x s).length = 5 := rfl
def flatI (l : List (Ino × Value)) : List Value := l.flatMap fun p => encI p.1 p.2
theorem flatI_len (l : List (Ino × Value)) : (flatI l).length = l.length * 5 := by
  unfold flatI
  induction l with
  | nil => rfl
  | cons c l ih => rw [List.flatMap_cons, List.length_append, ih, encI_len, List.length_cons]; omega
theorem flatI_append (l m : List (Ino × Value)) : flatI (l ++ m) = flatI l ++ flatI m := by simp [flatI]
theorem flatI_cons (p : Ino × Value) (l : List (Ino × Value)) : flatI (p :: l) = encI p.1 p.2 ++ flatI l := by simp [flatI]
theorem flatI_one (p : Ino × Value) : flatI [p] = encI p.1 p.2 := by simp [flatI]
theorem flatI_at : ∀ (l : List (Ino × Value)) (j : Nat), j < l.length → ∀ t, t < 5 → (flatI l)[j * 5 + t]? = (encI l[j]!.1 l[j]!.2)[t]?
  | [], j, h, _, _ => by simp at h
  | e :: l, 0, _, t, ht => by
    rw [flatI_cons, List.getElem?_append_left (by rw [encI_len]; omega), Nat.zero_mul, Nat.zero_add]; rfl
  | e :: l, j + 1, h, t, ht => by
    have ih := flatI_at l j (by simpa using h) t ht
    rw [flatI_cons, List.getElem?_append_right (by rw [encI_len]; omega), encI_len, show (j + 1) * 5 + t - 5 = j * 5 + t by omega, ih]
    rfl
/-- the cells of inode x at place o -/
structure CellsI (w : World) (b o : Nat) (x : Ino) (s : Value) : Prop where
  c0 : w.cell? ⟨b, o, none⟩ = some (.int .i64 x.id)
  c1 : w.cell? ⟨b, o + 1, none⟩ = some (.int .i64 x.kind)
  c2 : w.cell? ⟨b, o + 2, none⟩ = some (.int .i64 x.links)
  c3 : w.cell? ⟨b, o + 3, none⟩ = some (.string x.data)
  c4 : w.cell? ⟨b, o + 4, none⟩ = some s
theorem CellsI.below {w w' : World} {b o : Nat} {x : Ino} {s : Value} (h : CellsI w b o x s) (hl : b < w.heap.size) (hb : Below w.heap.size w w') : CellsI w' b o x s :=
  ⟨(hb.cell (p := ⟨b, o, none⟩) hl).trans h.c0, (hb.cell (p := ⟨b, o + 1, none⟩) hl).trans h.c1, (hb.cell (p := ⟨b, o + 2, none⟩) hl).trans h.c2, (hb.cell (p := ⟨b, o + 3, none⟩) hl).trans h.c3, (hb.cell (p := ⟨b, o + 4, none⟩) hl).trans h.c4⟩

/-- the slice v reads as the inodes l -/
def InosAt (w : World) (v : Value) (l : List Ino) : Prop :=
  ∃ a cap, v = .slice a l.length cap ∧ (a = none → cap = 0) ∧ ∀ t, t < l.length → ∃ b off s, a = some ⟨b, off, none⟩ ∧ b < w.heap.size ∧ CellsI w b (off + t * 5) l[t]! s ∧ EntsAt w s l[t]!.ents
/-- the value v reads as the volume x -/
def VolAt (w : World) (v : Value) (x : Vo) : Prop := ∃ u, v = .agg #[.int .i64 x.next, u] ∧ InosAt w u x.ins
theorem InosAt.below {w w' : World} {v : Value} {l : List Ino} (h : InosAt w v l) (b : Below w.heap.size w w') : InosAt w' v l := by
  obtain ⟨a, cap, rfl, hn, hc⟩ := h
  refine ⟨a, cap, rfl, hn, fun t ht => ?_⟩
  obtain ⟨bb, off, s, h1, h2, h3, h4⟩ := hc t ht
  exact ⟨bb, off, s, h1, Nat.lt_of_lt_of_le h2 b.size, h3.below h2 b, h4.below b⟩
theorem VolAt.below {w w' : World} {v : Value} {x : Vo} (h : VolAt w v x) (b : Below w.heap.size w w') : VolAt w' v x := by
  obtain ⟨u, h1, h2⟩ := h
  exact ⟨u, h1, h2.below b⟩

/-- no block in common -/
def ApartV (u v : Value) : Prop := u.ownBlock = none ∨ u.ownBlock ≠ v.ownBlock
/-- the slice v is a row of inodes that lies from block base on and is the call's own, its entries too, no two of them in one block -/
structure InoRow (w : World) (base : Nat) (v : Value) (l : List (Ino × Value)) : Prop where
  row : w.ownsRow base 38 5 v l.length (flatI l)
  ents : ∀ t, t < l.length → EntRow w base l[t]!.2 l[t]!.1.ents
  apart : l.Pairwise fun a b => ApartV a.2 b.2
/-- the value v is a volume of the call's own -/
def VolRow (w : World) (base : Nat) (v : Value) (x : Vo) : Prop := ∃ u l, v = .agg #[.int .i64 x.next, u] ∧ l.map (·.1) = x.ins ∧ InoRow w base u l

theorem map_fst_at (l : List (Ino × Value)) (t : Nat) (h : t < l.length) : (l.map (·.1))[t]! = l[t]!.1 := by
  rw [getElem!_pos _ t (by simpa using h), getElem!_pos l t h]; simp
theorem InoRow.at {w : World} {base : Nat} {v : Value} {l : List (Ino × Value)} (h : InoRow w base v l) : InosAt w v (l.map (·.1)) := by
  obtain ⟨hr, he, _⟩ := h
  rcases hr.2 with ⟨rfl, h0⟩ | ⟨g, cap, cur, rfl, hg, hh, hnc, hcp, hcs, htake⟩
  · exact ⟨none, 0, by simp [h0], fun _ => rfl, fun t ht => by simp at ht; omega⟩
  · refine ⟨some ⟨g, 0, none⟩, cap, by simp, fun h => (by cases h), fun t ht => ⟨g, 0, l[t]!.2, rfl, lt_of_block hh, ?_, ?_⟩⟩
    · have ht : t < l.length := by simpa using ht
      rw [map_fst_at l t ht]
      have key : ∀ s, s < 5 → w.cell? ⟨g, 0 + t * 5 + s, none⟩ = (encI l[t]!.1 l[t]!.2)[s]? := fun s hs => by
        rw [Nat.zero_add, World.ownsRow.cellAt hr _ (by omega), flatI_at l t ht s hs]
      exact ⟨key 0 (by omega), key 1 (by omega), key 2 (by omega), key 3 (by omega), key 4 (by omega)⟩
    · have ht : t < l.length := by simpa using ht
      rw [map_fst_at l t ht]; exact (he t ht).at
theorem VolRow.at {w : World} {base : Nat} {v : Value} {x : Vo} (h : VolRow w base v x) : VolAt w v x := by
  obtain ⟨u, l, h1, h2, h3⟩ := h
  exact ⟨u, h1, by rw [← h2]; exact h3.at⟩
theorem InoRow.below {w w' : World} {base : Nat} {v : Value} {l : List (Ino × Value)} (h : InoRow w base v l) (b : Below w.heap.size w w') : InoRow w' base v l :=
  ⟨own_below h.row b, fun t ht => (h.ents t ht).below b, h.apart⟩
theorem VolRow.below {w w' : World} {base : Nat} {v : Value} {x : Vo} (h : VolRow w base v x) (b : Below w.heap.size w w') : VolRow w' base v x := by
  obtain ⟨u, l, h1, h2, h3⟩ := h
  exact ⟨u, l, h1, h2, h3.below b⟩
theorem InoRow.mono {w : World} {base base' : Nat} {v : Value} {l : List (Ino × Value)} (h : InoRow w base v l) (hb : base' ≤ base) : InoRow w base' v l :=
  ⟨⟨h.row.1, by
    rcases h.row.2 with h0 | ⟨g, cap, cur, e, hg, r⟩
    · exact .inl h0
    · exact .inr ⟨g, cap, cur, e, Nat.le_trans hb hg, r⟩⟩, fun t ht => (h.ents t ht).mono hb, h.apart⟩
theorem VolRow.mono {w : World} {base base' : Nat} {v : Value} {x : Vo} (h : VolRow w base v x) (hb : base' ≤ base) : VolRow w base' v x := by
  obtain ⟨u, l, h1, h2, h3⟩ := h
  exact ⟨u, l, h1, h2, h3.mono hb⟩
/-- an entries' row lies in a block of its own base or has none -/
theorem EntRow.blk {w : World} {base : Nat} {v : Value} {d : List En} (h : EntRow w base v d) : ∀ g, v.ownBlock = some g → base ≤ g ∧ g < w.heap.size := by
  intro g hg
  rcases h.2 with ⟨rfl, h0⟩ | ⟨g', cap, cur, rfl, hg', hh, _⟩
  · simp [Value.ownBlock] at hg
  · simp only [Value.ownBlock, Option.some.injEq] at hg
    subst hg
    exact ⟨hg', lt_of_block hh⟩
/-- a new one is apart from an old one -/
theorem apart_new {w w' : World} {base b2 : Nat} {u v : Value} {d e : List En} (h : EntRow w base u d) (h' : EntRow w' b2 v e) (hb : w.heap.size ≤ b2) : ApartV u v := by
  unfold ApartV
  cases hu : u.ownBlock with
  | none => exact .inl rfl
  | some g =>
    refine .inr fun hc => ?_
    have h1 := h.blk g hu
    have h2 := h'.blk g hc.symm
    omega
theorem apart_new' {w w' : World} {base b2 : Nat} {u v : Value} {d e : List En} (h : EntRow w base u d) (h' : EntRow w' b2 v e) (hb : w.heap.size ≤ b2) : ApartV v u := by
  unfold ApartV
  cases hu : v.ownBlock with
  | none => exact .inl rfl
  | some g =>
    refine .inr fun hc => ?_
    have h1 := h.blk g hc.symm
    have h2 := h'.blk g hu
    omega

end Go.Proofs.Ytgjehmobafkjfaa
