/- Rows of inodes and volumes: how they lie. Rows of inodes: what a write leaves. Volumes: laws.eqInode, eqInodeS, eqVol of two that are the same. Volumes: laws.markInodeS, heldInodeS, markVol, heldVol. -/
import Derived.Test.YtnfbnnbkhihfjaaDoorRows
import Derived.Test.YtnfbnnbkhihfjaaDoorMin
import Derived.Test.YtnfbnnbkhihfjaaDoorMq
namespace Go.Proofs.YtnfbnnbkhihfjaaDoor

section
open Go.RowKit

/-- an inode's cells; s: the slice of its entries -/
def encI (x : Ino) (s : Value) : List Value := [.int .i64 x.id, .int .i64 x.kind, .int .i64 x.links, .string x.data, s]
theorem encI_len (x : Ino) (s : Value) : (encI x s).length = 5 := rfl
def flatI (l : List (Ino × Value)) : List Value := l.flatMap fun p => encI p.1 p.2
theorem flatI_len (l : List (Ino × Value)) : (flatI l).length = l.length * 5 := by
  unfold flatI
  induction l with
  | nil => rfl
  | cons c l ih => rw [List.flatMap_cons, List.length_append, ih, encI_len, List.length_cons]; omega
theorem flatI_append (l m : List (Ino × Value)) : flatI (l ++ m) = flatI l ++ flatI m := by simp [flatI]
theorem flatI_cons (p : Ino × Value) (l : List (Ino × Value)) : flatI (p :: l) = encI p.1 p.2 ++ flatI l := by simp [flatI]
theorem flatI_one (p : Ino × Value) : flatI [p] = encI p.1 p.2 := by simp [flatI]
theorem flatI_at : ∀ (l : List (Ino × Value)) (j : Nat), j < l.length → ∀ t, t < 5 → (flatI l)[j * 5 + t]? = (encI l[j]!.1 l[j]!.2)[t]?
  | [], j, h, _, _ => by simp at h
  | e :: l, 0, _, t, ht => by
    rw [flatI_cons, List.getElem?_append_left (by rw [encI_len]; omega), Nat.zero_mul, Nat.zero_add]; rfl
  | e :: l, j + 1, h, t, ht => by
    have ih := flatI_at l j (by simpa using h) t ht
    rw [flatI_cons, List.getElem?_append_right (by rw [encI_len]; omega), encI_len, show (j + 1) * 5 + t - 5 = j * 5 + t by omega, ih]
    rfl
/-- the cells of inode x at place o -/
structure CellsI (w : World) (b o : Nat) (x : Ino) (s : Value) : Prop where
  c0 : w.cell? ⟨b, o, none⟩ = some (.int .i64 x.id)
  c1 : w.cell? ⟨b, o + 1, none⟩ = some (.int .i64 x.kind)
  c2 : w.cell? ⟨b, o + 2, none⟩ = some (.int .i64 x.links)
  c3 : w.cell? ⟨b, o + 3, none⟩ = some (.string x.data)
  c4 : w.cell? ⟨b, o + 4, none⟩ = some s
theorem CellsI.below {w w' : World} {b o : Nat} {x : Ino} {s : Value} (h : CellsI w b o x s) (hl : b < w.heap.size) (hb : Below w.heap.size w w') : CellsI w' b o x s :=
  ⟨(hb.cell (p := ⟨b, o, none⟩) hl).trans h.c0, (hb.cell (p := ⟨b, o + 1, none⟩) hl).trans h.c1, (hb.cell (p := ⟨b, o + 2, none⟩) hl).trans h.c2, (hb.cell (p := ⟨b, o + 3, none⟩) hl).trans h.c3, (hb.cell (p := ⟨b, o + 4, none⟩) hl).trans h.c4⟩

/-- the slice v reads as the inodes l -/
def InosAt (w : World) (v : Value) (l : List Ino) : Prop :=
  ∃ a cap, v = .slice a l.length cap ∧ (a = none → cap = 0) ∧ ∀ t, t < l.length → ∃ b off s, a = some ⟨b, off, none⟩ ∧ b < w.heap.size ∧ CellsI w b (off + t * 5) l[t]! s ∧ EntsAt w s l[t]!.ents
/-- the value v reads as the volume x -/
def VolAt (w : World) (v : Value) (x : Vo) : Prop := ∃ u, v = .agg #[.int .i64 x.next, u] ∧ InosAt w u x.ins
theorem InosAt.below {w w' : World} {v : Value} {l : List Ino} (h : InosAt w v l) (b : Below w.heap.size w w') : InosAt w' v l := by
  obtain ⟨a, cap, rfl, hn, hc⟩ := h
  refine ⟨a, cap, rfl, hn, fun t ht => ?_⟩
  obtain ⟨bb, off, s, h1, h2, h3, h4⟩ := hc t ht
  exact ⟨bb, off, s, h1, Nat.lt_of_lt_of_le h2 b.size, h3.below h2 b, h4.below b⟩
theorem VolAt.below {w w' : World} {v : Value} {x : Vo} (h : VolAt w v x) (b : Below w.heap.size w w') : VolAt w' v x := by
  obtain ⟨u, h1, h2⟩ := h
  exact ⟨u, h1, h2.below b⟩

/-- no block in common -/
def ApartV (u v : Value) : Prop := u.ownBlock = none ∨ u.ownBlock ≠ v.ownBlock
/-- the slice v is a row of inodes that lies from block base on and is the call's own, its entries too, no two of them in one block -/
structure InoRow (w : World) (base : Nat) (v : Value) (l : List (Ino × Value)) : Prop where
  row : w.ownsRow base 36 5 v l.length (flatI l)
  ents : ∀ t, t < l.length → EntRow w base l[t]!.2 l[t]!.1.ents
  apart : l.Pairwise fun a b => ApartV a.2 b.2
/-- the value v is a volume of the call's own -/
def VolRow (w : World) (base : Nat) (v : Value) (x : Vo) : Prop := ∃ u l, v = .agg #[.int .i64 x.next, u] ∧ l.map (·.1) = x.ins ∧ InoRow w base u l

theorem map_fst_at (l : List (Ino × Value)) (t : Nat) (h : t < l.length) : (l.map (·.1))[t]! = l[t]!.1 := by
  rw [getElem!_pos _ t (by simpa using h), getElem!_pos l t h]; simp
theorem InoRow.at {w : World} {base : Nat} {v : Value} {l : List (Ino × Value)} (h : InoRow w base v l) : InosAt w v (l.map (·.1)) := by
  obtain ⟨hr, he, _⟩ := h
  rcases hr.2 with ⟨rfl, h0⟩ | ⟨g, cap, cur, rfl, hg, hh, hnc, hcp, hcs, htake⟩
  · exact ⟨none, 0, by simp [h0], fun _ => rfl, fun t ht => by simp at ht; omega⟩
  · refine ⟨some ⟨g, 0, none⟩, cap, by simp, fun h => (by cases h), fun t ht => ⟨g, 0, l[t]!.2, rfl, lt_of_block hh, ?_, ?_⟩⟩
    · have ht : t < l.length := by simpa using ht
      rw [map_fst_at l t ht]
      have key : ∀ s, s < 5 → w.cell? ⟨g, 0 + t * 5 + s, none⟩ = (encI l[t]!.1 l[t]!.2)[s]? := fun s hs => by
        rw [Nat.zero_add, World.ownsRow.cellAt hr _ (by omega), flatI_at l t ht s hs]
      exact ⟨key 0 (by omega), key 1 (by omega), key 2 (by omega), key 3 (by omega), key 4 (by omega)⟩
    · have ht : t < l.length := by simpa using ht
      rw [map_fst_at l t ht]; exact (he t ht).at
theorem VolRow.at {w : World} {base : Nat} {v : Value} {x : Vo} (h : VolRow w base v x) : VolAt w v x := by
  obtain ⟨u, l, h1, h2, h3⟩ := h
  exact ⟨u, h1, by rw [← h2]; exact h3.at⟩
theorem InoRow.below {w w' : World} {base : Nat} {v : Value} {l : List (Ino × Value)} (h : InoRow w base v l) (b : Below w.heap.size w w') : InoRow w' base v l :=
  ⟨own_below h.row b, fun t ht => (h.ents t ht).below b, h.apart⟩
theorem VolRow.below {w w' : World} {base : Nat} {v : Value} {x : Vo} (h : VolRow w base v x) (b : Below w.heap.size w w') : VolRow w' base v x := by
  obtain ⟨u, l, h1, h2, h3⟩ := h
  exact ⟨u, l, h1, h2, h3.below b⟩
theorem InoRow.mono {w : World} {base base' : Nat} {v : Value} {l : List (Ino × Value)} (h : InoRow w base v l) (hb : base' ≤ base) : InoRow w base' v l :=
  ⟨⟨h.row.1, by
    rcases h.row.2 with h0 | ⟨g, cap, cur, e, hg, r⟩
    · exact .inl h0
    · exact .inr ⟨g, cap, cur, e, Nat.le_trans hb hg, r⟩⟩, fun t ht => (h.ents t ht).mono hb, h.apart⟩
theorem VolRow.mono {w : World} {base base' : Nat} {v : Value} {x : Vo} (h : VolRow w base v x) (hb : base' ≤ base) : VolRow w base' v x := by
  obtain ⟨u, l, h1, h2, h3⟩ := h
  exact ⟨u, l, h1, h2, h3.mono hb⟩
/-- an entries' row lies in a block of its own base or has none -/
theorem EntRow.blk {w : World} {base : Nat} {v : Value} {d : List En} (h : EntRow w base v d) : ∀ g, v.ownBlock = some g → base ≤ g ∧ g < w.heap.size := by
  intro g hg
  rcases h.2 with ⟨rfl, h0⟩ | ⟨g', cap, cur, rfl, hg', hh, _⟩
  · simp [Value.ownBlock] at hg
  · simp only [Value.ownBlock, Option.some.injEq] at hg
    subst hg
    exact ⟨hg', lt_of_block hh⟩
/-- a new one is apart from an old one -/
theorem apart_new {w w' : World} {base b2 : Nat} {u v : Value} {d e : List En} (h : EntRow w base u d) (h' : EntRow w' b2 v e) (hb : w.heap.size ≤ b2) : ApartV u v := by
  unfold ApartV
  cases hu : u.ownBlock with
  | none => exact .inl rfl
  | some g =>
    refine .inr fun hc => ?_
    have h1 := h.blk g hu
    have h2 := h'.blk g hc.symm
    omega
theorem apart_new' {w w' : World} {base b2 : Nat} {u v : Value} {d e : List En} (h : EntRow w base u d) (h' : EntRow w' b2 v e) (hb : w.heap.size ≤ b2) : ApartV v u := by
  unfold ApartV
  cases hu : v.ownBlock with
  | none => exact .inl rfl
  | some g =>
    refine .inr fun hc => ?_
    have h1 := h.blk g hc.symm
    have h2 := h'.blk g hu
    omega
end

section
open Go.RowKit

theorem flatI_set : ∀ (l : List (Ino × Value)) (t c : Nat) (y : Value) (x : Ino) (s : Value), t < l.length → c < 5 → (encI l[t]!.1 l[t]!.2).set c y = encI x s → (flatI l).set (t * 5 + c) y = flatI (l.set t (x, s))
  | [], t, _, _, _, _, h, _, _ => by simp at h
  | e :: l, 0, c, y, x, s, _, hc, he => by
    rw [flatI_cons, List.set_append_left _ _ (by rw [encI_len]; omega), List.set_cons_zero, flatI_cons, Nat.zero_mul, Nat.zero_add]
    exact congrArg (· ++ flatI l) he
  | e :: l, t + 1, c, y, x, s, h, hc, he => by
    have ih := flatI_set l t c y x s (by simpa using h) hc he
    rw [flatI_cons, List.set_append_right _ _ (by rw [encI_len]; omega), encI_len, show (t + 1) * 5 + c - 5 = t * 5 + c by omega, ih, List.set_cons_succ, flatI_cons]
theorem EntRow.kept {w w' : World} {base : Nat} {s : Value} {d : List En} {r : Option Nat} (h : EntRow w base s d) (hg : w.grownBy w' r) (hne : s.ownBlock = none ∨ s.ownBlock ≠ r) : EntRow w' base s d :=
  ⟨h.1, by
    rcases h.2 with h0 | ⟨g, cap, cur, e, hb, hh, r'⟩
    · exact .inl h0
    · refine .inr ⟨g, cap, cur, e, hb, ?_, r'⟩
      rw [← hh]
      refine hg.block g (lt_of_block hh) ?_
      subst e
      simpa [Value.ownBlock] using hne⟩
/-- a row of inodes and a row of entries lie in different blocks -/
theorem ent_ino_ne {w : World} {base base2 g n cap : Nat} {s : Value} {d : List En} {xs : List Value} (h : EntRow w base s d) (hr : w.ownsRow base2 36 5 (.slice (some ⟨g, 0, none⟩) n cap) n xs) : s.ownBlock ≠ some g := by
  intro hc
  rcases hr.2 with ⟨h0, _⟩ | ⟨g1, cap1, cur1, h0, _, hh1, _⟩
  · cases h0
  · cases h0
    rcases h.2 with ⟨rfl, _⟩ | ⟨g2, cap2, cur2, rfl, _, hh2, _⟩
    · simp [Value.ownBlock] at hc
    · simp only [Value.ownBlock, Option.some.injEq] at hc
      subst hc
      rw [hh1] at hh2
      simp at hh2
theorem at_set {α : Type} [Inhabited α] (l : List α) (i j : Nat) (x : α) (hj : j < l.length) : (l.set i x)[j]! = if i = j then x else l[j]! := by
  rw [getElem!_pos _ j (by simpa using hj), List.getElem_set]
  split
  · rfl
  · rw [getElem!_pos l j hj]
/-- the row's own cells are written, the slices of the entries stay -/
theorem InoRow.re {w w' : World} {base g n cap : Nat} {l l' : List (Ino × Value)} (h : InoRow w base (.slice (some ⟨g, 0, none⟩) n cap) l) (hg : w.grownBy w' (some g)) (hn : n = l.length) (hr : w'.ownsRow base 36 5 (.slice (some ⟨g, 0, none⟩) n cap) n (flatI l')) (hl : l'.length = l.length)
    (hs : ∀ t, t < l.length → l'[t]!.2 = l[t]!.2 ∧ l'[t]!.1.ents = l[t]!.1.ents) : InoRow w' base (.slice (some ⟨g, 0, none⟩) n cap) l' := by
  subst hn
  refine ⟨by rw [hl]; exact hr, fun t ht => ?_, ?_⟩
  · obtain ⟨e1, e2⟩ := hs t (by omega)
    rw [e1, e2]
    exact (h.ents t (by omega)).kept hg (.inr (ent_ino_ne (h.ents t (by omega)) h.row))
  · have := h.apart
    rw [List.pairwise_iff_getElem] at this ⊢
    intro i j hi hj hij
    have h1 := (hs i (by omega)).1
    have h2 := (hs j (by omega)).1
    rw [getElem!_pos l' i hi, getElem!_pos l i (by omega)] at h1
    rw [getElem!_pos l' j hj, getElem!_pos l j (by omega)] at h2
    rw [h1, h2]; exact this i j (by omega) (by omega) hij
/-- the entries of one of them are written where they lie -/
theorem InoRow.ent {w w' : World} {base : Nat} {v : Value} {l : List (Ino × Value)} (h : InoRow w base v l) {j : Nat} (hj : j < l.length) {d : List En} (hd : EntRow w' base l[j]!.2 d) (hg : w.grownBy w' l[j]!.2.ownBlock) :
    InoRow w' base v (l.set j (⟨l[j]!.1.id, l[j]!.1.kind, l[j]!.1.links, l[j]!.1.data, d⟩, l[j]!.2)) := by
  have hfl : flatI (l.set j (⟨l[j]!.1.id, l[j]!.1.kind, l[j]!.1.links, l[j]!.1.data, d⟩, l[j]!.2)) = flatI l := by
    rw [← flatI_set l j 4 l[j]!.2 ⟨l[j]!.1.id, l[j]!.1.kind, l[j]!.1.links, l[j]!.1.data, d⟩ l[j]!.2 hj (by omega) rfl]
    have := flatI_at l j hj 4 (by omega)
    apply List.ext_getElem?
    intro i
    rw [List.getElem?_set]
    split
    · rename_i hi
      subst hi
      rw [this, if_pos (by rw [flatI_len]; omega)]; rfl
    · rfl
  refine ⟨?_, fun t ht => ?_, ?_⟩
  · rw [hfl, List.length_set]
    refine ⟨h.row.1, ?_⟩
    rcases h.row.2 with h0 | ⟨g, cap, cur, e, hb, hh, r⟩
    · exact .inl h0
    · refine .inr ⟨g, cap, cur, e, hb, ?_, r⟩
      rw [← hh]
      refine hg.block g (lt_of_block hh) ?_
      have hr := h.row
      rw [e] at hr
      exact Ne.symm (ent_ino_ne (h.ents j hj) hr)
  · rw [List.length_set] at ht
    rw [at_set l j t _ ht]
    by_cases e : j = t
    · rw [if_pos e]; exact hd
    · rw [if_neg e]
      refine (h.ents t ht).kept hg ?_
      have hp := h.apart
      rw [List.pairwise_iff_getElem] at hp
      rcases Nat.lt_or_gt_of_ne e with hlt | hlt
      · have := hp j t hj ht hlt
        rw [getElem!_pos l t ht, getElem!_pos l j hj]
        rcases this with h1 | h1
        · by_cases h2 : (l[t]).2.ownBlock = none
          · exact .inl h2
          · right; rw [h1]; exact h2
        · exact .inr (Ne.symm h1)
      · have := hp t j ht hj hlt
        rw [getElem!_pos l t ht, getElem!_pos l j hj]
        exact this
  · have hp := h.apart
    rw [List.pairwise_iff_getElem] at hp ⊢
    intro i k hi hk hik
    rw [List.length_set] at hi hk
    have h1 := at_set l j i (⟨l[j]!.1.id, l[j]!.1.kind, l[j]!.1.links, l[j]!.1.data, d⟩, l[j]!.2) hi
    have h2 := at_set l j k (⟨l[j]!.1.id, l[j]!.1.kind, l[j]!.1.links, l[j]!.1.data, d⟩, l[j]!.2) hk
    rw [getElem!_pos _ i (by simpa using hi)] at h1
    rw [getElem!_pos _ k (by simpa using hk)] at h2
    have e1 : (if j = i then ((⟨l[j]!.1.id, l[j]!.1.kind, l[j]!.1.links, l[j]!.1.data, d⟩, l[j]!.2) : Ino × Value) else l[i]!).2 = l[i].2 := by
      split
      · rename_i e; subst e; rw [getElem!_pos l j hi]
      · rw [getElem!_pos l i hi]
    have e2 : (if j = k then ((⟨l[j]!.1.id, l[j]!.1.kind, l[j]!.1.links, l[j]!.1.data, d⟩, l[j]!.2) : Ino × Value) else l[k]!).2 = l[k].2 := by
      split
      · rename_i e; subst e; rw [getElem!_pos l j hk]
      · rw [getElem!_pos l k hk]
    rw [h1, h2, e1, e2]
    exact hp i k hi hk hik
end

section
open Go.RowKit Go.Sort

/-- an inode's value -/
def valI (x : Ino) (s : Value) : Value := .agg #[.int .i64 x.id, .int .i64 x.kind, .int .i64 x.links, .string x.data, s]
end

section
open Go.RowKit Go.Sort

/-- the marked inode whose first number is m -/
def mkI (m : Nat) (x : Ino) : Ino := ⟨m, m + 1, m + 2, mkT (m + 3), marksE (m + 4) x.ents.length⟩
/-- the number behind j marked inodes -/
def numI (k : Nat) (l : List (Ino × Value)) (j : Nat) : Nat := k + ((l.take j).map fun p => 4 + 4 * p.1.ents.length).sum
theorem numI_zero (k : Nat) (l : List (Ino × Value)) : numI k l 0 = k := by simp [numI]
theorem numI_succ (k : Nat) (l : List (Ino × Value)) (j : Nat) (h : j < l.length) : numI k l (j + 1) = numI k l j + (4 + 4 * l[j]!.1.ents.length) := by
  unfold numI
  rw [List.take_succ_eq_append_getElem h, List.map_append, List.sum_append, getElem!_pos l j h]; simp; omega
theorem numI_mono (k : Nat) (l : List (Ino × Value)) (j m : Nat) (h : j + m ≤ l.length) : numI k l j ≤ numI k l (j + m) := by
  induction m with
  | zero => exact Nat.le_refl _
  | succ m ih => have := ih (by omega); have h2 := numI_succ k l (j + m) (by omega); rw [← Nat.add_assoc, h2]; omega
/-- the first j are marked -/
def markdI (k j : Nat) (l : List (Ino × Value)) : List (Ino × Value) := (List.range l.length).map fun t => if t < j then (mkI (numI k l t) l[t]!.1, l[t]!.2) else l[t]!
theorem markdI_len (k j : Nat) (l : List (Ino × Value)) : (markdI k j l).length = l.length := by simp [markdI]
theorem markdI_get (k j : Nat) (l : List (Ino × Value)) (t : Nat) (h : t < l.length) : (markdI k j l)[t]! = if t < j then (mkI (numI k l t) l[t]!.1, l[t]!.2) else l[t]! := by
  rw [getElem!_pos _ t (by rw [markdI_len]; exact h)]; simp [markdI]
theorem list_ext1 {α : Type} [Inhabited α] {a b : List α} (hl : a.length = b.length) (h : ∀ t, t < a.length → a[t]! = b[t]!) : a = b := by
  apply List.ext_getElem hl
  intro t h1 h2
  have := h t h1
  rwa [getElem!_pos a t h1, getElem!_pos b t h2] at this
theorem markdI_zero (k : Nat) (l : List (Ino × Value)) : markdI k 0 l = l :=
  list_ext1 (markdI_len _ _ _) fun t ht => by rw [markdI_get _ _ _ _ (by rw [markdI_len] at ht; exact ht), if_neg (by omega)]
theorem markdI_step (k j : Nat) (l : List (Ino × Value)) : (markdI k j l).set j (mkI (numI k l j) l[j]!.1, l[j]!.2) = markdI k (j + 1) l := by
  refine list_ext1 (by rw [List.length_set, markdI_len, markdI_len]) fun t ht => ?_
  rw [List.length_set, markdI_len] at ht
  rw [at_set _ _ _ _ (by rw [markdI_len]; exact ht), markdI_get _ _ _ _ ht, markdI_get _ _ _ _ ht]
  by_cases e : j = t
  · subst e; rw [if_pos rfl, if_pos (by omega)]
  · rw [if_neg e]
    by_cases h1 : t < j
    · rw [if_pos h1, if_pos (by omega)]
    · rw [if_neg h1, if_neg (by omega)]
def marksI (k : Nat) (l : List (Ino × Value)) : List (Ino × Value) := markdI k l.length l
theorem gbi_of_below {w w' : World} {r : Option Nat} (b : Below w.heap.size w w') : w.grownBy w' r := ⟨b.os, b.tape, b.output, b.size, fun k hk _ => b.block k hk⟩
theorem gbr_trans {a b c : World} {r : Option Nat} (h : a.grownBy b r) (k : b.grownBy c r) : a.grownBy c r :=
  ⟨k.os.trans h.os, k.tape.trans h.tape, k.output.trans h.output, Nat.le_trans h.size k.size, fun i hi hne => (k.block i (Nat.lt_of_lt_of_le hi h.size) hne).trans (h.block i hi hne)⟩
theorem gbr_set (w : World) (g o : Nat) (u : Value) : w.grownBy (w.setCell ⟨g, o, none⟩ u) (some g) :=
  ⟨by simp [World.setCell]; try split <;> rfl, by simp [World.setCell]; try split <;> rfl, by simp [World.setCell]; try split <;> rfl, by simp, fun k _ hne => Below.heap_setCell w _ _ k (fun e => hne (by rw [e]))⟩
/-- what lies below B or from T on stays -/
structure MidB (B T : Nat) (w w' : World) : Prop where
  os : w'.os = w.os
  tape : w'.tape = w.tape
  output : w'.output = w.output
  size : w.heap.size ≤ w'.heap.size
  block : ∀ k, k < w.heap.size → (k < B ∨ T ≤ k) → w'.heap[k]? = w.heap[k]?
theorem MidB.refl (B T : Nat) (w : World) : MidB B T w w := ⟨rfl, rfl, rfl, Nat.le_refl _, fun _ _ _ => rfl⟩
theorem MidB.trans {B T : Nat} {a b c : World} (h : MidB B T a b) (k : MidB B T b c) : MidB B T a c :=
  ⟨k.os.trans h.os, k.tape.trans h.tape, k.output.trans h.output, Nat.le_trans h.size k.size, fun i hi hne => (k.block i (Nat.lt_of_lt_of_le hi h.size) hne).trans (h.block i hi hne)⟩
theorem MidB.of_below {B T : Nat} {w w' : World} (b : Below w.heap.size w w') : MidB B T w w' := ⟨b.os, b.tape, b.output, b.size, fun k hk _ => b.block k hk⟩
theorem MidB.of_grown {B T : Nat} {w w' : World} {r : Option Nat} (g : w.grownBy w' r) (h : ∀ q, r = some q → B ≤ q ∧ q < T) : MidB B T w w' :=
  ⟨g.os, g.tape, g.output, g.size, fun k hk hne => g.block k hk fun e => by have := h k e.symm; omega⟩
theorem MidB.below {B T : Nat} {w w' : World} (m : MidB B T w w') (hb : B ≤ w.heap.size) : Below B w w' := ⟨m.os, m.tape, m.output, m.size, fun k hk => m.block k (by omega) (.inl hk)⟩
/-- a cell of a block that stays -/
theorem MidB.cell {B T : Nat} {w w' : World} (m : MidB B T w w') {b : Nat} (o : Nat) (hb : b < w.heap.size) (h : b < B ∨ T ≤ b) : w'.cell? ⟨b, o, none⟩ = w.cell? ⟨b, o, none⟩ := World.cell?_of_block (m.block b hb h)
/-- each of its cells is there and may be written -/
theorem rowI_cells {w : World} {base g n cap : Nat} {xs : List Value} (h : w.ownsRow base 36 5 (.slice (some ⟨g, 0, none⟩) n cap) n xs) (t : Nat) (ht : t < n * 5) : (∃ u, w.cell? ⟨g, t, none⟩ = some u) ∧ w.frozen? ⟨g, t, none⟩ = false :=
  ⟨⟨_, (h.cellAt t ht).trans (List.getElem?_eq_getElem (by have := h.1; omega))⟩, h.frozenAt t⟩
theorem flatI_put4 : ∀ (l : List (Ino × Value)) (t : Nat) (i k m : Int) (d : ByteArray), t < l.length → ((((flatI l).set (t * 5) (.int .i64 i)).set (t * 5 + 1) (.int .i64 k)).set (t * 5 + 2) (.int .i64 m)).set (t * 5 + 3) (.string d) = flatI (l.set t (⟨i, k, m, d, l[t]!.1.ents⟩, l[t]!.2))
  | [], t, _, _, _, _, h => by simp at h
  | e :: l, 0, i, k, m, d, _ => by simp [flatI_cons, encI]
  | e :: l, t + 1, i, k, m, d, h => by
    have ih := flatI_put4 l t i k m d (by simpa using h)
    have e1 : (e :: l)[t + 1]! = l[t]! := by simp
    rw [e1, List.set_cons_succ, flatI_cons, flatI_cons, ← ih]
    simp only [encI, List.cons_append, List.nil_append]
    rw [show (t + 1) * 5 = t * 5 + 1 + 1 + 1 + 1 + 1 by omega]
    simp only [List.set_cons_succ]
/-- the four first cells of one of them written anew; the fourth behind whatever makes memory alone -/
theorem InoRow.put4 {w w3 : World} {base g n cap : Nat} {l : List (Ino × Value)} (h : InoRow w base (.slice (some ⟨g, 0, none⟩) n cap) l) (hn : n = l.length) {t : Nat} (ht : t < n) (i k m : Int) (d : ByteArray)
    (b : Below (((w.setCell ⟨g, t * 5, none⟩ (.int .i64 i)).setCell ⟨g, t * 5 + 1, none⟩ (.int .i64 k)).setCell ⟨g, t * 5 + 2, none⟩ (.int .i64 m)).heap.size (((w.setCell ⟨g, t * 5, none⟩ (.int .i64 i)).setCell ⟨g, t * 5 + 1, none⟩ (.int .i64 k)).setCell ⟨g, t * 5 + 2, none⟩ (.int .i64 m)) w3) :
    InoRow (w3.setCell ⟨g, t * 5 + 3, none⟩ (.string d)) base (.slice (some ⟨g, 0, none⟩) n cap) (l.set t (⟨i, k, m, d, l[t]!.1.ents⟩, l[t]!.2)) := by
  have h0 : w.ownsRow base 36 5 (.slice (some ⟨g, 0, none⟩) n cap) n (flatI l) := by have := h.row; rwa [← hn] at this
  have h1 := (h0.stored (t * 5) (.int .i64 i)).1
  have h2 := (h1.stored (t * 5 + 1) (.int .i64 k)).1
  have h3 := (h2.stored (t * 5 + 2) (.int .i64 m)).1
  have h4 := own_below h3 b
  have h5 := (h4.stored (t * 5 + 3) (.string d)).1
  rw [flatI_put4 l t i k m d (by omega)] at h5
  refine h.re (gbr_trans (gbr_trans (gbr_trans (gbr_trans (gbr_set w g _ _) (gbr_set _ g _ _)) (gbr_set _ g _ _)) (gbi_of_below b)) (gbr_set _ g _ _)) hn h5 (by simp) fun j hj => ?_
  rw [at_set _ _ _ _ hj]
  by_cases e : t = j
  · subst e; rw [if_pos rfl]; exact ⟨rfl, rfl⟩
  · rw [if_neg e]; exact ⟨rfl, rfl⟩
end

end Go.Proofs.YtnfbnnbkhihfjaaDoor
