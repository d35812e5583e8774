/- Rows of inodes and volumes: how they lie. Rows of inodes: what a write leaves. Volumes: laws.eqInode, eqInodeS, eqVol of two that are the same. Volumes: laws.markInodeS, heldInodeS, markVol, heldVol. -/
import Derived.Test.YtchcdgkpaipkgaaGreatDoorRows
import Derived.Test.YtchcdgkpaipkgaaGreatDoorMin
import Derived.Test.YtchcdgkpaipkgaaGreatDoorMq
namespace Go.Proofs.YtchcdgkpaipkgaaGreatDoor

section
open Go.RowKit

/-- an inode's cells; s: the slice of its entries -/
def encI (x : Ino) (s : Value) : List Value := [.int .i64 x.id, .int .i64 x.kind, .int .i64 x.links, .string x.data, s]
theorem encI_len (x : Ino) (s : Value) : (encI x s).length = 5 := rfl
def flatI (l : List (Ino × Value)) : List Value := l.flatMap fun p => encI p.1 p.2
theorem flatI_len (l : List (Ino × Value)) : (flatI l).length = l.length * 5 := by
  unfold flatI
  induction l with
  | nil => rfl
  | cons c l ih => rw [List.flatMap_cons, List.length_append, ih, encI_len, List.length_cons]; omega
theorem flatI_append (l m : List (Ino × Value)) : flatI (l ++ m) = flatI l ++ flatI m := by simp [flatI]
theorem flatI_cons (p : Ino × Value) (l : List (Ino × Value)) : flatI (p :: l) = encI p.1 p.2 ++ flatI l := by simp [flatI]
theorem flatI_one (p : Ino × Value) : flatI [p] = encI p.1 p.2 := by simp [flatI]
theorem flatI_at : ∀ (l : List (Ino × Value)) (j : Nat), j < l.length → ∀ t, t < 5 → (flatI l)[j * 5 + t]? = (encI l[j]!.1 l[j]!.2)[t]?
  | [], j, h, _, _ => by simp at h
  | e :: l, 0, _, t, ht => by
    rw [flatI_cons, List.getElem?_append_left (by rw [encI_len]; omega), Nat.zero_mul, Nat.zero_add]; rfl
  | e :: l, j + 1, h, t, ht => by
    have ih := flatI_at l j (by simpa using h) t ht
    rw [flatI_cons, List.getElem?_append_right (by rw [encI_len]; omega), encI_len, show (j + 1) * 5 + t - 5 = j * 5 + t by omega, ih]
    rfl
/-- the cells of inode x at place o -/
structure CellsI (w : World) (b o : Nat) (x : Ino) (s : Value) : Prop where
  c0 : w.cell? ⟨b, o, none⟩ = some (.int .i64 x.id)
  c1 : w.cell? ⟨b, o + 1, none⟩ = some (.int .i64 x.kind)
  c2 : w.cell? ⟨b, o + 2, none⟩ = some (.int .i64 x.links)
  c3 : w.cell? ⟨b, o + 3, none⟩ = some (.string x.data)
  c4 : w.cell? ⟨b, o + 4, none⟩ = some s
theorem CellsI.below {w w' : World} {b o : Nat} {x : Ino} {s : Value} (h : CellsI w b o x s) (hl : b < w.heap.size) (hb : Below w.heap.size w w') : CellsI w' b o x s :=
  ⟨(hb.cell (p := ⟨b, o, none⟩) hl).trans h.c0, (hb.cell (p := ⟨b, o + 1, none⟩) hl).trans h.c1, (hb.cell (p := ⟨b, o + 2, none⟩) hl).trans h.c2, (hb.cell (p := ⟨b, o + 3, none⟩) hl).trans h.c3, (hb.cell (p := ⟨b, o + 4, none⟩) hl).trans h.c4⟩

/-- the slice v reads as the inodes l -/
def InosAt (w : World) (v : Value) (l : List Ino) : Prop :=
  ∃ a cap, v = .slice a l.length cap ∧ (a = none → cap = 0) ∧ ∀ t, t < l.length → ∃ b off s, a = some ⟨b, off, none⟩ ∧ b < w.heap.size ∧ CellsI w b (off + t * 5) l[t]! s ∧ EntsAt w s l[t]!.ents
/-- the value v reads as the volume x -/
def VolAt (w : World) (v : Value) (x : Vo) : Prop := ∃ u, v = .agg #[.int .i64 x.next, u] ∧ InosAt w u x.ins
theorem InosAt.below {w w' : World} {v : Value} {l : List Ino} (h : InosAt w v l) (b : Below w.heap.size w w') : InosAt w' v l := by
  obtain ⟨a, cap, rfl, hn, hc⟩ := h
  refine ⟨a, cap, rfl, hn, fun t ht => ?_⟩
  obtain ⟨bb, off, s, h1, h2, h3, h4⟩ := hc t ht
  exact ⟨bb, off, s, h1, Nat.lt_of_lt_of_le h2 b.size, h3.below h2 b, h4.below b⟩
theorem VolAt.below {w w' : World} {v : Value} {x : Vo} (h : VolAt w v x) (b : Below w.heap.size w w') : VolAt w' v x := by
  obtain ⟨u, h1, h2⟩ := h
  exact ⟨u, h1, h2.below b⟩

/-- no block in common -/
def ApartV (u v : Value) : Prop := u.ownBlock = none ∨ u.ownBlock ≠ v.ownBlock
/-- the slice v is a row of inodes that lies from block base on and is the call's own, its entries too, no two of them in one block -/
structure InoRow (w : World) (base : Nat) (v : Value) (l : List (Ino × Value)) : Prop where
  row : w.ownsRow base 50 5 v l.length (flatI l)
  ents : ∀ t, t < l.length → EntRow w base l[t]!.2 l[t]!.1.ents
  apart : l.Pairwise fun a b => ApartV a.2 b.2
/-- the value v is a volume of the call's own -/
def VolRow (w : World) (base : Nat) (v : Value) (x : Vo) : Prop := ∃ u l, v = .agg #[.int .i64 x.next, u] ∧ l.map (·.1) = x.ins ∧ InoRow w base u l

theorem map_fst_at (l : List (Ino × Value)) (t : Nat) (h : t < l.length) : (l.map (·.1))[t]! = l[t]!.1 := by
  rw [getElem!_pos _ t (by simpa using h), getElem!_pos l t h]; simp
theorem InoRow.at {w : World} {base : Nat} {v : Value} {l : List (Ino × Value)} (h : InoRow w base v l) : InosAt w v (l.map (·.1)) := by
  obtain ⟨hr, he, _⟩ := h
  rcases hr.2 with ⟨rfl, h0⟩ | ⟨g, cap, cur, rfl, hg, hh, hnc, hcp, hcs, htake⟩
  · exact ⟨none, 0, by simp [h0], fun _ => rfl, fun t ht => by simp at ht; omega⟩
  · refine ⟨some ⟨g, 0, none⟩, cap, by simp, fun h => (by cases h), fun t ht => ⟨g, 0, l[t]!.2, rfl, lt_of_block hh, ?_, ?_⟩⟩
    · have ht : t < l.length := by simpa using ht
      rw [map_fst_at l t ht]
      have key : ∀ s, s < 5 → w.cell? ⟨g, 0 + t * 5 + s, none⟩ = (encI l[t]!.1 l[t]!.2)[s]? := fun s hs => by
        rw [Nat.zero_add, World.ownsRow.cellAt hr _ (by omega), flatI_at l t ht s hs]
      exact ⟨key 0 (by omega), key 1 (by omega), key 2 (by omega), key 3 (by omega), key 4 (by omega)⟩
    · have ht : t < l.length := by simpa using ht
      rw [map_fst_at l t ht]; exact (he t ht).at
theorem VolRow.at {w : World} {base : Nat} {v : Value} {x : Vo} (h : VolRow w base v x) : VolAt w v x := by
  obtain ⟨u, l, h1, h2, h3⟩ := h
  exact ⟨u, h1, by rw [← h2]; exact h3.at⟩
theorem InoRow.below {w w' : World} {base : Nat} {v : Value} {l : List (Ino × Value)} (h : InoRow w base v l) (b : Below w.heap.size w w') : InoRow w' base v l :=
  ⟨own_below h.row b, fun t ht => (h.ents t ht).below b, h.apart⟩
theorem VolRow.below {w w' : World} {base : Nat} {v : Value} {x : Vo} (h : VolRow w base v x) (b : Below w.heap.size w w') : VolRow w' base v x := by
  obtain ⟨u, l, h1, h2, h3⟩ := h
  exact ⟨u, l, h1, h2, h3.below b⟩
theorem InoRow.mono {w : World} {base base' : Nat} {v : Value} {l : List (Ino × Value)} (h : InoRow w base v l) (hb : base' ≤ base) : InoRow w base' v l :=
  ⟨⟨h.row.1, by
    rcases h.row.2 with h0 | ⟨g, cap, cur, e, hg, r⟩
    · exact .inl h0
    · exact .inr ⟨g, cap, cur, e, Nat.le_trans hb hg, r⟩⟩, fun t ht => (h.ents t ht).mono hb, h.apart⟩
theorem VolRow.mono {w : World} {base base' : Nat} {v : Value} {x : Vo} (h : VolRow w base v x) (hb : base' ≤ base) : VolRow w base' v x := by
  obtain ⟨u, l, h1, h2, h3⟩ := h
  exact ⟨u, l, h1, h2, h3.mono hb⟩
/-- an entries' row lies in a block of its own base or has none -/
theorem EntRow.blk {w : World} {base : Nat} {v : Value} {d : List En} (h : EntRow w base v d) : ∀ g, v.ownBlock = some g → base ≤ g ∧ g < w.heap.size := by
  intro g hg
  rcases h.2 with ⟨rfl, h0⟩ | ⟨g', cap, cur, rfl, hg', hh, _⟩
  · simp [Value.ownBlock] at hg
  · simp only [Value.ownBlock, Option.some.injEq] at hg
    subst hg
    exact ⟨hg', lt_of_block hh⟩
/-- a new one is apart from an old one -/
theorem apart_new {w w' : World} {base b2 : Nat} {u v : Value} {d e : List En} (h : EntRow w base u d) (h' : EntRow w' b2 v e) (hb : w.heap.size ≤ b2) : ApartV u v := by
  unfold ApartV
  cases hu : u.ownBlock with
  | none => exact .inl rfl
  | some g =>
    refine .inr fun hc => ?_
    have h1 := h.blk g hu
    have h2 := h'.blk g hc.symm
    omega
theorem apart_new' {w w' : World} {base b2 : Nat} {u v : Value} {d e : List En} (h : EntRow w base u d) (h' : EntRow w' b2 v e) (hb : w.heap.size ≤ b2) : ApartV v u := by
  unfold ApartV
  cases hu : v.ownBlock with
  | none => exact .inl rfl
  | some g =>
    refine .inr fun hc => ?_
    have h1 := h.blk g hc.symm
    have h2 := h'.blk g hu
    omega
end

section
open Go.RowKit

theorem flatI_set : ∀ (l : List (Ino × Value)) (t c : Nat) (y : Value) (x : Ino) (s : Value), t < l.length → c < 5 → (encI l[t]!.1 l[t]!.2).set c y = encI x s → (flatI l).set (t * 5 + c) y = flatI (l.set t (x, s))
  | [], t, _, _, _, _, h, _, _ => by simp at h
  | e :: l, 0, c, y, x, s, _, hc, he => by
    rw [flatI_cons, List.set_append_left _ _ (by rw [encI_len]; omega), List.set_cons_zero, flatI_cons, Nat.zero_mul, Nat.zero_add]
    exact congrArg (· ++ flatI l) he
  | e :: l, t + 1, c, y, x, s, h, hc, he => by
    have ih := flatI_set l t c y x s (by simpa using h) hc he
    rw [flatI_cons, List.set_append_right _ _ (by rw [encI_len]; omega), encI_len, show (t + 1) * 5 + c - 5 = t * 5 + c by omega, ih, List.set_cons_succ, flatI_cons]
theorem EntRow.kept {w w' : World} {base : Nat} {s : Value} {d : List En} {r : Option Nat} (h : EntRow w base s d) (hg : w.grownBy w' r) (hne : s.ownBlock = none ∨ s.ownBlock ≠ r) : EntRow w' base s d :=
  ⟨h.1, by
    rcases h.2 with h0 | ⟨g, cap, cur, e, hb, hh, r'⟩
    · exact .inl h0
    · refine .inr ⟨g, cap, cur, e, hb, ?_, r'⟩
      rw [← hh]
      refine hg.block g (lt_of_block hh) ?_
      subst e
      simpa [Value.ownBlock] using hne⟩
/-- a row of inodes and a row of entries lie in different blocks -/
theorem ent_ino_ne {w : World} {base base2 g n cap : Nat} {s : Value} {d : List En} {xs : List Value} (h : EntRow w base s d) (hr : w.ownsRow base2 50 5 (.slice (some ⟨g, 0, none⟩) n cap) n xs) : s.ownBlock ≠ some g := by
  intro hc
  rcases hr.2 with ⟨h0, _⟩ | ⟨g1, cap1, cur1, h0, _, hh1, _⟩
  · cases h0
  · cases h0
    rcases h.2 with ⟨rfl, _⟩ | ⟨g2, cap2, cur2, rfl, _, hh2, _⟩
    · simp [Value.ownBlock] at hc
    · simp only [Value.ownBlock, Option.some.injEq] at hc
      subst hc
      rw [hh1] at hh2
      simp at hh2
theorem at_set {α : Type} [Inhabited α] (l : List α) (i j : Nat) (x : α) (hj : j < l.length) : (l.set i x)[j]! = if i = j then x else l[j]! := by
  rw [getElem!_pos _ j (by simpa using hj), List.getElem_set]
  split
  · rfl
  · rw [getElem!_pos l j hj]
/-- the row's own cells are written, the slices of the entries stay -/
theorem InoRow.re {w w' : World} {base g n cap : Nat} {l l' : List (Ino × Value)} (h : InoRow w base (.slice (some ⟨g, 0, none⟩) n cap) l) (hg : w.grownBy w' (some g)) (hn : n = l.length) (hr : w'.ownsRow base 50 5 (.slice (some ⟨g, 0, none⟩) n cap) n (flatI l')) (hl : l'.length = l.length)
    (hs : ∀ t, t < l.length → l'[t]!.2 = l[t]!.2 ∧ l'[t]!.1.ents = l[t]!.1.ents) : InoRow w' base (.slice (some ⟨g, 0, none⟩) n cap) l' := by
  subst hn
  refine ⟨by rw [hl]; exact hr, fun t ht => ?_, ?_⟩
  · obtain ⟨e1, e2⟩ := hs t (by omega)
    rw [e1, e2]
    exact (h.ents t (by omega)).kept hg (.inr (ent_ino_ne (h.ents t (by omega)) h.row))
  · have := h.apart
    rw [List.pairwise_iff_getElem] at this ⊢
    intro i j hi hj hij
    have h1 := (hs i (by omega)).1
    have h2 := (hs j (by omega)).1
    rw [getElem!_pos l' i hi, getElem!_pos l i (by omega)] at h1
    rw [getElem!_pos l' j hj, getElem!_pos l j (by omega)] at h2
    rw [h1, h2]; exact this i j (by omega) (by omega) hij
/-- the entries of one of them are written where they lie -/
theorem InoRow.ent {w w' : World} {base : Nat} {v : Value} {l : List (Ino × Value)} (h : InoRow w base v l) {j : Nat} (hj : j < l.length) {d : List En} (hd : EntRow w' base l[j]!.2 d) (hg : w.grownBy w' l[j]!.2.ownBlock) :
    InoRow w' base v (l.set j (⟨l[j]!.1.id, l[j]!.1.kind, l[j]!.1.links, l[j]!.1.data, d⟩, l[j]!.2)) := by
  have hfl : flatI (l.set j (⟨l[j]!.1.id, l[j]!.1.kind, l[j]!.1.links, l[j]!.1.data, d⟩, l[j]!.2)) = flatI l := by
    rw [← flatI_set l j 4 l[j]!.2 ⟨l[j]!.1.id, l[j]!.1.kind, l[j]!.1.links, l[j]!.1.data, d⟩ l[j]!.2 hj (by omega) rfl]
    have := flatI_at l j hj 4 (by omega)
    apply List.ext_getElem?
    intro i
    rw [List.getElem?_set]
    split
    · rename_i hi
      subst hi
      rw [this, if_pos (by rw [flatI_len]; omega)]; rfl
    · rfl
  refine ⟨?_, fun t ht => ?_, ?_⟩
  · rw [hfl, List.length_set]
    refine ⟨h.row.1, ?_⟩
    rcases h.row.2 with h0 | ⟨g, cap, cur, e, hb, hh, r⟩
    · exact .inl h0
    · refine .inr ⟨g, cap, cur, e, hb, ?_, r⟩
      rw [← hh]
      refine hg.block g (lt_of_block hh) ?_
      have hr := h.row
      rw [e] at hr
      exact Ne.symm (ent_ino_ne (h.ents j hj) hr)
  · rw [List.length_set] at ht
    rw [at_set l j t _ ht]
    by_cases e : j = t
    · rw [if_pos e]; exact hd
    · rw [if_neg e]
      refine (h.ents t ht).kept hg ?_
      have hp := h.apart
      rw [List.pairwise_iff_getElem] at hp
      rcases Nat.lt_or_gt_of_ne e with hlt | hlt
      · have := hp j t hj ht hlt
        rw [getElem!_pos l t ht, getElem!_pos l j hj]
        rcases this with h1 | h1
        · by_cases h2 : (l[t]).2.ownBlock = none
          · exact .inl h2
          · right; rw [h1]; exact h2
        · exact .inr (Ne.symm h1)
      · have := hp t j ht hj hlt
        rw [getElem!_pos l t ht, getElem!_pos l j hj]
        exact this
  · have hp := h.apart
    rw [List.pairwise_iff_getElem] at hp ⊢
    intro i k hi hk hik
    rw [List.length_set] at hi hk
    have h1 := at_set l j i (⟨l[j]!.1.id, l[j]!.1.kind, l[j]!.1.links, l[j]!.1.data, d⟩, l[j]!.2) hi
    have h2 := at_set l j k (⟨l[j]!.1.id, l[j]!.1.kind, l[j]!.1.links, l[j]!.1.data, d⟩, l[j]!.2) hk
    rw [getElem!_pos _ i (by simpa using hi)] at h1
    rw [getElem!_pos _ k (by simpa using hk)] at h2
    have e1 : (if j = i then ((⟨l[j]!.1.id, l[j]!.1.kind, l[j]!.1.links, l[j]!.1.data, d⟩, l[j]!.2) : Ino × Value) else l[i]!).2 = l[i].2 := by
      split
      · rename_i e; subst e; rw [getElem!_pos l j hi]
      · rw [getElem!_pos l i hi]
    have e2 : (if j = k then ((⟨l[j]!.1.id, l[j]!.1.kind, l[j]!.1.links, l[j]!.1.data, d⟩, l[j]!.2) : Ino × Value) else l[k]!).2 = l[k].2 := by
      split
      · rename_i e; subst e; rw [getElem!_pos l j hk]
      · rw [getElem!_pos l k hk]
    rw [h1, h2, e1, e2]
    exact hp i k hi hk hik
end

section
open Go.RowKit Go.Sort

/-- an inode's value -/
def valI (x : Ino) (s : Value) : Value := .agg #[.int .i64 x.id, .int .i64 x.kind, .int .i64 x.links, .string x.data, s]

set_option maxRecDepth 100000 in
set_option maxHeartbeats 1000000 in
theorem eqInode_same (x : Ino) (s t : Value) (w : World) (hl : x.ents.length ≤ 1048577) (hs : EntsAt w s x.ents) (ht : EntsAt w t x.ents) :
    Calls Tryz.prog 50 #[valI x s, valI x t] w fun e w' => e = .returned (.bool true) ∧ Below w.heap.size w w' := by
  have hE : ∀ w', Below w.heap.size w w' → Calls Tryz.prog 58 #[s, t] w' fun e w'' => e = .returned (.bool true) ∧ Below w'.heap.size w' w'' := fun w' b => by
    have := eqEntS_any s t x.ents x.ents w' (by omega) (hs.below b) (ht.below b)
    simpa using this
  obtain ⟨a1, c1, rfl, -, -⟩ := hs
  obtain ⟨a2, c2, rfl, -, -⟩ := ht
  obtain ⟨i, k, n, d, es⟩ := x
  unfold valI
  dsimp only at hE ⊢
  generalize es.length = m at hE ⊢
  go_enter Tryz.func50, Tryz.ntmps50
  go_wp2_with fail
  refine (hE _ ?_).mono ?_
  · exact (below_lit w _).alloc (by simp) _
  · rintro e w1 ⟨rfl, b1⟩
    go_wp2
    go_ret
    exact ⟨rfl, ((below_lit w _).alloc (by simp) _).trans (b1.mono (by simp; omega))⟩

set_option maxRecDepth 100000 in
set_option maxHeartbeats 1000000 in
theorem eqInodeS_same (v u : Value) (l : List Ino) (w : World) (hl : l.length ≤ 1048577) (hsh : ∀ x ∈ l, x.ents.length ≤ 1048577) (hv : InosAt w v l) (hu : InosAt w u l) :
    Calls Tryz.prog 33 #[v, u] w fun e w' => e = .returned (.bool true) ∧ Below w.heap.size w w' := by
  have HE : Hid (∀ k, k < l.length → ∀ s t w', EntsAt w' s l[k]!.ents → EntsAt w' t l[k]!.ents → Calls Tryz.prog 50 #[valI l[k]! s, valI l[k]! t] w' fun e w'' => e = .returned (.bool true) ∧ Below w'.heap.size w' w'') := fun k hk s t w' h1 h2 =>
    eqInode_same _ _ _ _ (hsh _ (by rw [getElem!_pos l k hk]; exact List.getElem_mem hk)) h1 h2
  obtain ⟨a, ca, rfl, -, hva⟩ := hv
  obtain ⟨b, cb, rfl, -, hub⟩ := hu
  obtain ⟨n, HN⟩ : ∃ n, Hid (n = l.length) := ⟨_, rfl⟩
  rw [← HN.out] at hva hub hl HE ⊢
  clear hsh
  go_enter Tryz.func33, Tryz.ntmps33
  go_wp2
  go_loopw [5] (fun i wr => ∃ k : Nat, k ≤ n ∧ i = .int .i64 k ∧ Below w.heap.size w wr) (fun i _ => n - (intOf i).toNat)
  case atStart => exact ⟨0, Nat.zero_le _, rfl, Below.refl _ _⟩
  case round =>
    obtain ⟨k, hk, rfl, hbel⟩ := hrel
    by_cases hlt : k < n
    · obtain ⟨b1, o1, s1, rfl, hb1, hc1, he1⟩ := hva k hlt
      obtain ⟨b2, o2, s2, rfl, hb2, hc2, he2⟩ := hub k hlt
      have hc1 := hc1.below hb1 hbel
      have hc2 := hc2.below hb2 hbel
      have hQ : ∀ d os, Calls Tryz.prog 50 #[valI l[k]! s1, valI l[k]! s2] (grow (redrawn wr d) os) fun x w'' => x = .returned (.bool true) ∧ ∃ p : Regrown, w'' = grow (redrawn wr p.d) p.os := fun d os =>
        Calls.regrown_of (HE.out k hlt s1 s2 _ ((he1.below hbel).below (below_regrown wr d os)) ((he2.below hbel).below (below_regrown wr d os)))
      obtain ⟨a1, ca1, rfl, -, -⟩ := he1
      obtain ⟨a2, ca2, rfl, -, -⟩ := he2
      generalize l[k]! = x at hc1 hc2 hQ
      obtain ⟨xi, xk, xn, xd, xe⟩ := x
      unfold valI at hQ
      dsimp only at hc1 hc2 hQ
      have k0 := cell_regrown hc1.c0
      have k1 := cell_regrown hc1.c1
      have k2 := cell_regrown hc1.c2
      have k3 := cell_regrown hc1.c3
      have k4 := cell_regrown hc1.c4
      have j0 := cell_regrown hc2.c0
      have j1 := cell_regrown hc2.c1
      have j2 := cell_regrown hc2.c2
      have j3 := cell_regrown hc2.c3
      have j4 := cell_regrown hc2.c4
      generalize xe.length = m at hQ k4 j4
      have hkn : (k : Int) < (n : Int) := by omega
      have hk0 : (0 : Int) ≤ (k : Int) := by omega
      clear hva hub hc1 hc2 HE
      go_wp2
      refine wp_region_quiet_below (by kernel_rfl) (by kernel_rfl) ?_
      repeat (go_big_quiet_step (exact hQ _ _))
      refine wpQuiet_nil ?_
      rintro w' ⟨⟨dq, osq⟩, rfl⟩
      have hbq := below_regrown wr dq osq
      generalize grow (redrawn wr dq) osq = w4 at hbq ⊢
      go_wp2
      go_roundw
      case rel => exact ⟨k + 1, by omega, by go_num, hbel.trans (hbq.mono hbel.size)⟩
      case measure => simp [intOf]; omega
    · obtain rfl : k = n := by omega
      go_wp2
      go_ret
      exact ⟨rfl, hbel⟩

set_option maxRecDepth 100000 in
set_option maxHeartbeats 1000000 in
theorem eqVol_same (v u : Value) (x : Vo) (w : World) (hl : x.ins.length ≤ 1048577) (hsh : ∀ y ∈ x.ins, y.ents.length ≤ 1048577) (hv : VolAt w v x) (hu : VolAt w u x) :
    Calls Tryz.prog 16 #[v, u] w fun e w' => e = .returned (.bool true) ∧ Below w.heap.size w w' := by
  obtain ⟨nx, l⟩ := x
  obtain ⟨v1, rfl, hv⟩ := hv
  obtain ⟨u1, rfl, hu⟩ := hu
  dsimp only at hl hsh hv hu ⊢
  have hE := fun w' (b : Below w.heap.size w w') => eqInodeS_same v1 u1 l w' hl hsh (hv.below b) (hu.below b)
  obtain ⟨a1, c1, rfl, -, -⟩ := hv
  obtain ⟨a2, c2, rfl, -, -⟩ := hu
  generalize l.length = m at hE ⊢
  go_enter Tryz.func16, Tryz.ntmps16
  go_wp2_with fail
  refine (hE _ ?_).mono ?_
  · exact (below_lit w _).alloc (by simp) _
  · rintro e w1 ⟨rfl, b1⟩
    go_wp2
    go_ret
    exact ⟨rfl, ((below_lit w _).alloc (by simp) _).trans (b1.mono (by simp; omega))⟩
end

section
open Go.RowKit Go.Sort

/-- the marked inode whose first number is m -/
def mkI (m : Nat) (x : Ino) : Ino := ⟨m, m + 1, m + 2, mkT (m + 3), marksE (m + 4) x.ents.length⟩
/-- the number behind j marked inodes -/
def numI (k : Nat) (l : List (Ino × Value)) (j : Nat) : Nat := k + ((l.take j).map fun p => 4 + 4 * p.1.ents.length).sum
theorem numI_zero (k : Nat) (l : List (Ino × Value)) : numI k l 0 = k := by simp [numI]
theorem numI_succ (k : Nat) (l : List (Ino × Value)) (j : Nat) (h : j < l.length) : numI k l (j + 1) = numI k l j + (4 + 4 * l[j]!.1.ents.length) := by
  unfold numI
  rw [List.take_succ_eq_append_getElem h, List.map_append, List.sum_append, getElem!_pos l j h]; simp; omega
theorem numI_mono (k : Nat) (l : List (Ino × Value)) (j m : Nat) (h : j + m ≤ l.length) : numI k l j ≤ numI k l (j + m) := by
  induction m with
  | zero => exact Nat.le_refl _
  | succ m ih => have := ih (by omega); have h2 := numI_succ k l (j + m) (by omega); rw [← Nat.add_assoc, h2]; omega
/-- the first j are marked -/
def markdI (k j : Nat) (l : List (Ino × Value)) : List (Ino × Value) := (List.range l.length).map fun t => if t < j then (mkI (numI k l t) l[t]!.1, l[t]!.2) else l[t]!
theorem markdI_len (k j : Nat) (l : List (Ino × Value)) : (markdI k j l).length = l.length := by simp [markdI]
theorem markdI_get (k j : Nat) (l : List (Ino × Value)) (t : Nat) (h : t < l.length) : (markdI k j l)[t]! = if t < j then (mkI (numI k l t) l[t]!.1, l[t]!.2) else l[t]! := by
  rw [getElem!_pos _ t (by rw [markdI_len]; exact h)]; simp [markdI]
theorem list_ext1 {α : Type} [Inhabited α] {a b : List α} (hl : a.length = b.length) (h : ∀ t, t < a.length → a[t]! = b[t]!) : a = b := by
  apply List.ext_getElem hl
  intro t h1 h2
  have := h t h1
  rwa [getElem!_pos a t h1, getElem!_pos b t h2] at this
theorem markdI_zero (k : Nat) (l : List (Ino × Value)) : markdI k 0 l = l :=
  list_ext1 (markdI_len _ _ _) fun t ht => by rw [markdI_get _ _ _ _ (by rw [markdI_len] at ht; exact ht), if_neg (by omega)]
theorem markdI_step (k j : Nat) (l : List (Ino × Value)) : (markdI k j l).set j (mkI (numI k l j) l[j]!.1, l[j]!.2) = markdI k (j + 1) l := by
  refine list_ext1 (by rw [List.length_set, markdI_len, markdI_len]) fun t ht => ?_
  rw [List.length_set, markdI_len] at ht
  rw [at_set _ _ _ _ (by rw [markdI_len]; exact ht), markdI_get _ _ _ _ ht, markdI_get _ _ _ _ ht]
  by_cases e : j = t
  · subst e; rw [if_pos rfl, if_pos (by omega)]
  · rw [if_neg e]
    by_cases h1 : t < j
    · rw [if_pos h1, if_pos (by omega)]
    · rw [if_neg h1, if_neg (by omega)]
def marksI (k : Nat) (l : List (Ino × Value)) : List (Ino × Value) := markdI k l.length l
theorem gbi_of_below {w w' : World} {r : Option Nat} (b : Below w.heap.size w w') : w.grownBy w' r := ⟨b.os, b.tape, b.output, b.size, fun k hk _ => b.block k hk⟩
theorem gbr_trans {a b c : World} {r : Option Nat} (h : a.grownBy b r) (k : b.grownBy c r) : a.grownBy c r :=
  ⟨k.os.trans h.os, k.tape.trans h.tape, k.output.trans h.output, Nat.le_trans h.size k.size, fun i hi hne => (k.block i (Nat.lt_of_lt_of_le hi h.size) hne).trans (h.block i hi hne)⟩
theorem gbr_set (w : World) (g o : Nat) (u : Value) : w.grownBy (w.setCell ⟨g, o, none⟩ u) (some g) :=
  ⟨by simp [World.setCell]; try split <;> rfl, by simp [World.setCell]; try split <;> rfl, by simp [World.setCell]; try split <;> rfl, by simp, fun k _ hne => Below.heap_setCell w _ _ k (fun e => hne (by rw [e]))⟩
/-- what lies below B or from T on stays -/
structure MidB (B T : Nat) (w w' : World) : Prop where
  os : w'.os = w.os
  tape : w'.tape = w.tape
  output : w'.output = w.output
  size : w.heap.size ≤ w'.heap.size
  block : ∀ k, k < w.heap.size → (k < B ∨ T ≤ k) → w'.heap[k]? = w.heap[k]?
theorem MidB.refl (B T : Nat) (w : World) : MidB B T w w := ⟨rfl, rfl, rfl, Nat.le_refl _, fun _ _ _ => rfl⟩
theorem MidB.trans {B T : Nat} {a b c : World} (h : MidB B T a b) (k : MidB B T b c) : MidB B T a c :=
  ⟨k.os.trans h.os, k.tape.trans h.tape, k.output.trans h.output, Nat.le_trans h.size k.size, fun i hi hne => (k.block i (Nat.lt_of_lt_of_le hi h.size) hne).trans (h.block i hi hne)⟩
theorem MidB.of_below {B T : Nat} {w w' : World} (b : Below w.heap.size w w') : MidB B T w w' := ⟨b.os, b.tape, b.output, b.size, fun k hk _ => b.block k hk⟩
theorem MidB.of_grown {B T : Nat} {w w' : World} {r : Option Nat} (g : w.grownBy w' r) (h : ∀ q, r = some q → B ≤ q ∧ q < T) : MidB B T w w' :=
  ⟨g.os, g.tape, g.output, g.size, fun k hk hne => g.block k hk fun e => by have := h k e.symm; omega⟩
theorem MidB.below {B T : Nat} {w w' : World} (m : MidB B T w w') (hb : B ≤ w.heap.size) : Below B w w' := ⟨m.os, m.tape, m.output, m.size, fun k hk => m.block k (by omega) (.inl hk)⟩
/-- a cell of a block that stays -/
theorem MidB.cell {B T : Nat} {w w' : World} (m : MidB B T w w') {b : Nat} (o : Nat) (hb : b < w.heap.size) (h : b < B ∨ T ≤ b) : w'.cell? ⟨b, o, none⟩ = w.cell? ⟨b, o, none⟩ := World.cell?_of_block (m.block b hb h)
/-- each of its cells is there and may be written -/
theorem rowI_cells {w : World} {base g n cap : Nat} {xs : List Value} (h : w.ownsRow base 50 5 (.slice (some ⟨g, 0, none⟩) n cap) n xs) (t : Nat) (ht : t < n * 5) : (∃ u, w.cell? ⟨g, t, none⟩ = some u) ∧ w.frozen? ⟨g, t, none⟩ = false :=
  ⟨⟨_, (h.cellAt t ht).trans (List.getElem?_eq_getElem (by have := h.1; omega))⟩, h.frozenAt t⟩
theorem flatI_put4 : ∀ (l : List (Ino × Value)) (t : Nat) (i k m : Int) (d : ByteArray), t < l.length → ((((flatI l).set (t * 5) (.int .i64 i)).set (t * 5 + 1) (.int .i64 k)).set (t * 5 + 2) (.int .i64 m)).set (t * 5 + 3) (.string d) = flatI (l.set t (⟨i, k, m, d, l[t]!.1.ents⟩, l[t]!.2))
  | [], t, _, _, _, _, h => by simp at h
  | e :: l, 0, i, k, m, d, _ => by simp [flatI_cons, encI]
  | e :: l, t + 1, i, k, m, d, h => by
    have ih := flatI_put4 l t i k m d (by simpa using h)
    have e1 : (e :: l)[t + 1]! = l[t]! := by simp
    rw [e1, List.set_cons_succ, flatI_cons, flatI_cons, ← ih]
    simp only [encI, List.cons_append, List.nil_append]
    rw [show (t + 1) * 5 = t * 5 + 1 + 1 + 1 + 1 + 1 by omega]
    simp only [List.set_cons_succ]
/-- the four first cells of one of them written anew; the fourth behind whatever makes memory alone -/
theorem InoRow.put4 {w w3 : World} {base g n cap : Nat} {l : List (Ino × Value)} (h : InoRow w base (.slice (some ⟨g, 0, none⟩) n cap) l) (hn : n = l.length) {t : Nat} (ht : t < n) (i k m : Int) (d : ByteArray)
    (b : Below (((w.setCell ⟨g, t * 5, none⟩ (.int .i64 i)).setCell ⟨g, t * 5 + 1, none⟩ (.int .i64 k)).setCell ⟨g, t * 5 + 2, none⟩ (.int .i64 m)).heap.size (((w.setCell ⟨g, t * 5, none⟩ (.int .i64 i)).setCell ⟨g, t * 5 + 1, none⟩ (.int .i64 k)).setCell ⟨g, t * 5 + 2, none⟩ (.int .i64 m)) w3) :
    InoRow (w3.setCell ⟨g, t * 5 + 3, none⟩ (.string d)) base (.slice (some ⟨g, 0, none⟩) n cap) (l.set t (⟨i, k, m, d, l[t]!.1.ents⟩, l[t]!.2)) := by
  have h0 : w.ownsRow base 50 5 (.slice (some ⟨g, 0, none⟩) n cap) n (flatI l) := by have := h.row; rwa [← hn] at this
  have h1 := (h0.stored (t * 5) (.int .i64 i)).1
  have h2 := (h1.stored (t * 5 + 1) (.int .i64 k)).1
  have h3 := (h2.stored (t * 5 + 2) (.int .i64 m)).1
  have h4 := own_below h3 b
  have h5 := (h4.stored (t * 5 + 3) (.string d)).1
  rw [flatI_put4 l t i k m d (by omega)] at h5
  refine h.re (gbr_trans (gbr_trans (gbr_trans (gbr_trans (gbr_set w g _ _) (gbr_set _ g _ _)) (gbr_set _ g _ _)) (gbi_of_below b)) (gbr_set _ g _ _)) hn h5 (by simp) fun j hj => ?_
  rw [at_set _ _ _ _ hj]
  by_cases e : t = j
  · subst e; rw [if_pos rfl]; exact ⟨rfl, rfl⟩
  · rw [if_neg e]; exact ⟨rfl, rfl⟩

set_option maxRecDepth 100000 in
set_option maxHeartbeats 1000000 in
theorem markInodeS_any (v : Value) (l : List (Ino × Value)) (k : Nat) (base top : Nat) (w : World) (hv : InoRow w base v l) (ht0 : ∀ q, v.ownBlock = some q → q < top) (ht1 : ∀ t q, t < l.length → l[t]!.2.ownBlock = some q → q < top) (hk0 : 0 < k) (hk1 : numI k l l.length ≤ 90000000) (hsh : ∀ t, t < l.length → l[t]!.1.ents.length ≤ 1048577) :
    Calls Tryz.prog 36 #[v, .int .i64 k] w fun e w' => e = .returned (.int .i64 (numI k l l.length : Nat)) ∧ InoRow w' base v (marksI k l) ∧ MidB base top w w' := by
  have hrow := hv.row
  rcases hrow.2 with ⟨rfl, h0⟩ | ⟨g, cap, cur, rfl, hg, hh, hnc, hcp, hcs, htake⟩
  · obtain rfl : l = [] := List.length_eq_zero_iff.1 h0
    go_enter Tryz.func36, Tryz.ntmps36
    go_wp2
    refine wp_loop_rounds 1 ?_
    rw [rounds_succ]
    go_wp2
    go_ret
    exact ⟨by simp [numI], by simpa [marksI, markdI] using hv, MidB.refl _ _ _⟩
  · obtain ⟨n, HN⟩ : ∃ n, Hid (n = l.length) := ⟨_, rfl⟩
    have hv1 : InoRow w base (.slice (some ⟨g, 0, none⟩) n cap) (markdI k 0 l) := by rw [markdI_zero, HN.out]; exact hv
    have HM : Hid (∀ j, (markdI k j l).set j (mkI (numI k l j) l[j]!.1, l[j]!.2) = markdI k (j + 1) l) := fun j => markdI_step k j l
    have HLN : Hid (∀ j, n = (markdI k j l).length) := fun j => by rw [markdI_len]; exact HN.out
    have HG : Hid (∀ j, j < n → (markdI k j l)[j]! = l[j]!) := fun j hj => by rw [markdI_get _ _ _ _ (by rw [← HN.out]; exact hj), if_neg (by omega)]
    have HNU : Hid (∀ j, j < n → numI k l (j + 1) = numI k l j + (4 + 4 * l[j]!.1.ents.length)) := fun j hj => numI_succ k l j (by rw [← HN.out]; exact hj)
    have HNB : Hid (∀ j, j ≤ n → 0 < numI k l j ∧ numI k l j ≤ 90000000) := fun j hj => by
      have := numI_mono k l j (n - j) (by rw [← HN.out]; omega)
      rw [show j + (n - j) = n by omega, HN.out] at this
      exact ⟨by unfold numI; omega, by omega⟩
    have HE : Hid (markdI k n l = marksI k l) := by show _ = _; rw [HN.out]; rfl
    have hgt : g < top := ht0 g rfl
    have HT1 : Hid (∀ j, j < n → ∀ q, l[j]!.2.ownBlock = some q → q < top) := fun j hj q hq => ht1 j q (by rw [← HN.out]; exact hj) hq
    have HSH : Hid (∀ j, j < n → l[j]!.1.ents.length ≤ 1048577) := fun j hj => hsh j (by rw [← HN.out]; exact hj)
    clear hv hh hcs htake hrow hsh hk1 ht0 ht1
    unfold maxLen at hcp
    rw [← HN.out] at hnc ⊢
    go_enter Tryz.func36, Tryz.ntmps36
    go_wp2
    go_loopw [1, 5] (fun q i wr => ∃ (j m : Nat), j ≤ n ∧ i = .int .i64 j ∧ q = .int .i64 m ∧ Hid (m = numI k l j) ∧ InoRow wr base (.slice (some ⟨g, 0, none⟩) n cap) (markdI k j l) ∧ MidB base top w wr) (fun _ i _ => n - (intOf i).toNat)
    case atStart => exact ⟨0, k, Nat.zero_le _, rfl, rfl, (numI_zero k l).symm, hv1, MidB.refl _ _ _⟩
    case round =>
      obtain ⟨j, m, hj, rfl, rfl, HMM, hown, hgb⟩ := hrel
      have hnb := HNB.out j hj
      rw [← HMM.out] at hnb
      obtain ⟨hm0, hm1⟩ := hnb
      by_cases hlt : j < n
      · have hrw : wr.ownsRow base 50 5 (.slice (some ⟨g, 0, none⟩) n cap) n (flatI (markdI k j l)) := by have := hown.row; rwa [← HLN.out j] at this
        obtain ⟨⟨u0, d0⟩, f0⟩ := rowI_cells hrw (j * 5) (by omega)
        obtain ⟨⟨u1, d1⟩, f1⟩ := rowI_cells hrw (j * 5 + 1) (by omega)
        obtain ⟨⟨u2, d2⟩, f2⟩ := rowI_cells hrw (j * 5 + 2) (by omega)
        have HP : Hid (∀ w3, Below (((wr.setCell ⟨g, j * 5, none⟩ (.int .i64 (m : Int))).setCell ⟨g, j * 5 + 1, none⟩ (.int .i64 ((m : Int) + 1))).setCell ⟨g, j * 5 + 2, none⟩ (.int .i64 ((m : Int) + 1 + 1))).heap.size (((wr.setCell ⟨g, j * 5, none⟩ (.int .i64 (m : Int))).setCell ⟨g, j * 5 + 1, none⟩ (.int .i64 ((m : Int) + 1))).setCell ⟨g, j * 5 + 2, none⟩ (.int .i64 ((m : Int) + 1 + 1))) w3 →
            InoRow (w3.setCell ⟨g, j * 5 + 3, none⟩ (.string (mkT (m + 3)))) base (.slice (some ⟨g, 0, none⟩) n cap) ((markdI k j l).set j (⟨(m : Int), (m : Int) + 1, (m : Int) + 1 + 1, mkT (m + 3), l[j]!.1.ents⟩, l[j]!.2)) ∧ ∃ u3, w3.cell? ⟨g, j * 5 + 3, none⟩ = some u3 ∧ w3.frozen? ⟨g, j * 5 + 3, none⟩ = false) := fun w3 b3 => by
          have e := InoRow.put4 hown (HLN.out j) hlt (m : Int) ((m : Int) + 1) ((m : Int) + 1 + 1) (mkT (m + 3)) b3
          rw [HG.out j hlt] at e
          have h1 := (hrw.stored (j * 5) (.int .i64 (m : Int))).1
          have h2 := (h1.stored (j * 5 + 1) (.int .i64 ((m : Int) + 1))).1
          have h3 := (h2.stored (j * 5 + 2) (.int .i64 ((m : Int) + 1 + 1))).1
          obtain ⟨⟨u3, d3⟩, f3⟩ := rowI_cells (own_below h3 b3) (j * 5 + 3) (by omega)
          exact ⟨e, u3, d3, f3⟩
        have HC : Hid (∀ w3, Below (((wr.setCell ⟨g, j * 5, none⟩ (.int .i64 (m : Int))).setCell ⟨g, j * 5 + 1, none⟩ (.int .i64 ((m : Int) + 1))).setCell ⟨g, j * 5 + 2, none⟩ (.int .i64 ((m : Int) + 1 + 1))).heap.size (((wr.setCell ⟨g, j * 5, none⟩ (.int .i64 (m : Int))).setCell ⟨g, j * 5 + 1, none⟩ (.int .i64 ((m : Int) + 1))).setCell ⟨g, j * 5 + 2, none⟩ (.int .i64 ((m : Int) + 1 + 1))) w3 → w3.cell? ⟨g, j * 5 + 4, none⟩ = some l[j]!.2) := fun w3 b3 => by
          have h1 := (hrw.stored (j * 5) (.int .i64 (m : Int))).1
          have h2 := (h1.stored (j * 5 + 1) (.int .i64 ((m : Int) + 1))).1
          have h3 := (h2.stored (j * 5 + 2) (.int .i64 ((m : Int) + 1 + 1))).1
          rw [(own_below h3 b3).cellAt (j * 5 + 4) (by omega), List.getElem?_set_ne (by omega), List.getElem?_set_ne (by omega), List.getElem?_set_ne (by omega), flatI_at _ _ (by rw [← HLN.out j]; exact hlt) 4 (by omega), HG.out j hlt]; rfl
        have HLT : Hid (j + 1 ≤ n) := hlt
        have HT := fun w' => markText_at ((m : Int) + 1 + 1 + 1) (m + 3) (by omega) w' (by omega) (by omega)
        have hsl := HSH.out j hlt
        have HF : Hid (∀ w4, InoRow w4 base (.slice (some ⟨g, 0, none⟩) n cap) ((markdI k j l).set j (⟨(m : Int), (m : Int) + 1, (m : Int) + 1 + 1, mkT (m + 3), l[j]!.1.ents⟩, l[j]!.2)) → EntRow w4 base l[j]!.2 l[j]!.1.ents ∧ ∀ w5, EntRow w5 base l[j]!.2 (marksE (m + 4) l[j]!.1.ents.length) → w4.grownBy w5 l[j]!.2.ownBlock → InoRow w5 base (.slice (some ⟨g, 0, none⟩) n cap) (markdI k (j + 1) l)) := fun w4 h4 => by
          have hl' : j < ((markdI k j l).set j (⟨(m : Int), (m : Int) + 1, (m : Int) + 1 + 1, mkT (m + 3), l[j]!.1.ents⟩, l[j]!.2)).length := by rw [List.length_set, ← HLN.out j]; exact hlt
          have e1 : ((markdI k j l).set j (⟨(m : Int), (m : Int) + 1, (m : Int) + 1 + 1, mkT (m + 3), l[j]!.1.ents⟩, l[j]!.2))[j]! = (⟨(m : Int), (m : Int) + 1, (m : Int) + 1 + 1, mkT (m + 3), l[j]!.1.ents⟩, l[j]!.2) := by
            rw [at_set _ _ _ _ (by rw [← HLN.out j]; exact hlt), if_pos rfl]
          have h5 := h4.ents j hl'
          rw [e1] at h5
          refine ⟨h5, fun w5 hd hgr => ?_⟩
          have := InoRow.ent (w' := w5) h4 hl' (d := marksE (m + 4) l[j]!.1.ents.length) (by rw [e1]; exact hd) (by rw [e1]; exact hgr)
          rw [e1, List.set_set] at this
          rw [← HM.out j, ← HMM.out]
          have e2 : (m : Int) + 1 + 1 = (m : Int) + 2 := by omega
          unfold mkI
          rw [← e2]
          exact this
        have HQ := HT1.out j hlt
        have HNX : Hid (m + 4 + 4 * l[j]!.1.ents.length = numI k l (j + 1)) := by show _ = _; rw [HNU.out j hlt, ← HMM.out]; omega
        generalize l[j]!.1.ents = d at HP HF hsl HNX
        generalize l[j]!.2 = s at HP HC HF HQ
        have HQ : Hid _ := HQ
        have HS : Hid _ := hown
        clear hown hrw
        go_wp2_with fail
        refine (HT _).mono ?_
        rintro e w3 ⟨rfl, b3⟩
        obtain ⟨h4, u3, d3, f3⟩ := HP.out w3 b3
        have c4 := HC.out w3 b3
        obtain ⟨hrow4, HNEXT⟩ := HF.out _ h4
        have HME := markEntS_any s d (m + 4) base _ hrow4 hsl (by omega) (by omega)
        have e4 : (((m + 4 : Nat) : Nat) : Int) = (m : Int) + 1 + 1 + 1 + 1 := by omega
        rw [e4] at HME
        have HNEXT : Hid _ := HNEXT
        have hs4 : s = s := rfl
        clear h4 HP HC HF
        go_wp2_with fail
        refine HME.mono ?_
        rintro e w5 ⟨rfl, r5, g5⟩
        have h5 := HNEXT.out w5 r5 g5
        have hS := fun (w' : World) (o : Nat) (u : Value) => MidB.of_grown (B := base) (T := top) (gbr_set w' g o u) (fun q hq => by cases hq; exact ⟨hg, hgt⟩)
        have B5 : MidB base top w w5 := (((((hgb.trans (hS _ _ _)).trans (hS _ _ _)).trans (hS _ _ _)).trans (MidB.of_below b3)).trans (hS _ _ _)).trans (MidB.of_grown g5 fun q hq => ⟨(hrow4.blk q hq).1, HQ.out q hq⟩)
        go_wp2
        go_roundw
        case rel => exact ⟨j + 1, _, HLT.out, by go_num, rfl, HNX.out, h5, B5⟩
        case measure => have := HLT.out; simp [intOf]; omega
      · obtain rfl : n = j := by omega
        rw [HE.out] at hown
        go_wp2
        go_ret
        exact ⟨by rw [HMM.out]; rfl, hown, hgb⟩

set_option maxRecDepth 100000 in
set_option maxHeartbeats 1000000 in
theorem heldInodeS_marks (v : Value) (l : List (Ino × Value)) (k : Nat) (w : World) (hv : InosAt w v ((marksI k l).map (·.1))) (hln : l.length ≤ 1048577) (hk0 : 0 < k) (hk1 : numI k l l.length ≤ 90000000) (hsh : ∀ t, t < l.length → l[t]!.1.ents.length ≤ 1048577) :
    Calls Tryz.prog 39 #[v, .int .i64 k] w fun e w' => e = .returned (.int .i64 (numI k l l.length : Nat)) ∧ Below w.heap.size w w' := by
  obtain ⟨a, cap, rfl, -, hva⟩ := hv
  have hlen : ((marksI k l).map (·.1)).length = l.length := by rw [List.length_map]; exact markdI_len _ _ _
  rw [hlen] at hva ⊢
  have HV : Hid (∀ t, t < l.length → ∃ b off s, a = some ⟨b, off, none⟩ ∧ b < w.heap.size ∧ CellsI w b (off + t * 5) (mkI (numI k l t) l[t]!.1) s ∧ EntsAt w s (marksE (numI k l t + 4) l[t]!.1.ents.length)) := fun t ht => by
    obtain ⟨b, off, s, h1, h2, h3, h4⟩ := hva t ht
    have e : ((marksI k l).map (·.1))[t]! = mkI (numI k l t) l[t]!.1 := by
      rw [map_fst_at _ _ (by unfold marksI; rw [markdI_len]; exact ht)]
      unfold marksI
      rw [markdI_get _ _ _ _ ht, if_pos ht]
    rw [e] at h3 h4
    exact ⟨b, off, s, h1, h2, h3, h4⟩
  have HNU : Hid (∀ j, j < l.length → numI k l (j + 1) = numI k l j + (4 + 4 * l[j]!.1.ents.length)) := fun j hj => numI_succ k l j hj
  have HNB : Hid (∀ j, j ≤ l.length → 0 < numI k l j ∧ numI k l j ≤ 90000000) := fun j hj => by
    have := numI_mono k l j (l.length - j) (by omega)
    rw [show j + (l.length - j) = l.length by omega] at this
    exact ⟨by unfold numI; omega, by omega⟩
  have HSH : Hid (∀ j, j < l.length → l[j]!.1.ents.length ≤ 1048577) := fun j hj => hsh j hj
  clear hva hlen hsh hk1
  obtain ⟨n, HN⟩ : ∃ n, Hid (n = l.length) := ⟨_, rfl⟩
  rw [← HN.out] at HV HNU HNB HSH hln ⊢
  go_enter Tryz.func39, Tryz.ntmps39
  go_wp2
  go_loopw [1, 5] (fun q i wr => ∃ (j m : Nat), j ≤ n ∧ i = .int .i64 j ∧ q = .int .i64 m ∧ Hid (m = numI k l j) ∧ Below w.heap.size w wr) (fun _ i _ => n - (intOf i).toNat)
  case atStart => exact ⟨0, k, Nat.zero_le _, rfl, rfl, (numI_zero k l).symm, Below.refl _ _⟩
  case round =>
    obtain ⟨j, m, hj, rfl, rfl, HMM, hbel⟩ := hrel
    have hnb := HNB.out j hj
    rw [← HMM.out] at hnb
    obtain ⟨hm0, hm1⟩ := hnb
    by_cases hlt : j < n
    · obtain ⟨b, off, s, rfl, hb, hc, he⟩ := HV.out j hlt
      rw [← HMM.out] at hc he
      have hc1 := hc.below hb hbel
      have k0 := hc1.c0
      have k1 := hc1.c1
      have k2 := hc1.c2
      have k3 := hc1.c3
      dsimp only [mkI] at k0 k1 k2 k3
      have HC4 : Hid (∀ w', Below wr.heap.size wr w' → w'.cell? ⟨b, off + j * 5 + 4, none⟩ = some s) := fun w' hb' => (hc.below hb (hbel.trans (hb'.mono hbel.size))).c4
      have hsl := HSH.out j hlt
      have HHE : Hid (∀ w', Below wr.heap.size wr w' → Calls Tryz.prog 53 #[s, .int .i64 ((m : Int) + 1 + 1 + 1 + 1)] w' fun e w'' => e = .returned (.int .i64 ((m + 4 + 4 * l[j]!.1.ents.length : Nat) : Int)) ∧ Below w'.heap.size w' w'') := fun w' hb' => by
        have := heldEntS_marks s l[j]!.1.ents.length (m + 4) w' hsl (by omega) (by omega) (he.below (hbel.trans (hb'.mono hbel.size)))
        rwa [show (((m + 4 : Nat) : Nat) : Int) = (m : Int) + 1 + 1 + 1 + 1 by omega] at this
      have HNX : Hid (m + 4 + 4 * l[j]!.1.ents.length = numI k l (j + 1)) := by show _ = _; rw [HNU.out j hlt, ← HMM.out]; omega
      generalize l[j]!.1.ents.length = el at hsl HHE HNX
      have HT : ∀ (dd : Nat) (os : Array Obj), Calls Tryz.prog 37 #[.int .i64 ((m : Int) + 1 + 1 + 1)] (grow (redrawn wr dd) os) fun e w'' => e = .returned (.string (mkT (m + 3))) ∧ ∃ p : Regrown, w'' = grow (redrawn wr p.d) p.os := fun dd os => Calls.regrown_of (markText_at ((m : Int) + 1 + 1 + 1) (m + 3) (by omega) _ (by omega) (by omega))
      have q3 := cell_regrown k3
      generalize mkT (m + 3) = tx at k3 q3 HT
      have hj0 : (0 : Int) ≤ (j : Int) := by omega
      have hjn : (j : Int) < (n : Int) := by omega
      have h2 : ((m : Int) + 2 != (m : Int) + 1 + 1) = false := by simp; omega
      clear hc hc1 he
      go_wp2
      refine wp_region_quiet_below (by kernel_rfl) (by kernel_rfl) ?_
      repeat (go_big_quiet_step (exact HT _ _))
      refine wpQuiet_nil ?_
      rintro w' ⟨⟨dq, osq⟩, rfl⟩
      have hbq := below_regrown wr dq osq
      have c4 := HC4.out _ hbq
      have hhe := HHE.out _ hbq
      generalize grow (redrawn wr dq) osq = w4 at hbq c4 hhe ⊢
      go_wp2_with fail
      refine hhe.mono ?_
      rintro e w5 ⟨rfl, b5⟩
      have B5 := (hbel.trans (hbq.mono hbel.size)).trans (b5.mono (Nat.le_trans hbel.size hbq.size))
      have hnn : ¬ (((m + 4 + 4 * el : Nat) : Int) < 0) := by omega
      go_wp2
      go_roundw
      case rel => exact ⟨j + 1, _, by omega, by go_num, rfl, HNX.out, B5⟩
      case measure => simp [intOf]; omega
    · obtain rfl : n = j := by omega
      go_wp2
      go_ret
      exact ⟨by rw [HMM.out]; rfl, hbel⟩

set_option maxRecDepth 100000 in
set_option maxHeartbeats 1000000 in
theorem markVol_any (x : Int) (v : Value) (l : List (Ino × Value)) (k : Nat) (base top : Nat) (w : World) (hv : InoRow w base v l) (ht0 : ∀ q, v.ownBlock = some q → q < top) (ht1 : ∀ t q, t < l.length → l[t]!.2.ownBlock = some q → q < top) (hk0 : 0 < k) (hk1 : numI k l l.length ≤ 90000000) (hsh : ∀ t, t < l.length → l[t]!.1.ents.length ≤ 1048577) :
    Calls Tryz.prog 20 #[.agg #[.int .i64 x, v], .int .i64 k] w fun e w' => e = .returned (.int .i64 (numI k l l.length : Nat)) ∧ InoRow w' base v (marksI k l) ∧ MidB base top w w' := by
  have HM : ∀ w', Below w.heap.size w w' → _ := fun w' b => markInodeS_any v l k base top w' (hv.below b) ht0 ht1 hk0 hk1 hsh
  have hvv := hv.at
  obtain ⟨a, ca, rfl, -, -⟩ := hvv
  generalize (l.map (·.1)).length = m at *
  go_enter Tryz.func20, Tryz.ntmps20
  go_wp2_with fail
  refine (HM _ (below_lit w _)).mono ?_
  rintro e w1 ⟨rfl, r1, b1⟩
  go_wp2
  go_ret
  exact ⟨rfl, r1, (MidB.of_below (below_lit w _)).trans b1⟩

set_option maxRecDepth 100000 in
set_option maxHeartbeats 1000000 in
theorem heldVol_marks (x : Int) (v : Value) (l : List (Ino × Value)) (k : Nat) (w : World) (hv : InosAt w v ((marksI k l).map (·.1))) (hln : l.length ≤ 1048577) (hk0 : 0 < k) (hk1 : numI k l l.length ≤ 90000000) (hsh : ∀ t, t < l.length → l[t]!.1.ents.length ≤ 1048577) :
    Calls Tryz.prog 24 #[.agg #[.int .i64 x, v], .int .i64 k] w fun e w' => e = .returned (.int .i64 (numI k l l.length : Nat)) ∧ Below w.heap.size w w' := by
  have HM : ∀ w', Below w.heap.size w w' → _ := fun w' b => heldInodeS_marks v l k w' (hv.below b) hln hk0 hk1 hsh
  obtain ⟨a, ca, rfl, -, -⟩ := hv
  generalize ((marksI k l).map (·.1)).length = m at *
  generalize numI k l l.length = q at *
  have hq : ¬ ((q : Int) < 0) := by omega
  go_enter Tryz.func24, Tryz.ntmps24
  go_wp2_with fail
  refine (HM _ (below_lit w _)).mono ?_
  rintro e w1 ⟨rfl, b1⟩
  go_wp2
  go_ret
  exact ⟨rfl, (below_lit w _).trans (b1.mono (by simp))⟩
end

end Go.Proofs.YtchcdgkpaipkgaaGreatDoor
