/- Extents, pure: right extents are told by where each file block is. -/
import Derived.Test.YtkbkanmmpdeokaaRows
import Derived.Test.YtkbkanmmpdeokaaNum
namespace Go.Proofs.Ytkbkanmmpdeokaa
open Go.RowKit

structure Ex where
  p : Int
  b : Int
  n : Int
  deriving DecidableEq, Inhabited

/-- file block i is at block c -/
def ExAt (l : List Ex) (i c : Int) : Prop := ∃ r ∈ l, r.p ≤ i ∧ i < r.p + r.n ∧ c = r.b + (i - r.p)
/-- one behind the other, and not to be joined -/
def ExGap (r s : Ex) : Prop := r.p + r.n ≤ s.p ∧ ¬ (r.p + r.n = s.p ∧ s.b = r.b + r.n)
structure ExR (l : List Ex) : Prop where
  gap : l.Pairwise ExGap
  one : ∀ r ∈ l, 0 ≤ r.p ∧ 1 ≤ r.n ∧ r.p + r.n ≤ 12 ∧ 0 ≤ r.b ∧ r.b + r.n ≤ 24
  own : ∀ i j c, ExAt l i c → ExAt l j c → i = j

theorem ExAt_cons (r : Ex) (l : List Ex) (i c : Int) : ExAt (r :: l) i c ↔ (r.p ≤ i ∧ i < r.p + r.n ∧ c = r.b + (i - r.p)) ∨ ExAt l i c := by simp [ExAt]
theorem ExAt_append (l m : List Ex) (i c : Int) : ExAt (l ++ m) i c ↔ ExAt l i c ∨ ExAt m i c := by
  simp [ExAt, or_and_right, exists_or]
/-- the part of being right that tells them apart -/
structure ExG (l : List Ex) : Prop where
  gap : l.Pairwise ExGap
  one : ∀ r ∈ l, 1 ≤ r.n
theorem ExG.tail {r : Ex} {l : List Ex} (h : ExG (r :: l)) : ExG l := ⟨(List.pairwise_cons.1 h.gap).2, fun s hs => h.one s (List.mem_cons_of_mem _ hs)⟩
theorem ExR.g {l : List Ex} (h : ExR l) : ExG l := ⟨h.gap, fun r hr => (h.one r hr).2.1⟩
theorem ExG.behind {r : Ex} {l : List Ex} (h : ExG (r :: l)) {i c : Int} (hc : ExAt l i c) : r.p + r.n ≤ i ∧ ¬ (i = r.p + r.n ∧ c = r.b + r.n) := by
  obtain ⟨s, hs, h1, h2, h3⟩ := hc
  have := (List.pairwise_cons.1 h.gap).1 s hs
  obtain ⟨g1, g2⟩ := this
  refine ⟨by omega, fun ⟨e1, e2⟩ => g2 ⟨by omega, ?_⟩⟩
  omega
theorem ex_uniq : ∀ (l m : List Ex), ExG l → ExG m → (∀ i c, ExAt l i c ↔ ExAt m i c) → l = m
  | [], [], _, _, _ => rfl
  | [], s :: m, _, hm, h => by
    have h1 := hm.one s (by simp)
    obtain ⟨r, hr, _⟩ := (h s.p s.b).2 ((ExAt_cons _ _ _ _).2 (.inl (by omega)))
    cases hr
  | r :: l, [], hl, _, h => by
    have h1 := hl.one r (by simp)
    obtain ⟨s, hs, _⟩ := (h r.p r.b).1 ((ExAt_cons _ _ _ _).2 (.inl (by omega)))
    cases hs
  | r :: l, s :: m, hl, hm, h => by
    have h1 := hl.one r (by simp)
    have h2 := hm.one s (by simp)
    have low : ∀ i c, ExAt (r :: l) i c → r.p ≤ i := fun i c hc => by
      rcases (ExAt_cons _ _ _ _).1 hc with hc | hc
      · omega
      · have := (hl.behind hc).1; omega
    have low' : ∀ i c, ExAt (s :: m) i c → s.p ≤ i := fun i c hc => by
      rcases (ExAt_cons _ _ _ _).1 hc with hc | hc
      · omega
      · have := (hm.behind hc).1; omega
    have ea : r.p = s.p := by
      have a1 := low' _ _ ((h r.p r.b).1 ((ExAt_cons _ _ _ _).2 (.inl (by omega))))
      have a2 := low _ _ ((h s.p s.b).2 ((ExAt_cons _ _ _ _).2 (.inl (by omega))))
      omega
    have eb : r.b = s.b := by
      rcases (ExAt_cons _ _ _ _).1 ((h r.p r.b).1 ((ExAt_cons _ _ _ _).2 (.inl (by omega)))) with hc | hc
      · omega
      · have := (hm.behind hc).1; omega
    have en : r.n = s.n := by
      rcases Int.lt_trichotomy r.n s.n with e | e | e
      · exfalso
        rcases (ExAt_cons _ _ _ _).1 ((h (r.p + r.n) (r.b + r.n)).2 ((ExAt_cons _ _ _ _).2 (.inl (by omega)))) with hc | hc
        · omega
        · exact (hl.behind hc).2 ⟨rfl, rfl⟩
      · exact e
      · exfalso
        rcases (ExAt_cons _ _ _ _).1 ((h (s.p + s.n) (s.b + s.n)).1 ((ExAt_cons _ _ _ _).2 (.inl (by omega)))) with hc | hc
        · omega
        · exact (hm.behind hc).2 ⟨rfl, rfl⟩
    have e : r = s := by cases r; cases s; simp_all
    subst e
    congr 1
    refine ex_uniq l m hl.tail hm.tail fun i c => ?_
    constructor
    · intro hc
      have hb := (hl.behind hc).1
      rcases (ExAt_cons _ _ _ _).1 ((h i c).1 ((ExAt_cons _ _ _ _).2 (.inr hc))) with hd | hd
      · omega
      · exact hd
    · intro hc
      have hb := (hm.behind hc).1
      rcases (ExAt_cons _ _ _ _).1 ((h i c).2 ((ExAt_cons _ _ _ _).2 (.inr hc))) with hd | hd
      · omega
      · exact hd

/-- the extents of a map of blocks, the last one first -/
def extStep (o : List Ex) (i : Int) (c : Int) : List Ex :=
  if c < 0 then o else
  match o with
  | r :: t => if r.p + r.n = i ∧ r.b + r.n = c then { r with n := r.n + 1 } :: t else ⟨i, c, 1⟩ :: r :: t
  | [] => [⟨i, c, 1⟩]
def extsUp (m : List Int) : Nat → List Ex
  | 0 => []
  | k + 1 => extStep (extsUp m k) k m[k]!
def extsN (m : List Int) : List Ex := (extsUp m m.length).reverse
/-- what stands behind the first k file blocks -/
structure ExtI (m : List Int) (k : Nat) (o : List Ex) : Prop where
  gap : o.Pairwise fun s r => ExGap r s
  one : ∀ r ∈ o, 0 ≤ r.p ∧ 1 ≤ r.n ∧ r.p + r.n ≤ k ∧ 0 ≤ r.b ∧ r.b + r.n ≤ 24
  mem : ∀ i c, ExAt o i c ↔ ∃ j : Nat, i = j ∧ j < k ∧ c = m[j]! ∧ 0 ≤ c
theorem ExtI.start (m : List Int) : ExtI m 0 [] :=
  ⟨List.Pairwise.nil, fun r h => (by cases h), fun i c => ⟨fun ⟨r, h, _⟩ => (by cases h), fun ⟨j, _, h, _⟩ => (by omega)⟩⟩
theorem ExtI.step {m : List Int} {k : Nat} {o : List Ex} (h : ExtI m k o) (hm : m[k]! < 24) : ExtI m (k + 1) (extStep o k m[k]!) := by
  have new : ∀ i c : Int, (∃ j : Nat, i = j ∧ j < k + 1 ∧ c = m[j]! ∧ 0 ≤ c) ↔ ((∃ j : Nat, i = j ∧ j < k ∧ c = m[j]! ∧ 0 ≤ c) ∨ (i = k ∧ c = m[k]! ∧ 0 ≤ c)) := fun i c => by
    constructor
    · rintro ⟨j, h1, h2, h3, h4⟩
      by_cases e : j = k
      · subst e; exact .inr ⟨h1, h3, h4⟩
      · exact .inl ⟨j, h1, by omega, h3, h4⟩
    · rintro (⟨j, h1, h2, h3, h4⟩ | ⟨h1, h3, h4⟩)
      · exact ⟨j, h1, by omega, h3, h4⟩
      · exact ⟨k, h1, by omega, h3, h4⟩
  have hone := h.one
  generalize hc : m[k]! = x at *
  unfold extStep
  by_cases hx : x < 0
  · rw [if_pos hx]
    refine ⟨h.gap, fun r hr => by have := hone r hr; omega, fun i c => ?_⟩
    rw [h.mem, new]
    constructor
    · exact .inl
    · rintro (h1 | ⟨-, h3, h4⟩)
      · exact h1
      · omega
  · rw [if_neg hx]
    cases o with
    | nil =>
      refine ⟨List.pairwise_singleton _ _, fun r hr => ?_, fun i c => ?_⟩
      · obtain rfl := List.mem_singleton.1 hr
        dsimp only; omega
      · dsimp only
        rw [new, ← h.mem, ExAt_cons]
        dsimp only
        constructor
        · rintro (h1 | h1)
          · exact .inr (by omega)
          · exact .inl h1
        · rintro (h1 | h1)
          · exact .inr h1
          · exact .inl (by omega)
    | cons r t =>
      have hr := hone r (List.mem_cons_self ..)
      have hg := List.pairwise_cons.1 h.gap
      dsimp only
      by_cases hj : r.p + r.n = k ∧ r.b + r.n = x
      · rw [if_pos hj]
        refine ⟨List.pairwise_cons.2 ⟨fun q hq => hg.1 q hq, hg.2⟩, fun q hq => ?_, fun i c => ?_⟩
        · rcases List.mem_cons.1 hq with rfl | hq
          · dsimp only; omega
          · have := hone q (List.mem_cons_of_mem _ hq); omega
        · rw [new, ← h.mem, ExAt_cons, ExAt_cons]
          dsimp only
          constructor
          · rintro (h1 | h1)
            · by_cases e : i < r.p + r.n
              · exact .inl (.inl (by omega))
              · exact .inr (by omega)
            · exact .inl (.inr h1)
          · rintro ((h1 | h1) | h1)
            · exact .inl (by omega)
            · exact .inr h1
            · exact .inl (by omega)
      · rw [if_neg hj]
        refine ⟨List.pairwise_cons.2 ⟨fun q hq => ?_, h.gap⟩, fun q hq => ?_, fun i c => ?_⟩
        · have hq1 := hone q hq
          rcases List.mem_cons.1 hq with rfl | hq2
          · refine ⟨by dsimp only; omega, ?_⟩
            dsimp only
            exact fun ⟨e1, e2⟩ => hj ⟨e1, e2.symm⟩
          · have h2 := hg.1 q hq2
            refine ⟨by dsimp only; omega, ?_⟩
            dsimp only
            rintro ⟨e1, -⟩
            have := h2.1
            omega
        · rcases List.mem_cons.1 hq with rfl | hq
          · dsimp only; omega
          · have := hone q hq; omega
        · rw [new, ← h.mem, ExAt_cons]
          dsimp only
          constructor
          · rintro (h1 | h1)
            · exact .inr (by omega)
            · exact .inl h1
          · rintro (h1 | h1)
            · exact .inr h1
            · exact .inl (by omega)
theorem extsUp_is (m : List Int) (hm : ∀ k : Nat, m[k]! < 24) : ∀ k, ExtI m k (extsUp m k)
  | 0 => ExtI.start m
  | k + 1 => (extsUp_is m hm k).step (hm k)
theorem ExAt_reverse (l : List Ex) (i c : Int) : ExAt l.reverse i c ↔ ExAt l i c := by simp [ExAt]
/-- what the extents of a map of blocks are -/
theorem extsN_right {m : List Int} (hl : m.length = 12) (hm : ∀ k : Nat, m[k]! < 24) (hd : ∀ j k : Nat, j < 12 → k < 12 → 0 ≤ m[j]! → m[j]! = m[k]! → j = k) :
    ExR (extsN m) ∧ ∀ i c, ExAt (extsN m) i c ↔ ∃ j : Nat, i = j ∧ j < 12 ∧ c = m[j]! ∧ 0 ≤ c := by
  have h := extsUp_is m hm m.length
  have hat : ∀ i c, ExAt (extsN m) i c ↔ ∃ j : Nat, i = j ∧ j < 12 ∧ c = m[j]! ∧ 0 ≤ c := fun i c => by
    unfold extsN
    rw [ExAt_reverse, h.mem, hl]
  refine ⟨⟨List.pairwise_reverse.2 h.gap, fun r hr => ?_, fun i j c h1 h2 => ?_⟩, hat⟩
  · have := h.one r (List.mem_reverse.1 hr)
    rw [hl] at this
    omega
  · obtain ⟨a, rfl, ha, hca, h0⟩ := (hat _ _).1 h1
    obtain ⟨b, rfl, hb, hcb, -⟩ := (hat _ _).1 h2
    rw [hd a b ha hb (by omega) (by omega)]
/-- the map of right extents -/
def exM (l : List Ex) : List Int := (List.range 12).map fun i : Nat =>
  match l.find? fun r => decide (r.p ≤ (i : Int) ∧ (i : Int) < r.p + r.n) with
  | some r => r.b + (i - r.p)
  | none => -1
theorem exM_len (l : List Ex) : (exM l).length = 12 := by simp [exM]
theorem exM_some {l : List Ex} (h : ExG l) {i : Nat} (hi : i < 12) {c : Int} (hc : ExAt l i c) : (exM l)[i]! = c := by
  rw [getElem!_pos _ i (by rw [exM_len]; exact hi)]
  unfold exM
  rw [List.getElem_map, List.getElem_range]
  induction l with
  | nil => obtain ⟨r, hr, _⟩ := hc; cases hr
  | cons r t ih =>
    rw [List.find?_cons]
    by_cases e : r.p ≤ (i : Int) ∧ (i : Int) < r.p + r.n
    · rw [decide_eq_true e]
      rcases (ExAt_cons _ _ _ _).1 hc with hd | hd
      · exact hd.2.2.symm
      · have := (h.behind hd).1; omega
    · rw [decide_eq_false e]
      rcases (ExAt_cons _ _ _ _).1 hc with hd | hd
      · exact absurd ⟨hd.1, hd.2.1⟩ e
      · exact ih h.tail hd
theorem exM_none {l : List Ex} {i : Nat} (hi : i < 12) (hc : ∀ c, ¬ ExAt l i c) : (exM l)[i]! = -1 := by
  rw [getElem!_pos _ i (by rw [exM_len]; exact hi)]
  unfold exM
  rw [List.getElem_map, List.getElem_range]
  have : l.find? (fun r => decide (r.p ≤ (i : Int) ∧ (i : Int) < r.p + r.n)) = none := by
    rw [List.find?_eq_none]
    intro r hr hd
    have hd := of_decide_eq_true hd
    exact hc _ ⟨r, hr, hd.1, hd.2, rfl⟩
  rw [this]
end Go.Proofs.Ytkbkanmmpdeokaa
