/- Extents, pure: right, one extent more; cut; all blocks. -/
import Derived.Test.YtkbkanmmpdeokaaRows
import Derived.Test.YtkbkanmmpdeokaaExU
namespace Go.Proofs.Ytkbkanmmpdeokaa
open Go.RowKit

/-- one extent, by itself -/
def ExOne (x : Ex) : Prop := 0 ≤ x.p ∧ 1 ≤ x.n ∧ x.p + x.n ≤ 12 ∧ 0 ≤ x.b ∧ x.b + x.n ≤ 24
theorem ExR.nil : ExR [] := ⟨List.Pairwise.nil, fun r h => (by cases h), fun i j c ⟨r, h, _⟩ => (by cases h)⟩
theorem ExR.init {l m : List Ex} (h : ExR (l ++ m)) : ExR l :=
  ⟨(List.pairwise_append.1 h.gap).1, fun r hr => h.one r (List.mem_append_left _ hr), fun i j c h1 h2 => h.own i j c ((ExAt_append _ _ _ _).2 (.inl h1)) ((ExAt_append _ _ _ _).2 (.inl h2))⟩
theorem exR_snoc (l : List Ex) (x : Ex) : ExR (l ++ [x]) ↔ ExR l ∧ ExOne x ∧ (∀ r, l.getLast? = some r → ExGap r x) ∧ ∀ k, x.b ≤ k → k < x.b + x.n → ∀ i, ¬ ExAt l i k := by
  constructor
  · intro h
    have hx := h.one x (by simp)
    refine ⟨h.init, hx, fun r hr => ?_, fun k h1 h2 i hi => ?_⟩
    · exact (List.pairwise_append.1 h.gap).2.2 r (List.mem_of_getLast? hr) x (by simp)
    · have e := h.own i (x.p + (k - x.b)) k ((ExAt_append _ _ _ _).2 (.inl hi)) ((ExAt_append _ _ _ _).2 (.inr ⟨x, by simp, by omega, by omega, by omega⟩))
      obtain ⟨r, hr, g1, g2, g3⟩ := hi
      have := ((List.pairwise_append.1 h.gap).2.2 r hr x (by simp)).1
      omega
  · rintro ⟨h, hx, hl, hu⟩
    obtain ⟨x0, x1, x2, x3, x4⟩ := hx
    have hg : ∀ r ∈ l, ExGap r x := fun r hr => by
      rcases List.eq_nil_or_concat l with rfl | ⟨t, y, rfl⟩
      · cases hr
      · rw [List.concat_eq_append] at *
        have hy := hl y (by simp)
        rcases List.mem_append.1 hr with hr | hr
        · have h1 := (List.pairwise_append.1 h.gap).2.2 r hr y (by simp)
          have h2 := h.one y (by simp)
          obtain ⟨a1, a2⟩ := h1
          obtain ⟨b1, b2⟩ := hy
          exact ⟨by omega, fun e => by omega⟩
        · obtain rfl := List.mem_singleton.1 hr
          exact hy
    refine ⟨List.pairwise_append.2 ⟨h.gap, List.pairwise_singleton _ _, fun r hr q hq => by rw [List.mem_singleton.1 hq]; exact hg r hr⟩, fun r hr => ?_, fun i j c h1 h2 => ?_⟩
    · rcases List.mem_append.1 hr with hr | hr
      · exact h.one r hr
      · rw [List.mem_singleton.1 hr]; exact ⟨x0, x1, x2, x3, x4⟩
    · have one : ∀ i, ExAt [x] i c → x.p ≤ i ∧ i < x.p + x.n ∧ c = x.b + (i - x.p) := fun i ⟨r, hr, q⟩ => by rw [List.mem_singleton.1 hr] at q; exact q
      rcases (ExAt_append _ _ _ _).1 h1 with h1 | h1 <;> rcases (ExAt_append _ _ _ _).1 h2 with h2 | h2
      · exact h.own i j c h1 h2
      · have := one j h2
        exact absurd h1 (hu c (by omega) (by omega) i)
      · have := one i h1
        exact absurd h2 (hu c (by omega) (by omega) j)
      · have a := one i h1
        have b := one j h2
        omega

/-- without the file blocks from n on -/
def cutM (l : List Ex) (n : Int) : List Int := (List.range 12).map fun j : Nat => if n ≤ (j : Int) then -1 else (exM l)[j]!
theorem cutM_get (l : List Ex) (n : Int) (j : Nat) (h : j < 12) : (cutM l n)[j]! = if n ≤ (j : Int) then -1 else (exM l)[j]! := by
  rw [getElem!_pos _ j (by simpa [cutM] using h)]
  simp [cutM]
theorem cutM_len (l : List Ex) (n : Int) : (cutM l n).length = 12 := by simp [cutM]
theorem cutM_ok {l : List Ex} (h : ExR l) (n : Int) : ExR (extsN (cutM l n)) ∧ ∀ j c, ExAt (extsN (cutM l n)) j c ↔ ExAt l j c ∧ j < n := by
  have hpos : ∀ j : Nat, j < 12 → 0 ≤ (cutM l n)[j]! → (j : Int) < n ∧ (cutM l n)[j]! = (exM l)[j]! := fun j hj h0 => by
    rw [cutM_get l n j hj] at h0 ⊢
    by_cases e : n ≤ (j : Int)
    · rw [if_pos e] at h0; omega
    · rw [if_neg e]; exact ⟨by omega, rfl⟩
  obtain ⟨hr, ha⟩ := extsN_right (cutM_len l n) (fun k => by
    by_cases hk : k < 12
    · rw [cutM_get l n k hk]
      split
      · omega
      · exact exM_lt h k
    · rw [getElem!_neg _ k (by rw [cutM_len]; exact hk)]; decide) (fun j k hj hk h0 e => by
    obtain ⟨-, a⟩ := hpos j hj h0
    obtain ⟨-, b⟩ := hpos k hk (by omega)
    exact exM_own h j k hj hk (by omega) (by omega))
  refine ⟨hr, fun j c => ?_⟩
  rw [ha]
  constructor
  · rintro ⟨k, rfl, hk, rfl, h0⟩
    obtain ⟨a, b⟩ := hpos k hk h0
    exact ⟨(exM_iff h k hk _).2 ⟨b.symm, h0⟩, a⟩
  · rintro ⟨hc, hn⟩
    have hb := h.bd hc
    have hi : j = ((j.toNat : Nat) : Int) := by omega
    rw [hi] at hc
    obtain ⟨e, h0⟩ := (exM_iff h j.toNat (by omega) c).1 hc
    exact ⟨j.toNat, hi, by omega, by rw [cutM_get l n _ (by omega), if_neg (by omega), e], h0⟩

/-- rows that rise strictly are told by what is in them -/
theorem rise_uniq {α : Type} (R : α → α → Prop) (irr : ∀ x, ¬ R x x) (tr : ∀ x y z, R x y → R y z → R x z) : ∀ (l m : List α), l.Pairwise R → m.Pairwise R → (∀ x, x ∈ l ↔ x ∈ m) → l = m
  | [], [], _, _, _ => rfl
  | [], y :: m, _, _, h => by have := (h y).2 (by simp); cases this
  | x :: l, [], _, _, h => by have := (h x).1 (by simp); cases this
  | x :: l, y :: m, hl, hm, h => by
    have h1 := List.pairwise_cons.1 hl
    have h2 := List.pairwise_cons.1 hm
    have e : x = y := by
      rcases List.mem_cons.1 ((h x).1 (by simp)) with e | e
      · exact e
      · rcases List.mem_cons.1 ((h y).2 (by simp)) with e2 | e2
        · exact e2.symm
        · exact absurd (tr _ _ _ (h2.1 x e) (h1.1 y e2)) (irr _)
    subst e
    congr 1
    refine rise_uniq R irr tr l m h1.2 h2.2 fun z => ?_
    constructor
    · intro hz
      rcases List.mem_cons.1 ((h z).1 (List.mem_cons_of_mem _ hz)) with e | e
      · subst e; exact absurd (h1.1 z hz) (irr _)
      · exact e
    · intro hz
      rcases List.mem_cons.1 ((h z).2 (List.mem_cons_of_mem _ hz)) with e | e
      · subst e; exact absurd (h2.1 z hz) (irr _)
      · exact e
/-- where all file blocks are, by file block rising -/
def pairsN (l : List Ex) : List (Int × Int) := l.flatMap fun r => (List.range r.n.toNat).map fun k : Nat => (r.p + k, r.b + k)
theorem pairs_mem (l : List Ex) (i c : Int) : (i, c) ∈ pairsN l ↔ ExAt l i c := by
  unfold pairsN ExAt
  rw [List.mem_flatMap]
  constructor
  · rintro ⟨r, hr, h⟩
    obtain ⟨k, hk, e⟩ := List.mem_map.1 h
    rw [List.mem_range] at hk
    cases e
    exact ⟨r, hr, by omega, by omega, by omega⟩
  · rintro ⟨r, hr, h1, h2, h3⟩
    refine ⟨r, hr, List.mem_map.2 ⟨(i - r.p).toNat, List.mem_range.2 (by omega), ?_⟩⟩
    rw [Prod.mk.injEq]
    omega
theorem pairs_rise {l : List Ex} (h : ExG l) : (pairsN l).Pairwise fun x y => x.1 < y.1 := by
  induction l with
  | nil => exact List.Pairwise.nil
  | cons r t ih =>
    unfold pairsN at ih ⊢
    rw [List.flatMap_cons, List.pairwise_append]
    refine ⟨?_, ih h.tail, fun x hx y hy => ?_⟩
    · rw [List.pairwise_map]
      exact List.pairwise_lt_range.imp fun h => by dsimp only; omega
    · obtain ⟨k, hk, rfl⟩ := List.mem_map.1 hx
      rw [List.mem_range] at hk
      have := (h.behind ((pairs_mem t y.1 y.2).1 hy)).1
      dsimp only; omega
/-- the blocks that go -/
def goneN (l : List Ex) (n : Int) : List Int := ((pairsN l).filter fun x => decide (n ≤ x.1)).map (·.2)
/-- all blocks, rising -/
def blocksE (l : List Ex) : List Int := ((List.range 24).filter fun c : Nat => (exM l).contains (c : Int)).map fun c : Nat => (c : Int)
end Go.Proofs.Ytkbkanmmpdeokaa
