/- Extents, pure: an extent put into its place, and what goes on joined. -/
import Derived.Test.YtkbkanmmpdeokaaRows
import Derived.Test.YtkbkanmmpdeokaaSEe
namespace Go.Proofs.Ytkbkanmmpdeokaa
open Go.RowKit

def gonB (a e : Ex) : Bool := e.p == a.p + a.n && e.b == a.b + a.n
def joinE (a e : Ex) : Ex := ⟨a.p, a.b, a.n + e.n⟩
def joinStep (o : List Ex) (y : Ex) : List Ex := if o ≠ [] ∧ gonB o[o.length - 1]! y = true then o.set (o.length - 1) (joinE o[o.length - 1]! y) else o ++ [y]
def joinUp (R : List Ex) : Nat → List Ex
  | 0 => []
  | k + 1 => joinStep (joinUp R k) R[k]!
theorem step_nil (y : Ex) : joinStep [] y = [y] := by simp [joinStep]
theorem step_snoc (o : List Ex) (r y : Ex) : joinStep (o ++ [r]) y = if gonB r y = true then o ++ [joinE r y] else o ++ [r] ++ [y] := by
  have e : (o ++ [r])[(o ++ [r]).length - 1]! = r := by
    rw [getElem!_pos _ _ (by simp)]
    simp
  unfold joinStep
  rw [e]
  by_cases h : gonB r y = true
  · rw [if_pos ⟨by simp, h⟩, if_pos h, show (o ++ [r]).length - 1 = o.length by simp, List.set_append_right _ _ (Nat.le_refl _)]
    simp
  · rw [if_neg (fun hh => h hh.2), if_neg h]

structure JoinI (R : List Ex) (k : Nat) (o : List Ex) : Prop where
  gap : o.Pairwise ExGap
  one : ∀ r ∈ o, ExOne r
  mem : ∀ i c, ExAt o i c ↔ ExAt (R.take k) i c
  nxt : ∀ r ∈ o, ∀ s ∈ R.drop k, r.p + r.n ≤ s.p
structure InR (R : List Ex) : Prop where
  ord : R.Pairwise fun r s => r.p + r.n ≤ s.p
  one : ∀ r ∈ R, ExOne r
theorem JoinI.start (R : List Ex) : JoinI R 0 [] := ⟨List.Pairwise.nil, fun r h => (by cases h), fun i c => by rw [List.take_zero], fun r h => (by cases h)⟩
theorem JoinI.step {R : List Ex} (hR : InR R) {k : Nat} (hk : k < R.length) {o : List Ex} (h : JoinI R k o) : JoinI R (k + 1) (joinStep o R[k]!) := by
  have hd : R.drop k = R[k]! :: R.drop (k + 1) := by rw [getElem!_pos R k hk]; exact List.drop_eq_getElem_cons hk
  have hym : R[k]! ∈ R := by rw [getElem!_pos R k hk]; exact List.getElem_mem hk
  have ht := ex_take R k hk
  have hrest : ∀ s ∈ R.drop (k + 1), R[k]!.p + R[k]!.n ≤ s.p := by
    have := hR.ord.sublist (List.drop_sublist k R)
    rw [hd] at this
    exact (List.pairwise_cons.1 this).1
  have hnx : ∀ r ∈ o, r.p + r.n ≤ R[k]!.p := fun r hr => h.nxt r hr _ (by rw [hd]; exact List.mem_cons_self ..)
  have hnx2 : ∀ r ∈ o, ∀ s ∈ R.drop (k + 1), r.p + r.n ≤ s.p := fun r hr s hs => h.nxt r hr s (by rw [hd]; exact List.mem_cons_of_mem _ hs)
  have hy1 := hR.one _ hym
  have hmem := h.mem
  generalize R[k]! = y at *
  rcases List.eq_nil_or_concat o with rfl | ⟨o, r, rfl⟩
  · rw [step_nil]
    refine ⟨List.pairwise_singleton _ _, fun r hr => ?_, fun i c => ?_, fun r hr s hs => ?_⟩
    · obtain rfl := List.mem_singleton.1 hr; exact hy1
    · rw [ht, ExAt_append, ← hmem]
      constructor
      · exact .inr
      · rintro (⟨q, hq, _⟩ | h2)
        · cases hq
        · exact h2
    · obtain rfl := List.mem_singleton.1 hr; exact hrest s hs
  · rw [List.concat_eq_append] at *
    have hone := h.one
    obtain ⟨g1, g2, g3⟩ := List.pairwise_append.1 h.gap
    have hr1 := hone r (by simp)
    have hry := hnx r (by simp)
    rw [step_snoc]
    by_cases hg : gonB r y = true
    · rw [if_pos hg]
      have hgg : y.p = r.p + r.n ∧ y.b = r.b + r.n := by simpa [gonB] using hg
      obtain ⟨a1, a2, a3, a4, a5⟩ := hr1
      obtain ⟨b1, b2, b3, b4, b5⟩ := hy1
      refine ⟨List.pairwise_append.2 ⟨g1, List.pairwise_singleton _ _, fun q hq s hs => ?_⟩, fun q hq => ?_, fun i c => ?_, fun q hq s hs => ?_⟩
      · obtain rfl := List.mem_singleton.1 hs
        have := g3 q hq r (by simp)
        exact ⟨this.1, fun e => this.2 e⟩
      · rcases List.mem_append.1 hq with hq | hq
        · exact hone q (List.mem_append_left _ hq)
        · obtain rfl := List.mem_singleton.1 hq
          unfold joinE
          exact ⟨a1, by dsimp only; omega, by dsimp only; omega, a4, by dsimp only; omega⟩
      · rw [ht, ExAt_append, ExAt_append, ← hmem, ExAt_append]
        have e1 : ExAt [joinE r y] i c ↔ ExAt [r] i c ∨ ExAt [y] i c := by
          simp only [ExAt, List.mem_singleton, exists_eq_left, joinE]
          constructor
          · rintro ⟨h1, h2, h3⟩
            by_cases h4 : i < r.p + r.n
            · left; omega
            · right; omega
          · rintro (⟨h1, h2, h3⟩ | ⟨h1, h2, h3⟩)
            · omega
            · omega
        rw [e1]
        exact (or_assoc).symm
      · rcases List.mem_append.1 hq with hq | hq
        · exact hnx2 q (List.mem_append_left _ hq) s hs
        · obtain rfl := List.mem_singleton.1 hq
          have := hrest s hs
          unfold joinE
          dsimp only; omega
    · rw [if_neg hg]
      have hgg : ¬ (y.p = r.p + r.n ∧ y.b = r.b + r.n) := by simpa [gonB] using hg
      refine ⟨List.pairwise_append.2 ⟨h.gap, List.pairwise_singleton _ _, fun q hq s hs => ?_⟩, fun q hq => ?_, fun i c => ?_, fun q hq s hs => ?_⟩
      · obtain rfl := List.mem_singleton.1 hs
        refine ⟨hnx q hq, fun e => ?_⟩
        rcases List.mem_append.1 hq with hq | hq
        · have := (g3 q hq r (by simp)).1
          have := hr1.2.1
          omega
        · obtain rfl := List.mem_singleton.1 hq
          exact hgg ⟨e.1.symm, e.2⟩
      · rcases List.mem_append.1 hq with hq | hq
        · exact hone q hq
        · obtain rfl := List.mem_singleton.1 hq; exact hy1
      · rw [ht, ExAt_append, ExAt_append (R.take k), hmem]
      · rcases List.mem_append.1 hq with hq | hq
        · exact hnx2 q hq s hs
        · obtain rfl := List.mem_singleton.1 hq; exact hrest s hs
theorem joinUp_is {R : List Ex} (hR : InR R) : ∀ k, k ≤ R.length → JoinI R k (joinUp R k)
  | 0, _ => JoinI.start R
  | k + 1, hk => (joinUp_is hR k (by omega)).step hR (by omega)

/-- where it stands -/
def insAt (l : List Ex) (x : Ex) : Nat := l.findIdx fun y => decide (x.p < y.p)
def insN (l : List Ex) (x : Ex) : List Ex := l.take (insAt l x) ++ x :: l.drop (insAt l x)
theorem insAt_le (l : List Ex) (x : Ex) : insAt l x ≤ l.length := List.findIdx_le_length
theorem insN_at (l : List Ex) (x : Ex) (i c : Int) : ExAt (insN l x) i c ↔ ExAt l i c ∨ ExAt [x] i c := by
  unfold insN
  rw [ExAt_append, ExAt_cons]
  have e : ExAt l i c ↔ ExAt (l.take (insAt l x)) i c ∨ ExAt (l.drop (insAt l x)) i c := by rw [← ExAt_append, List.take_append_drop]
  rw [e]
  have e2 : ExAt [x] i c ↔ (x.p ≤ i ∧ i < x.p + x.n ∧ c = x.b + (i - x.p)) := by simp [ExAt]
  rw [e2]
  constructor
  · rintro (h | h | h)
    · exact .inl (.inl h)
    · exact .inr h
    · exact .inl (.inr h)
  · rintro ((h | h) | h)
    · exact .inl h
    · exact .inr (.inr h)
    · exact .inr (.inl h)
theorem insN_in {l : List Ex} (h : ExR l) {i b : Int} (hp : putOk l i b) : InR (insN l ⟨i, b, 1⟩) := by
  obtain ⟨p1, p2, p3, p4⟩ := hp
  have hle := insAt_le l ⟨i, b, 1⟩
  have hfx : insAt l ⟨i, b, 1⟩ = l.findIdx (fun y : Ex => decide (i < y.p)) := rfl
  have hmt : ∀ r ∈ l.take (insAt l ⟨i, b, 1⟩), r ∈ l ∧ r.p ≤ i := fun r hr => by
    obtain ⟨t, ht, rfl⟩ := List.getElem_of_mem hr
    rw [List.length_take] at ht
    rw [List.getElem_take]
    have := List.not_of_lt_findIdx (p := fun y : Ex => decide (i < y.p)) (xs := l) (i := t) (by rw [hfx] at ht; omega)
    exact ⟨List.getElem_mem _, by simpa using this⟩
  have hne : ∀ r ∈ l, r.p + r.n ≤ i ∨ i < r.p := fun r hr => by
    by_cases e : r.p ≤ i
    · left
      apply Classical.byContradiction
      intro hc
      exact p2 _ ⟨r, hr, e, by omega, rfl⟩
    · right; omega
  have hmd : ∀ r ∈ l.drop (insAt l ⟨i, b, 1⟩), r ∈ l ∧ i + 1 ≤ r.p := fun r hr => by
    have hrl : r ∈ l := List.mem_of_mem_drop hr
    refine ⟨hrl, ?_⟩
    by_cases e0 : insAt l ⟨i, b, 1⟩ < l.length
    · have e1 : i < l[insAt l ⟨i, b, 1⟩].p := by
        have := List.findIdx_getElem (p := fun y : Ex => decide (i < y.p)) (xs := l) (w := e0)
        exact of_decide_eq_true this
      rw [List.drop_eq_getElem_cons e0] at hr
      have hpw := h.gap.sublist (List.drop_sublist (insAt l ⟨i, b, 1⟩) l)
      rw [List.drop_eq_getElem_cons e0] at hpw
      rcases List.mem_cons.1 hr with rfl | hr
      · omega
      · have g := ((List.pairwise_cons.1 hpw).1 r hr).1
        have := (h.one _ (List.getElem_mem e0)).2.1
        omega
    · rw [List.drop_of_length_le (by omega)] at hr; cases hr
  have hgap : l.Pairwise fun r s => r.p + r.n ≤ s.p := h.gap.imp fun h => h.1
  unfold insN
  refine ⟨List.pairwise_append.2 ⟨hgap.sublist (List.take_sublist _ _), List.pairwise_cons.2 ⟨fun r hr => ?_, hgap.sublist (List.drop_sublist _ _)⟩, fun r hr s hs => ?_⟩, fun r hr => ?_⟩
  · have := (hmd r hr).2; dsimp only; omega
  · obtain ⟨q1, q2⟩ := hmt r hr
    have q3 : r.p + r.n ≤ i := by rcases hne r q1 with e | e <;> omega
    rcases List.mem_cons.1 hs with rfl | hs
    · exact q3
    · have := (hmd s hs).2; omega
  · rcases List.mem_append.1 hr with hr | hr
    · exact h.one r (hmt r hr).1
    · rcases List.mem_cons.1 hr with rfl | hr
      · exact ⟨by dsimp only; omega, by dsimp only; omega, by dsimp only; omega, by dsimp only; omega, by dsimp only; omega⟩
      · exact h.one r (hmd r hr).1
theorem putN_join {l : List Ex} (h : ExR l) {i b : Int} (hp : putOk l i b) : putN l i b = joinUp (insN l ⟨i, b, 1⟩) (insN l ⟨i, b, 1⟩).length := by
  obtain ⟨h1, h2⟩ := putM_ok h hp
  have hJ := joinUp_is (insN_in h hp) _ (Nat.le_refl _)
  rw [(putN_yes h hp).1]
  refine ex_uniq _ _ h1.g ⟨hJ.gap, fun r hr => (hJ.one r hr).2.1⟩ fun j c => ?_
  rw [h2, hJ.mem, List.take_length, insN_at]
  have e2 : ExAt [(⟨i, b, 1⟩ : Ex)] j c ↔ (j = i ∧ c = b) := by
    simp [ExAt]; omega
  rw [e2]
end Go.Proofs.Ytkbkanmmpdeokaa
