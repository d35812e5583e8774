/- A bitmap, pure: its free runs; right runs are told by what is in them. -/
import Derived.Test.YtkbkanmmpdeokaaRows
import Derived.Test.YtkbkanmmpdeokaaNum
namespace Go.Proofs.Ytkbkanmmpdeokaa
open Go.RowKit

structure Rn where
  p : Int
  n : Int
  deriving DecidableEq, Inhabited

/-- one flag more: where the run under way begins, and the runs so far -/
def runStep (b : List Bool) (s : Nat × List Rn) (i : Nat) : Nat × List Rn :=
  if i < b.length ∧ b[i]! = false then s else (i + 1, if s.1 < i then s.2 ++ [⟨s.1, (i : Int) - s.1⟩] else s.2)
def runsUp (b : List Bool) : Nat → Nat × List Rn
  | 0 => (0, [])
  | k + 1 => runStep b (runsUp b k) k
def runsN (b : List Bool) : List Rn := if b.length = 24 then (runsUp b 25).2 else []
def RnIn (l : List Rn) (c : Int) : Prop := ∃ r ∈ l, r.p ≤ c ∧ c < r.p + r.n
structure RnR (l : List Rn) : Prop where
  gap : l.Pairwise fun r s => r.p + r.n < s.p
  one : ∀ r ∈ l, 0 ≤ r.p ∧ 1 ≤ r.n ∧ r.p + r.n ≤ 24
/-- what stands behind the first k flags -/
structure RunI (b : List Bool) (k : Nat) (s : Nat × List Rn) : Prop where
  gap : s.2.Pairwise fun r q => r.p + r.n < q.p
  one : ∀ r ∈ s.2, 0 ≤ r.p ∧ 1 ≤ r.n ∧ r.p + r.n < s.1 ∧ r.p + r.n ≤ b.length
  le : s.1 ≤ k
  free : ∀ j : Nat, s.1 ≤ j → j < k → j < b.length → b[j]! = false
  mem : ∀ c, RnIn s.2 c ↔ ∃ j : Nat, c = j ∧ j < s.1 ∧ j < b.length ∧ b[j]! = false
theorem RunI.start (b : List Bool) : RunI b 0 (0, []) :=
  ⟨List.Pairwise.nil, fun r h => (by cases h), Nat.le_refl _, fun j h1 h2 => (by omega), fun c => ⟨fun ⟨r, h, _⟩ => (by cases h), fun ⟨j, _, h, _⟩ => (by simp at h)⟩⟩
theorem RnIn_append (l m : List Rn) (c : Int) : RnIn (l ++ m) c ↔ RnIn l c ∨ RnIn m c := by
  simp [RnIn, or_and_right, exists_or]
theorem RnIn_one (r : Rn) (c : Int) : RnIn [r] c ↔ r.p ≤ c ∧ c < r.p + r.n := by simp [RnIn]
theorem RunI.step {b : List Bool} {k : Nat} {s : Nat × List Rn} (h : RunI b k s) (hk : k ≤ b.length) : RunI b (k + 1) (runStep b s k) := by
  unfold runStep
  by_cases e : k < b.length ∧ b[k]! = false
  · rw [if_pos e]
    refine ⟨h.gap, h.one, by have := h.le; omega, fun j h1 h2 h3 => ?_, h.mem⟩
    by_cases ej : j = k
    · rw [ej]; exact e.2
    · exact h.free j h1 (by omega) h3
  · rw [if_neg e]
    have hle := h.le
    have hset : k < b.length → b[k]! = true := fun hk => by
      cases hb : b[k]! with
      | true => rfl
      | false => exact absurd ⟨hk, hb⟩ e
    by_cases e1 : s.1 < k
    · rw [if_pos e1]
      refine ⟨List.pairwise_append.2 ⟨h.gap, List.pairwise_singleton _ _, fun r hr q hq => ?_⟩, fun r hr => ?_, by dsimp only; omega, fun j h1 h2 => ?_, fun c => ?_⟩
      · obtain rfl := List.mem_singleton.1 hq
        have := h.one r hr
        dsimp only; omega
      · rcases List.mem_append.1 hr with hr | hr
        · have := h.one r hr; dsimp only; omega
        · obtain rfl := List.mem_singleton.1 hr
          dsimp only; omega
      · dsimp only at h1; omega
      · dsimp only
        rw [RnIn_append, RnIn_one, h.mem]
        dsimp only
        constructor
        · rintro (⟨j, rfl, h1, h2, h3⟩ | ⟨h1, h2⟩)
          · exact ⟨j, rfl, by omega, h2, h3⟩
          · exact ⟨c.toNat, by omega, by omega, by omega, h.free c.toNat (by omega) (by omega) (by omega)⟩
        · rintro ⟨j, rfl, h1, h2, h3⟩
          by_cases ej : j < s.1
          · exact .inl ⟨j, rfl, ej, h2, h3⟩
          · by_cases ek : j = k
            · subst ek; rw [hset h2] at h3; cases h3
            · exact .inr ⟨by omega, by omega⟩
    · rw [if_neg e1]
      refine ⟨h.gap, fun r hr => ?_, by dsimp only; omega, fun j h1 h2 => ?_, fun c => ?_⟩
      · have := h.one r hr; dsimp only; omega
      · dsimp only at h1; omega
      · dsimp only
        rw [h.mem]
        constructor
        · rintro ⟨j, rfl, h1, h2, h3⟩
          exact ⟨j, rfl, by omega, h2, h3⟩
        · rintro ⟨j, rfl, h1, h2, h3⟩
          by_cases ek : j = k
          · subst ek; rw [hset h2] at h3; cases h3
          · exact ⟨j, rfl, by omega, h2, h3⟩
theorem runsUp_is (b : List Bool) : ∀ k, k ≤ b.length + 1 → RunI b k (runsUp b k)
  | 0, _ => RunI.start b
  | k + 1, hk => (runsUp_is b k (by omega)).step (by omega)
theorem runsUp_fst (b : List Bool) (h : b.length = 24) : (runsUp b 25).1 = 25 := by
  show (runStep b (runsUp b 24) 24).1 = 25
  unfold runStep
  rw [if_neg (by omega)]
/-- what the runs of a right bitmap are -/
theorem runsN_right {b : List Bool} (hb : b.length = 24) : RnR (runsN b) ∧ ∀ c, RnIn (runsN b) c ↔ ∃ j : Nat, c = j ∧ j < 24 ∧ b[j]! = false := by
  unfold runsN
  rw [if_pos hb]
  have h := runsUp_is b 25 (by omega)
  have hf := runsUp_fst b hb
  refine ⟨⟨h.gap, fun r hr => by have := h.one r hr; omega⟩, fun c => ?_⟩
  rw [h.mem, hf]
  constructor
  · rintro ⟨j, rfl, h1, h2, h3⟩; exact ⟨j, rfl, by omega, h3⟩
  · rintro ⟨j, rfl, h1, h3⟩; exact ⟨j, rfl, by omega, by omega, h3⟩
theorem RnR.tail {r : Rn} {l : List Rn} (h : RnR (r :: l)) : RnR l := ⟨(List.pairwise_cons.1 h.gap).2, fun s hs => h.one s (List.mem_cons_of_mem _ hs)⟩
theorem RnIn_cons (r : Rn) (l : List Rn) (c : Int) : RnIn (r :: l) c ↔ (r.p ≤ c ∧ c < r.p + r.n) ∨ RnIn l c := by simp [RnIn]
theorem RnR.behind {r : Rn} {l : List Rn} (h : RnR (r :: l)) {c : Int} (hc : RnIn l c) : r.p + r.n < c := by
  obtain ⟨s, hs, h1, h2⟩ := hc
  have := (List.pairwise_cons.1 h.gap).1 s hs
  omega
theorem rn_uniq : ∀ (l m : List Rn), RnR l → RnR m → (∀ c, RnIn l c ↔ RnIn m c) → l = m
  | [], [], _, _, _ => rfl
  | [], s :: m, _, hm, h => by
    have h1 := hm.one s (by simp)
    obtain ⟨r, hr, _⟩ := (h s.p).2 ((RnIn_cons _ _ _).2 (.inl (by omega)))
    cases hr
  | r :: l, [], hl, _, h => by
    have h1 := hl.one r (by simp)
    obtain ⟨s, hs, _⟩ := (h r.p).1 ((RnIn_cons _ _ _).2 (.inl (by omega)))
    cases hs
  | r :: l, s :: m, hl, hm, h => by
    have h1 := hl.one r (by simp)
    have h2 := hm.one s (by simp)
    have low : ∀ c, RnIn (r :: l) c → r.p ≤ c := fun c hc => by
      rcases (RnIn_cons _ _ _).1 hc with hc | hc
      · omega
      · have := hl.behind hc; omega
    have low' : ∀ c, RnIn (s :: m) c → s.p ≤ c := fun c hc => by
      rcases (RnIn_cons _ _ _).1 hc with hc | hc
      · omega
      · have := hm.behind hc; omega
    have ea : r.p = s.p := by
      have a1 := low' _ ((h r.p).1 ((RnIn_cons _ _ _).2 (.inl (by omega))))
      have a2 := low _ ((h s.p).2 ((RnIn_cons _ _ _).2 (.inl (by omega))))
      omega
    have eb : r.n = s.n := by
      rcases Int.lt_trichotomy r.n s.n with e | e | e
      · exfalso
        rcases (RnIn_cons _ _ _).1 ((h (r.p + r.n)).2 ((RnIn_cons _ _ _).2 (.inl (by omega)))) with hc | hc
        · omega
        · have := hl.behind hc; omega
      · exact e
      · exfalso
        rcases (RnIn_cons _ _ _).1 ((h (s.p + s.n)).1 ((RnIn_cons _ _ _).2 (.inl (by omega)))) with hc | hc
        · omega
        · have := hm.behind hc; omega
    have e : r = s := by cases r; cases s; simp_all
    subst e
    congr 1
    refine rn_uniq l m hl.tail hm.tail fun c => ?_
    constructor
    · intro hc
      have h3 := hl.behind hc
      rcases (RnIn_cons _ _ _).1 ((h c).1 ((RnIn_cons _ _ _).2 (.inr hc))) with h4 | h4
      · omega
      · exact h4
    · intro hc
      have h3 := hm.behind hc
      rcases (RnIn_cons _ _ _).1 ((h c).2 ((RnIn_cons _ _ _).2 (.inr hc))) with h4 | h4
      · omega
      · exact h4
/-- whoever finds right runs of just the flags that are not set finds these -/
theorem runsN_is {b : List Bool} (hb : b.length = 24) {l : List Rn} (hl : RnR l) (h : ∀ c, RnIn l c ↔ ∃ j : Nat, c = j ∧ j < 24 ∧ b[j]! = false) : runsN b = l :=
  rn_uniq _ _ (runsN_right hb).1 hl fun c => ((runsN_right hb).2 c).trans (h c).symm
theorem rn_len : ∀ (l : List Rn), RnR l → ∀ p, (∀ r ∈ l, p ≤ r.p) → 0 ≤ p → (l.length : Int) ≤ 24 - p ∨ l = []
  | [], _, _, _, _ => .inr rfl
  | r :: l, h, p, hp, h0 => by
    have h1 := h.one r (by simp)
    have h2 := hp r (by simp)
    left
    rcases rn_len l h.tail (r.p + r.n) (fun s hs => by have := (List.pairwise_cons.1 h.gap).1 s hs; omega) (by omega) with h3 | h3
    · simp only [List.length_cons]; omega
    · subst h3; simp only [List.length_cons, List.length_nil]; omega
theorem runsN_len (b : List Bool) : (runsN b).length ≤ 24 := by
  by_cases hb : b.length = 24
  · have h := (runsN_right hb).1
    rcases rn_len _ h 0 (fun r hr => (h.one r hr).1) (by omega) with h | h
    · omega
    · rw [h]; simp
  · unfold runsN; rw [if_neg hb]; simp

/-- where the first run of at least n begins -/
def findN (b : List Bool) (n : Int) : Int := if 1 ≤ n then (match (runsN b).find? (fun r => decide (n ≤ r.n)) with | some r => r.p | none => -1) else -1
def rnSum : List Rn → Int
  | [] => 0
  | r :: l => r.n + rnSum l
def freeN (b : List Bool) : Int := rnSum (runsN b)
theorem rnSum_append (l m : List Rn) : rnSum (l ++ m) = rnSum l + rnSum m := by
  induction l with
  | nil => simp [rnSum]
  | cons r l ih => simp only [List.cons_append, rnSum, ih]; omega
theorem rnSum_bd : ∀ (l : List Rn), RnR l → 0 ≤ rnSum l ∧ ∀ p, (∀ r ∈ l, p ≤ r.p) → p ≤ 24 → rnSum l ≤ 24 - p
  | [], _ => ⟨by simp [rnSum], fun p _ hp => by simp [rnSum]; omega⟩
  | r :: l, h => by
    obtain ⟨h1, h2⟩ := rnSum_bd l h.tail
    have h3 := h.one r (by simp)
    refine ⟨by simp only [rnSum]; omega, fun p hp hp2 => ?_⟩
    have h4 := hp r (by simp)
    have h5 := h2 (r.p + r.n) (fun s hs => by have := (List.pairwise_cons.1 h.gap).1 s hs; omega) (by omega)
    simp only [rnSum]; omega
/-- are these n flags from p on all there, and none of them v already? -/
def canSet (b : List Bool) (p n : Int) (v : Bool) : Prop := 1 ≤ n ∧ n ≤ 24 ∧ 0 ≤ p ∧ p ≤ 24 - n ∧ ∀ j : Nat, p ≤ j → (j : Int) < p + n → b[j]! ≠ v
def setB (b : List Bool) (p n : Int) (v : Bool) : List Bool := (List.range b.length).map fun (j : Nat) => if p ≤ (j : Int) ∧ (j : Int) < p + n then v else b[j]!
noncomputable def setRunN (b : List Bool) (p n : Int) (v : Bool) : List Bool := open Classical in if b.length = 24 then (if canSet b p n v then setB b p n v else b) else []
noncomputable def setRunB (b : List Bool) (p n : Int) (v : Bool) : Bool := open Classical in decide (b.length = 24 ∧ canSet b p n v)
theorem setB_len (b : List Bool) (p n : Int) (v : Bool) : (setB b p n v).length = b.length := by simp [setB]
theorem setB_get (b : List Bool) (p n : Int) (v : Bool) (j : Nat) (hj : j < b.length) : (setB b p n v)[j]! = if p ≤ (j : Int) ∧ (j : Int) < p + n then v else b[j]! := by
  rw [getElem!_pos _ j (by rw [setB_len]; exact hj)]
  simp [setB]
theorem setB_zero (b : List Bool) (p : Int) (v : Bool) (n : Int) (hn : n ≤ 0) : setB b p n v = b := by
  apply List.ext_getElem (setB_len _ _ _ _)
  intro j h1 h2
  have := setB_get b p n v j h2
  rw [getElem!_pos _ j h1, getElem!_pos b j h2] at this
  rw [this, if_neg (by omega)]
theorem setB_step (b : List Bool) (p : Nat) (v : Bool) (k : Nat) : (setB b p k v).set (p + k) v = setB b p (k + 1 : Nat) v := by
  apply List.ext_getElem (by simp [setB_len])
  intro j h1 h2
  rw [setB_len] at h2
  have e1 := setB_get b p (k + 1 : Nat) v j h2
  have e2 := setB_get b p k v j h2
  rw [getElem!_pos _ j (by rw [setB_len]; exact h2)] at e1 e2
  rw [e1, List.getElem_set]
  by_cases h : p + k = j
  · rw [if_pos h, if_pos (by omega)]
  · rw [if_neg h, e2]
    by_cases h3 : (p : Int) ≤ j ∧ (j : Int) < p + (k : Int)
    · rw [if_pos h3, if_pos (by omega)]
    · rw [if_neg h3, if_neg (by omega)]
/-- set, and cleared again -/
theorem setB_back (b : List Bool) (p n : Int) (v : Bool) (h : ∀ j : Nat, p ≤ j → (j : Int) < p + n → b[j]! ≠ v) : setB (setB b p n v) p n (!v) = b := by
  apply List.ext_getElem (by simp [setB_len])
  intro j h1 h2
  have e1 := setB_get (setB b p n v) p n (!v) j (by rw [setB_len]; exact h2)
  have e2 := setB_get b p n v j h2
  rw [getElem!_pos _ j h1] at e1
  rw [e1, e2]
  by_cases hc : p ≤ (j : Int) ∧ (j : Int) < p + n
  · rw [if_pos hc]
    have := h j hc.1 hc.2
    rw [getElem!_pos b j h2] at this
    cases hb : b[j] <;> cases v <;> simp_all
  · rw [if_neg hc, if_neg hc, getElem!_pos b j h2]
end Go.Proofs.Ytkbkanmmpdeokaa
