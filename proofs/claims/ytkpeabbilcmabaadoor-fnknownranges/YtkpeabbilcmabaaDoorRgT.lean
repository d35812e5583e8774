/- Ranges of signs, pure: what is right, what is in them; right ranges are told by what is in them. -/
import Derived.Test.YtkpeabbilcmabaaDoorRows
import Derived.Test.YtkpeabbilcmabaaDoorNum
namespace Go.Proofs.YtkpeabbilcmabaaDoor
open Go.RowKit

structure Rg where
  a : Int
  b : Int
  deriving DecidableEq, Inhabited

/-- one range as it is asked behind the place p -/
def rgOk (p : Int) (r : Rg) : Bool := decide (p < r.a) && decide (0 ≤ r.a) && decide (r.a ≤ 1114111) && decide (r.a ≤ r.b) && decide (r.b ≤ 1114111)
def rgPrev (l : List Rg) (t : Nat) : Int := if t = 0 then -1 else l[t - 1]!.b + 1
def rgsB (l : List Rg) : Bool := (List.range l.length).all fun t => rgOk (rgPrev l t) l[t]!
def RgIn (l : List Rg) (c : Int) : Prop := ∃ r ∈ l, r.a ≤ c ∧ c ≤ r.b
def rgInB (l : List Rg) (c : Int) : Bool := l.any fun r => decide (r.a ≤ c) && decide (c ≤ r.b)
theorem rgInB_iff (l : List Rg) (c : Int) : rgInB l c = true ↔ RgIn l c := by
  simp [rgInB, RgIn]
def rgInN (l : List Rg) (c : Int) : Bool := rgsB l && rgInB l c
structure RgR (l : List Rg) : Prop where
  gap : l.Pairwise fun r s => r.b + 1 < s.a
  one : ∀ r ∈ l, 0 ≤ r.a ∧ r.a ≤ r.b ∧ r.b ≤ 1114111

theorem rgOk_iff (p : Int) (r : Rg) : rgOk p r = true ↔ p < r.a ∧ 0 ≤ r.a ∧ r.a ≤ 1114111 ∧ r.a ≤ r.b ∧ r.b ≤ 1114111 := by
  simp [rgOk, and_assoc]
theorem rgsB_all (l : List Rg) : rgsB l = true ↔ ∀ t, t < l.length → rgOk (rgPrev l t) l[t]! = true := by
  simp [rgsB, List.all_eq_true]
theorem rgs_mono {l : List Rg} (h : ∀ t, t < l.length → rgOk (rgPrev l t) l[t]! = true) : ∀ (j i : Nat), i < j → j < l.length → l[i]!.b + 1 < l[j]!.a := by
  intro j
  induction j with
  | zero => intro i hi; omega
  | succ j ih =>
    intro i hi hj
    have h1 := (rgOk_iff _ _).1 (h (j + 1) hj)
    simp only [rgPrev, Nat.add_sub_cancel] at h1
    rw [if_neg (by omega)] at h1
    by_cases e : i = j
    · subst e; omega
    · have h2 := ih i (by omega) (by omega)
      have h3 := (rgOk_iff _ _).1 (h j (by omega))
      omega
theorem rgsB_iff (l : List Rg) : rgsB l = true ↔ RgR l := by
  rw [rgsB_all]
  constructor
  · intro h
    refine ⟨List.pairwise_iff_getElem.2 fun i j hi hj hij => ?_, fun r hr => ?_⟩
    · have := rgs_mono h j i hij hj
      rwa [getElem!_pos l i hi, getElem!_pos l j hj] at this
    · obtain ⟨t, ht, rfl⟩ := List.getElem_of_mem hr
      have := (rgOk_iff _ _).1 (h t ht)
      rw [getElem!_pos l t ht] at this
      omega
  · intro h t ht
    have h1 := h.one l[t] (List.getElem_mem ht)
    rw [rgOk_iff, getElem!_pos l t ht]
    refine ⟨?_, by omega, by omega, by omega, by omega⟩
    unfold rgPrev
    by_cases e : t = 0
    · rw [if_pos e]; omega
    · rw [if_neg e, getElem!_pos l (t - 1) (by omega)]
      exact List.pairwise_iff_getElem.1 h.gap (t - 1) t (by omega) ht (by omega)
theorem RgR.nil : RgR [] := ⟨List.Pairwise.nil, fun r h => by cases h⟩
theorem RgR.tail {r : Rg} {l : List Rg} (h : RgR (r :: l)) : RgR l := ⟨(List.pairwise_cons.1 h.gap).2, fun s hs => h.one s (List.mem_cons_of_mem _ hs)⟩
theorem RgIn_cons (r : Rg) (l : List Rg) (c : Int) : RgIn (r :: l) c ↔ (r.a ≤ c ∧ c ≤ r.b) ∨ RgIn l c := by simp [RgIn]
theorem RgIn_append (l m : List Rg) (c : Int) : RgIn (l ++ m) c ↔ RgIn l c ∨ RgIn m c := by
  simp [RgIn, or_and_right, exists_or]
theorem RgIn_nil (c : Int) : ¬ RgIn [] c := by simp [RgIn]
theorem RgIn_one (r : Rg) (c : Int) : RgIn [r] c ↔ r.a ≤ c ∧ c ≤ r.b := by simp [RgIn]
theorem RgR.behind {r : Rg} {l : List Rg} (h : RgR (r :: l)) {c : Int} (hc : RgIn l c) : r.b + 1 < c := by
  obtain ⟨s, hs, h1, h2⟩ := hc
  have := (List.pairwise_cons.1 h.gap).1 s hs
  omega
/-- right ranges are told by what is in them -/
theorem rg_uniq : ∀ (l m : List Rg), RgR l → RgR m → (∀ c, RgIn l c ↔ RgIn m c) → l = m
  | [], [], _, _, _ => rfl
  | [], s :: m, _, hm, h => by
    have h1 := hm.one s (by simp)
    exact absurd ((h s.a).2 ((RgIn_cons _ _ _).2 (.inl (by omega)))) (RgIn_nil _)
  | r :: l, [], hl, _, h => by
    have h1 := hl.one r (by simp)
    exact absurd ((h r.a).1 ((RgIn_cons _ _ _).2 (.inl (by omega)))) (RgIn_nil _)
  | r :: l, s :: m, hl, hm, h => by
    have h1 := hl.one r (by simp)
    have h2 := hm.one s (by simp)
    have low : ∀ c, RgIn (r :: l) c → r.a ≤ c := fun c hc => by
      rcases (RgIn_cons _ _ _).1 hc with hc | hc
      · omega
      · have := hl.behind hc; omega
    have low' : ∀ c, RgIn (s :: m) c → s.a ≤ c := fun c hc => by
      rcases (RgIn_cons _ _ _).1 hc with hc | hc
      · omega
      · have := hm.behind hc; omega
    have ea : r.a = s.a := by
      have a1 := low' _ ((h r.a).1 ((RgIn_cons _ _ _).2 (.inl (by omega))))
      have a2 := low _ ((h s.a).2 ((RgIn_cons _ _ _).2 (.inl (by omega))))
      omega
    have eb : r.b = s.b := by
      rcases Int.lt_trichotomy r.b s.b with e | e | e
      · exfalso
        rcases (RgIn_cons _ _ _).1 ((h (r.b + 1)).2 ((RgIn_cons _ _ _).2 (.inl (by omega)))) with hc | hc
        · omega
        · have := hl.behind hc; omega
      · exact e
      · exfalso
        rcases (RgIn_cons _ _ _).1 ((h (s.b + 1)).1 ((RgIn_cons _ _ _).2 (.inl (by omega)))) with hc | hc
        · omega
        · have := hm.behind hc; omega
    have e : r = s := by cases r; cases s; simp_all
    subst e
    congr 1
    refine rg_uniq l m hl.tail hm.tail fun c => ?_
    constructor
    · intro hc
      have h3 := hl.behind hc
      rcases (RgIn_cons _ _ _).1 ((h c).1 ((RgIn_cons _ _ _).2 (.inr hc))) with h4 | h4
      · omega
      · exact h4
    · intro hc
      have h3 := hm.behind hc
      rcases (RgIn_cons _ _ _).1 ((h c).2 ((RgIn_cons _ _ _).2 (.inr hc))) with h4 | h4
      · omega
      · exact h4
/-- one more range behind all others -/
theorem RgR.push {l : List Rg} (h : RgR l) (r : Rg) (h0 : 0 ≤ r.a ∧ r.a ≤ r.b ∧ r.b ≤ 1114111) (hl : ∀ q ∈ l, q.b + 1 < r.a) : RgR (l ++ [r]) := by
  refine ⟨List.pairwise_append.2 ⟨h.gap, List.pairwise_singleton _ _, fun q hq s hs => ?_⟩, fun q hq => ?_⟩
  · obtain rfl := List.mem_singleton.1 hs; exact hl q hq
  · rcases List.mem_append.1 hq with hq | hq
    · exact h.one q hq
    · obtain rfl := List.mem_singleton.1 hq; exact h0
theorem RgR.init {l : List Rg} {q : Rg} (h : RgR (l ++ [q])) : RgR l ∧ (∀ s ∈ l, s.b + 1 < q.a) ∧ (0 ≤ q.a ∧ q.a ≤ q.b ∧ q.b ≤ 1114111) := by
  have := List.pairwise_append.1 h.gap
  exact ⟨⟨this.1, fun s hs => h.one s (by simp [hs])⟩, fun s hs => this.2.2 s hs q (by simp), h.one q (by simp)⟩

/-- a range put behind right ranges that begin no later -/
def rgPut (l : List Rg) (r : Rg) : List Rg :=
  if l = [] then [r] else if l[l.length - 1]!.b + 1 < r.a then l ++ [r] else if l[l.length - 1]!.b < r.b then l.set (l.length - 1) ⟨l[l.length - 1]!.a, r.b⟩ else l
theorem rg_snoc (l : List Rg) (h : l ≠ []) : ∃ l0 q, l = l0 ++ [q] ∧ l[l.length - 1]! = q ∧ ∀ s, l.set (l.length - 1) s = l0 ++ [s] := by
  refine ⟨l.dropLast, l.getLast h, (List.dropLast_concat_getLast h).symm, ?_, fun s => ?_⟩
  · rw [getElem!_pos l _ (by have := List.length_pos_iff.2 h; omega), List.getLast_eq_getElem]
  · conv => lhs; rw [← List.dropLast_concat_getLast h]
    rw [List.set_append_right _ _ (by simp)]
    simp
structure RgPutR (l : List Rg) (r : Rg) (m : List Rg) : Prop where
  right : RgR m
  mem : ∀ c, RgIn m c ↔ RgIn l c ∨ (r.a ≤ c ∧ c ≤ r.b)
  beg : ∀ q ∈ m, q.a ≤ r.a
theorem rgPut_right {l : List Rg} (h : RgR l) (r : Rg) (h0 : 0 ≤ r.a ∧ r.a ≤ r.b ∧ r.b ≤ 1114111) (hb : ∀ q ∈ l, q.a ≤ r.a) : RgPutR l r (rgPut l r) := by
  unfold rgPut
  by_cases e : l = []
  · rw [if_pos e]; subst e
    exact ⟨RgR.nil.push r h0 (fun q h => by cases h), fun c => by rw [RgIn_one]; simp [RgIn], fun q hq => by obtain rfl := List.mem_singleton.1 hq; omega⟩
  · rw [if_neg e]
    obtain ⟨l0, q, rfl, hq, hset⟩ := rg_snoc l e
    rw [hq, hset]
    obtain ⟨h1, h2, h3⟩ := h.init
    have h4 := hb q (by simp)
    by_cases e1 : q.b + 1 < r.a
    · rw [if_pos e1]
      refine ⟨h.push r h0 fun s hs => ?_, fun c => by rw [RgIn_append, RgIn_one], fun s hs => ?_⟩
      · rcases List.mem_append.1 hs with hs | hs
        · have := h2 s hs; omega
        · obtain rfl := List.mem_singleton.1 hs; exact e1
      · rcases List.mem_append.1 hs with hs | hs
        · exact hb s hs
        · obtain rfl := List.mem_singleton.1 hs; omega
    · rw [if_neg e1]
      by_cases e2 : q.b < r.b
      · rw [if_pos e2]
        refine ⟨h1.push _ (by dsimp only; omega) h2, fun c => ?_, fun s hs => ?_⟩
        · rw [RgIn_append, RgIn_append, RgIn_one, RgIn_one]
          dsimp only
          constructor
          · rintro (h | h)
            · exact .inl (.inl h)
            · by_cases e3 : c ≤ q.b
              · exact .inl (.inr (by omega))
              · exact .inr (by omega)
          · rintro ((h | h) | h)
            · exact .inl h
            · exact .inr (by omega)
            · exact .inr (by omega)
        · rcases List.mem_append.1 hs with hs | hs
          · exact hb s (by simp [hs])
          · obtain rfl := List.mem_singleton.1 hs; exact h4
      · rw [if_neg e2]
        refine ⟨h, fun c => ?_, hb⟩
        rw [RgIn_append, RgIn_one]
        constructor
        · exact .inl
        · rintro (h | h)
          · exact h
          · exact .inr (by omega)

/-- how many signs -/
def rgSum : List Rg → Int
  | [] => 0
  | r :: l => r.b - r.a + 1 + rgSum l
def rgCount (l : List Rg) : Int := if rgsB l then rgSum l else 0
theorem rgSum_append (l m : List Rg) : rgSum (l ++ m) = rgSum l + rgSum m := by
  induction l with
  | nil => simp [rgSum]
  | cons r l ih => simp only [List.cons_append, rgSum, ih]; omega
theorem rgSum_bound : ∀ (l : List Rg), RgR l → 0 ≤ rgSum l ∧ ∀ p, (∀ r ∈ l, p < r.a) → rgSum l ≤ 1114111 - p ∨ l = []
  | [], _ => ⟨by simp [rgSum], fun _ _ => .inr rfl⟩
  | r :: l, h => by
    obtain ⟨h1, h2⟩ := rgSum_bound l h.tail
    have h3 := h.one r (by simp)
    refine ⟨by simp only [rgSum]; omega, fun p hp => .inl ?_⟩
    have h4 := hp r (by simp)
    simp only [rgSum]
    rcases h2 (r.b + 1) (fun s hs => (List.pairwise_cons.1 h.gap).1 s hs) with h5 | h5
    · omega
    · subst h5; simp only [rgSum]; omega
theorem rgSum_le {l : List Rg} (h : RgR l) : 0 ≤ rgSum l ∧ rgSum l ≤ 1114112 := by
  obtain ⟨h1, h2⟩ := rgSum_bound l h
  refine ⟨h1, ?_⟩
  rcases h2 (-1) (fun r hr => by have := h.one r hr; omega) with h3 | h3
  · omega
  · subst h3; simp [rgSum]

/-- the numbers below n that are in -/
def rgBelow (p : Int → Bool) : Nat → Int
  | 0 => 0
  | n + 1 => rgBelow p n + if p n then 1 else 0
theorem rgBelow_or (p q r : Int → Bool) (n : Nat) (h : ∀ c, r c = (p c || q c)) (hd : ∀ c, ¬ (p c = true ∧ q c = true)) : rgBelow r n = rgBelow p n + rgBelow q n := by
  induction n with
  | zero => rfl
  | succ n ih =>
    simp only [rgBelow, ih, h]
    have := hd n
    cases e1 : p n <;> cases e2 : q n <;> simp_all <;> omega
theorem rgBelow_zero (p : Int → Bool) (n : Nat) (h : ∀ c, p c = false) : rgBelow p n = 0 := by
  induction n with
  | zero => rfl
  | succ n ih => simp [rgBelow, ih, h]
theorem rgBelow_one (a b : Int) (h0 : 0 ≤ a) (h1 : a ≤ b) (n : Nat) : rgBelow (fun c => decide (a ≤ c) && decide (c ≤ b)) n = if (n : Int) ≤ a then 0 else if (n : Int) ≤ b then n - a else b - a + 1 := by
  induction n with
  | zero => simp [rgBelow, h0]
  | succ n ih =>
    simp only [rgBelow, ih]
    by_cases e1 : (n : Int) + 1 ≤ a
    · have : decide (a ≤ (n : Int)) = false := by simp; omega
      simp [this, e1]; omega
    · by_cases e2 : (n : Int) ≤ b
      · have a1 : decide (a ≤ (n : Int)) = true := by simp; omega
        have a2 : decide ((n : Int) ≤ b) = true := by simp; omega
        simp only [a1, a2, Bool.and_self, if_true, Int.natCast_add, Int.natCast_one]
        rw [if_neg e1]
        by_cases e3 : (n : Int) ≤ a
        · rw [if_pos e3]
          split <;> omega
        · rw [if_neg e3, if_pos e2]
          split <;> omega
      · have a2 : decide ((n : Int) ≤ b) = false := by simp; omega
        simp only [a2, Bool.and_false, Int.natCast_add, Int.natCast_one]
        rw [if_neg e1, if_neg (show ¬ (n : Int) ≤ a by omega), if_neg e2, if_neg (show ¬ (n : Int) + 1 ≤ b by omega)]
        simp
theorem rgSum_below : ∀ (l : List Rg), RgR l → rgSum l = rgBelow (rgInB l) 1114112
  | [], _ => (rgBelow_zero (rgInB []) _ (fun _ => rfl)).symm
  | r :: l, h => by
    have h1 := h.one r (by simp)
    rw [rgBelow_or (fun c => decide (r.a ≤ c) && decide (c ≤ r.b)) (rgInB l) (rgInB (r :: l)) _ (fun c => rfl) (fun c ⟨ha, hb⟩ => ?_), ← rgSum_below l h.tail, rgBelow_one _ _ (by omega) (by omega)]
    · rw [if_neg (by omega), if_neg (by omega)]; rfl
    · have := h.behind ((rgInB_iff _ _).1 hb)
      simp at ha; omega
/-- two right ranges without a common sign, and right ranges of both: they add up -/
theorem rgSum_two {l m u : List Rg} (hl : RgR l) (hm : RgR m) (hu : RgR u) (h : ∀ c, RgIn u c ↔ RgIn l c ∨ RgIn m c) (hd : ∀ c, ¬ (RgIn l c ∧ RgIn m c)) : rgSum u = rgSum l + rgSum m := by
  rw [rgSum_below u hu, rgSum_below l hl, rgSum_below m hm]
  refine rgBelow_or _ _ _ _ (fun c => ?_) (fun c hc => hd c ⟨(rgInB_iff _ _).1 hc.1, (rgInB_iff _ _).1 hc.2⟩)
  have := h c
  rw [← rgInB_iff, ← rgInB_iff, ← rgInB_iff] at this
  cases e1 : rgInB u c <;> cases e2 : rgInB l c <;> cases e3 : rgInB m c <;> simp_all
end Go.Proofs.YtkpeabbilcmabaaDoor
