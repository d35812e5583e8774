/- Ranges of signs, pure: two rows mixed by where they begin; the pieces that cuts leave. -/
import Derived.Test.YtkpeabbilcmabaaRows
import Derived.Test.YtkpeabbilcmabaaRgN
namespace Go.Proofs.Ytkpeabbilcmabaa
open Go.RowKit

/-- what stands while two rows are mixed: o is done, x and y are left -/
structure MxI (a b o x y : List Rg) : Prop where
  rx : RgR x
  ry : RgR y
  sort : o.Pairwise fun r s => r.a ≤ s.a
  one : ∀ r ∈ o, 0 ≤ r.a ∧ r.a ≤ r.b ∧ r.b ≤ 1114111
  lx : ∀ q ∈ o, ∀ r ∈ x, q.a ≤ r.a
  ly : ∀ q ∈ o, ∀ r ∈ y, q.a ≤ r.a
  mem : ∀ c, (RgIn o c ∨ RgIn x c ∨ RgIn y c) ↔ RgIn a c ∨ RgIn b c
structure MxR (a b M : List Rg) : Prop where
  sort : M.Pairwise fun r s => r.a ≤ s.a
  one : ∀ r ∈ M, 0 ≤ r.a ∧ r.a ≤ r.b ∧ r.b ≤ 1114111
  mem : ∀ c, RgIn M c ↔ RgIn a c ∨ RgIn b c
theorem MxI.start {a b : List Rg} (ha : RgR a) (hb : RgR b) : MxI a b [] a b :=
  ⟨ha, hb, List.Pairwise.nil, fun r h => (by cases h), fun q h => (by cases h), fun q h => (by cases h), fun c => by simp [RgIn]⟩
theorem MxI.swap {a b o x y : List Rg} (h : MxI a b o x y) : MxI a b o y x :=
  ⟨h.ry, h.rx, h.sort, h.one, h.ly, h.lx, fun c => by rw [← h.mem, or_comm (a := RgIn y c)]⟩
theorem MxI.same {a b o x y : List Rg} {r : Rg} (h : MxI a b o (r :: x) (r :: y)) : MxI a b o (r :: x) y :=
  ⟨h.rx, h.ry.tail, h.sort, h.one, h.lx, fun q hq s hs => h.ly q hq s (List.mem_cons_of_mem _ hs), fun c => by
    rw [← h.mem, RgIn_cons, RgIn_cons]
    constructor
    · rintro (e | (e | e) | e)
      · exact .inl e
      · exact .inr (.inl (.inl e))
      · exact .inr (.inl (.inr e))
      · exact .inr (.inr (.inr e))
    · rintro (e | (e | e) | e | e)
      · exact .inl e
      · exact .inr (.inl (.inl e))
      · exact .inr (.inl (.inr e))
      · exact .inr (.inl (.inl e))
      · exact .inr (.inr e)⟩
theorem MxI.first {a b o x y : List Rg} {r s : Rg} (h : MxI a b o (r :: x) (s :: y)) (hrs : r.a ≤ s.a) : MxI a b (o ++ [r]) x (s :: y) := by
  have h1 := h.rx.one r (by simp)
  refine ⟨h.rx.tail, h.ry, List.pairwise_append.2 ⟨h.sort, List.pairwise_singleton _ _, fun q hq t ht => ?_⟩, fun q hq => ?_, fun q hq t ht => ?_, fun q hq t ht => ?_, fun c => ?_⟩
  · obtain rfl := List.mem_singleton.1 ht; exact h.lx q hq _ (by simp)
  · rcases List.mem_append.1 hq with hq | hq
    · exact h.one q hq
    · obtain rfl := List.mem_singleton.1 hq; exact h1
  · rcases List.mem_append.1 hq with hq | hq
    · exact h.lx q hq t (List.mem_cons_of_mem _ ht)
    · obtain rfl := List.mem_singleton.1 hq
      have := (List.pairwise_cons.1 h.rx.gap).1 t ht
      omega
  · rcases List.mem_append.1 hq with hq | hq
    · exact h.ly q hq t ht
    · obtain rfl := List.mem_singleton.1 hq
      rcases List.mem_cons.1 ht with rfl | ht
      · exact hrs
      · have := (List.pairwise_cons.1 h.ry.gap).1 t ht
        have := h.ry.one s (by simp)
        omega
  · rw [← h.mem, RgIn_append, RgIn_one, RgIn_cons r x, or_assoc, or_assoc]
theorem MxI.done {a b o x y : List Rg} (h : MxI a b o x y) (he : x = [] ∨ y = []) : MxR a b (o ++ x ++ y) := by
  have two : ∀ {o x : List Rg}, o.Pairwise (fun r s => r.a ≤ s.a) → RgR x → (∀ q ∈ o, ∀ r ∈ x, q.a ≤ r.a) → (o ++ x).Pairwise fun r s => r.a ≤ s.a := fun ho hx hl =>
    List.pairwise_append.2 ⟨ho, hx.gap.imp_of_mem (fun {r s} hr hs e => by have := hx.one r hr; omega), hl⟩
  rcases he with rfl | rfl
  · rw [List.append_nil]
    refine ⟨two h.sort h.ry h.ly, fun r hr => ?_, fun c => ?_⟩
    · rcases List.mem_append.1 hr with hr | hr
      · exact h.one r hr
      · exact h.ry.one r hr
    · rw [← h.mem, RgIn_append]; simp [RgIn]
  · rw [List.append_nil]
    refine ⟨two h.sort h.rx h.lx, fun r hr => ?_, fun c => ?_⟩
    · rcases List.mem_append.1 hr with hr | hr
      · exact h.one r hr
      · exact h.rx.one r hr
    · rw [← h.mem, RgIn_append]; simp [RgIn]

/-- what stands while the mixed ranges are put, one by one -/
structure UmI (M : List Rg) (k : Nat) (l : List Rg) : Prop where
  right : RgR l
  mem : ∀ c, RgIn l c ↔ RgIn (M.take k) c
  beg : k < M.length → ∀ q ∈ l, q.a ≤ M[k]!.a
theorem UmI.nil (M : List Rg) : UmI M 0 [] := ⟨RgR.nil, fun c => by simp [RgIn], fun _ q h => (by cases h)⟩
theorem UmI.one {a b M : List Rg} (hM : MxR a b M) {k : Nat} {l : List Rg} (h : UmI M k l) (hk : k < M.length) : UmI M (k + 1) (rgPut l M[k]!) := by
  have hp := rgPut_right h.right M[k]! (by rw [getElem!_pos M k hk]; exact hM.one _ (List.getElem_mem hk)) (h.beg hk)
  refine ⟨hp.right, fun c => ?_, fun h2 q hq => ?_⟩
  · rw [hp.mem, h.mem, RgIn_take M k hk]
  · have h3 := hp.beg q hq
    have h4 := List.pairwise_iff_getElem.1 hM.sort k (k + 1) hk h2 (by omega)
    rw [getElem!_pos M k hk] at h3
    rw [getElem!_pos M (k + 1) h2]
    omega
theorem UmI.done {a b M l : List Rg} (ha : RgR a) (hb : RgR b) (hM : MxR a b M) (h : UmI M M.length l) : rgUnion a b = l :=
  rgUnion_is ha hb h.right fun c => by rw [h.mem, List.take_length, hM.mem]

/-- what cuts leave of the range from f to t -/
def pcN (f t : Int) : List Rg → List Rg
  | [] => if f ≤ t then [⟨f, t⟩] else []
  | c :: cs => if t < c.a then (if f ≤ t then [⟨f, t⟩] else []) else (if f < c.a then [⟨f, c.a - 1⟩] else []) ++ pcN (c.b + 1) t cs
theorem pcN_at (f t : Int) (cs : List Rg) (q : Nat) (hq : q < cs.length) :
    pcN f t (cs.drop q) = if t < cs[q]!.a then (if f ≤ t then [⟨f, t⟩] else []) else (if f < cs[q]!.a then [⟨f, cs[q]!.a - 1⟩] else []) ++ pcN (cs[q]!.b + 1) t (cs.drop (q + 1)) := by
  rw [List.drop_eq_getElem_cons hq, getElem!_pos cs q hq]; rfl
theorem pcN_end (f t : Int) (cs : List Rg) : pcN f t (cs.drop cs.length) = if f ≤ t then [⟨f, t⟩] else [] := by
  rw [List.drop_length]; rfl
theorem pcN_len (t : Int) : ∀ (cs : List Rg) (f : Int), (pcN f t cs).length ≤ cs.length + 1
  | [], f => by unfold pcN; split <;> simp
  | c :: cs, f => by
    have := pcN_len t cs (c.b + 1)
    unfold pcN
    split
    · split <;> simp
    · rw [List.length_append, List.length_cons]
      split <;> simp <;> omega
theorem MiI.last {a b l : List Rg} {p j : Nat} {f : Int} (h : MiI a b p j f l) (ha : RgR a) (hp : p < a.length) (hs : ∀ k, j ≤ k → k < b.length → a[p]!.b < b[k]!.a) :
    MiO a b (p + 1) (l ++ if f ≤ a[p]!.b then [⟨f, a[p]!.b⟩] else []) := by
  have h2 : MiI a b p b.length f l := ⟨h.right, h.mem, h.lt, h.beg, fun k hk => by
    by_cases e : k < j
    · exact h.past k e
    · exact .inr (hs k (by omega) hk)⟩
  have h3 := h2.done ha hp
  by_cases e : f ≤ a[p]!.b
  · rw [if_pos e] at h3 ⊢; exact h3
  · rw [if_neg e] at h3 ⊢; rw [List.append_nil]; exact h3
theorem MiI.pieces {a b : List Rg} (ha : RgR a) (hb : RgR b) {p : Nat} (hp : p < a.length) : ∀ (n j : Nat) (f : Int) (l : List Rg), b.length - j = n → j ≤ b.length → MiI a b p j f l → (∀ k, j ≤ k → k < b.length → f ≤ b[k]!.b) →
    MiO a b (p + 1) (l ++ pcN f a[p]!.b (b.drop j))
  | 0, j, f, l, hn, hj, h, _ => by
    obtain rfl : j = b.length := by omega
    rw [pcN_end]
    exact h.last ha hp fun k h1 h2 => by omega
  | n + 1, j, f, l, hn, hj, h, hf => by
    have hj2 : j < b.length := by omega
    rw [pcN_at _ _ _ _ hj2]
    by_cases e : a[p]!.b < b[j]!.a
    · rw [if_pos e]
      refine h.last ha hp fun k h1 h2 => ?_
      by_cases ek : k = j
      · rw [ek]; exact e
      · have := hb.lt (show j < k by omega) h2
        have := hb.at hj2
        omega
    · rw [if_neg e, ← List.append_assoc]
      have hc := h.cut ha hb hp hj2 (by have := hf j (Nat.le_refl _) hj2; omega) e
      have he : (l ++ if f < b[j]!.a then [⟨f, b[j]!.a - 1⟩] else []) = if f < b[j]!.a then l ++ [⟨f, b[j]!.a - 1⟩] else l := by
        by_cases e2 : f < b[j]!.a
        · rw [if_pos e2, if_pos e2]
        · rw [if_neg e2, if_neg e2, List.append_nil]
      rw [he]
      refine MiI.pieces ha hb hp n (j + 1) _ _ (by omega) hj2 hc fun k h1 h2 => ?_
      have := hb.lt (show j < k by omega) h2
      have := hb.at h2
      omega
/-- a range of a is done: the cuts behind j are those that end in it or behind it -/
theorem MiO.range {a b l : List Rg} (ha : RgR a) (hb : RgR b) {p j : Nat} (hp : p < a.length) (hj : j ≤ b.length) (h : MiO a b p l) (h1 : ∀ k, k < j → b[k]!.b < a[p]!.a) (h2 : j < b.length → a[p]!.a ≤ b[j]!.b) :
    MiO a b (p + 1) (l ++ pcN a[p]!.a a[p]!.b (b.drop j)) := by
  have h3 := h.start ha hp
  refine MiI.pieces ha hb hp _ j _ l rfl hj ⟨h3.right, h3.mem, h3.lt, h3.beg, fun k hk => .inl (h1 k hk)⟩ fun k hk hkb => ?_
  by_cases e : k = j
  · rw [e]; exact h2 (by omega)
  · have := hb.lt (show j < k by omega) hkb
    have := hb.at hkb
    have := h2 (by omega)
    omega

/-- a part of a slice, from k on -/
theorem RgsAt.drop {w : World} {a : Option Addr} {cap : Nat} {n : Nat} {l : List Rg} (h : RgsAt w (.slice a n cap) l) (k : Nat) (hk : k ≤ n) : RgsAt w (sliced a k n cap 2) (l.drop k) := by
  obtain ⟨a', cap', e, ⟨hn, hc⟩, hx⟩ := h
  cases e
  refine ⟨_, _, by rw [List.length_drop]; rfl, ⟨fun h0 => ?_, by rw [List.length_drop]; omega⟩, fun t ht => ?_⟩
  · by_cases e : cap = k
    · omega
    · rw [if_neg e] at h0
      cases a with
      | none => have := hn rfl; omega
      | some a => cases h0
  · rw [List.length_drop] at ht
    obtain ⟨b, off, rfl, h1, h2⟩ := hx (k + t) (by omega)
    have e : ¬ cap = k := by omega
    refine ⟨b, off + k * 2, by rw [if_neg e, Option.map_some, Addr.add_lit], h1, ?_⟩
    have e2 : (l.drop k)[t]! = l[k + t]! := by rw [getElem!_pos _ t (by rw [List.length_drop]; omega), getElem!_pos l (k + t) (by omega), List.getElem_drop]
    rw [e2, show off + k * 2 + t * 2 = off + (k + t) * 2 by omega]
    exact h2
end Go.Proofs.Ytkpeabbilcmabaa
