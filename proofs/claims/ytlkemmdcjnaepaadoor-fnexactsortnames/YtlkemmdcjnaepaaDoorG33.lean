/- A region that draws its order: operations that leave what was there alone, and a tail, each of whose operations waits for all that stand ahead: one walk of the lexical order. -/
import Derived.Test.YtlkemmdcjnaepaaDoorRows
import Derived.Test.YtlkemmdcjnaepaaDoorG22
namespace Go.Proofs.YtlkemmdcjnaepaaDoor

section
open Go.RowKit Go.Sort

section
variable {P : Program} {C : World → Prop} {l0 tl : List Oper} {Q : Exit → Act → World → Prop}

def depB (ops : Array Oper) (i j : Nat) : Bool := match ops[i]? with | some o => o.after.toList.any fun e => e.on == j && Region.binds .any e | none => false
theorem depB_iff {ops : Array Oper} {i j : Nat} {o : Oper} (ho : ops[i]? = some o) : depB ops i j = true ↔ ∃ e ∈ o.after, e.on = j ∧ Region.binds .any e = true := by
  unfold depB
  rw [ho]
  simp only [List.any_eq_true, Bool.and_eq_true, beq_iff_eq]
  exact ⟨fun ⟨e, h, h1⟩ => ⟨e, Array.mem_toList_iff.1 h, h1⟩, fun ⟨e, h, h1⟩ => ⟨e, Array.mem_toList_iff.2 h, h1⟩⟩
theorem depB_some {ops : Array Oper} {i j : Nat} (h : depB ops i j = true) : ∃ o, ops[i]? = some o := by
  unfold depB at h
  cases ho : ops[i]? with
  | none => rw [ho] at h; cases h
  | some o => exact ⟨o, rfl⟩
/-- who is listed, its groundwork is listed -/
def Closed (ops : Array Oper) (lq : Array Bool) : Prop := ∀ i j, lq.getD i false = true → depB ops i j = true → lq.getD j false = true
def qtF (lq : Array Bool) (m : Nat) : Array Bool := lq ++ Array.replicate m false
theorem qt_getF (lq : Array Bool) (m j : Nat) : (qtF lq m).getD j false = lq.getD j false := by
  unfold qtF
  rw [Array.getD_eq_getD_getElem?, Array.getD_eq_getD_getElem?, Array.getElem?_append]
  split
  · rfl
  · rename_i h
    rw [Array.getElem?_eq_none (by omega : lq.size ≤ j)]
    rw [Array.getElem?_replicate]
    split <;> rfl
theorem qt_getT {lq : Array Bool} {m j : Nat} (hj : j < lq.size) : (qtF lq m).getD j true = lq.getD j true := by
  unfold qtF
  rw [Array.getD_eq_getD_getElem?, Array.getD_eq_getD_getElem?, Array.getElem?_append, if_pos hj]
theorem qt_op {i : Nat} (hi : i < l0.length) : (l0 ++ tl).toArray[i]? = l0.toArray[i]? := by
  simp [List.getElem?_append_left hi]
theorem qt_ready {lq : Array Bool} (hs : lq.size = l0.length) {i : Nat} (hi : i < l0.length) : i ∈ Region.ready .any (l0 ++ tl).toArray (qtF lq tl.length) ↔ i ∈ Region.ready .any l0.toArray lq := by
  rw [mem_ready, mem_ready, qt_op hi, qt_getT (by omega)]
  simp only [qt_getF]
theorem qt_dep {i j : Nat} (hi : i < l0.length) : depB (l0 ++ tl).toArray i j = depB l0.toArray i j := by
  unfold depB
  rw [qt_op hi]
theorem qt_wanted {o : Oper} {tm : Array Value} (h : ∀ j b, o.guard = some (j, b) → j < l0.length) : Region.wanted o (yielded (l0 ++ tl).toArray tm) = Region.wanted o (yielded l0.toArray tm) := by
  unfold Region.wanted
  cases hg : o.guard with
  | none => rfl
  | some p =>
    obtain ⟨j, b⟩ := p
    have := h j b hg
    simp only [yielded, qt_op this]
/-- the tail's first one comes when all is done, the others behind it -/
theorem qt_tail {lq : Array Bool} (hs : lq.size = l0.length) (hc : Closed l0.toArray lq)
    (hD : ∀ j, j < l0.length → ∃ i, j < i ∧ i ≤ l0.length ∧ depB (l0 ++ tl).toArray i j = true) (hE : ∀ i, l0.length < i → i < l0.length + tl.length → ∃ j, l0.length ≤ j ∧ depB (l0 ++ tl).toArray i j = true)
    {i : Nat} (hi : l0.length ≤ i) (hr : i ∈ Region.ready .any (l0 ++ tl).toArray (qtF lq tl.length)) : i = l0.length ∧ ∀ j, j < l0.length → lq.getD j false = true := by
  obtain ⟨h0, o, ho, hall⟩ := mem_ready.1 hr
  have hlt : i < l0.length + tl.length := by
    have := (Array.getElem?_eq_some_iff.1 ho).1
    simpa using this
  by_cases e : i = l0.length
  · refine ⟨e, ?_⟩
    subst e
    have key : ∀ d j, j < l0.length → l0.length - j ≤ d → lq.getD j false = true := by
      intro d
      induction d with
      | zero => intro j hj hd; omega
      | succ d ih =>
        intro j hj hd
        obtain ⟨i, h1, h2, h3⟩ := hD j hj
        by_cases e : i = l0.length
        · subst e
          obtain ⟨x, hx, hon, hb⟩ := (depB_iff ho).1 h3
          have := hall x hx hb
          rw [hon, qt_getF] at this
          exact this
        · rw [qt_dep (by omega)] at h3
          exact hc i j (ih i (by omega) (by omega)) h3
    intro j hj
    exact key (l0.length - j) j hj (Nat.le_refl _)
  · obtain ⟨j, h1, h2⟩ := hE i (by omega) hlt
    obtain ⟨x, hx, hon, hb⟩ := (depB_iff ho).1 h2
    have := hall x hx hb
    rw [hon, qt_getF, Array.getD_eq_getD_getElem?, Array.getElem?_eq_none (by omega)] at this
    cases this
def qtD (n m k : Nat) : Array Bool := Array.replicate (n + k) true ++ Array.replicate (m - k) false
theorem qtD_zero {lq : Array Bool} {n m : Nat} (hs : lq.size = n) (h : ∀ j, j < n → lq.getD j false = true) : qtF lq m = qtD n m 0 := by
  unfold qtF qtD
  rw [Nat.add_zero, Nat.sub_zero]
  congr 1
  apply Array.ext (by simp [hs])
  intro i h1 h2
  have := h i (by omega)
  rw [Array.getD_eq_getD_getElem?, Array.getElem?_eq_getElem h1] at this
  simpa using this
theorem qtD_step {n m k : Nat} (hk : k < m) : (qtD n m k).setIfInBounds (n + k) true = qtD n m (k + 1) := by
  unfold qtD
  apply Array.ext_getElem?
  intro i
  rw [Array.getElem?_setIfInBounds, Array.getElem?_append, Array.getElem?_append, Array.getElem?_replicate, Array.getElem?_replicate, Array.getElem?_replicate, Array.getElem?_replicate]
  simp only [Array.size_append, Array.size_replicate]
  by_cases e : n + k = i
  · subst e
    rw [if_pos rfl, if_pos (by omega), if_pos (by omega), if_pos (by omega)]
  · rw [if_neg e]
    by_cases h1 : i < n + k
    · rw [if_pos h1, if_pos h1, if_pos (by omega), if_pos (by omega)]
    · rw [if_neg h1, if_neg (by omega : ¬ i < n + (k + 1))]
      by_cases h2 : i - (n + k) < m - k
      · rw [if_pos h2, if_pos (by omega)]
      · rw [if_neg h2, if_neg (by omega)]
theorem qt_run (hR : ∀ k, k ≤ tl.length → Region.ready .any (l0 ++ tl).toArray (qtD l0.length tl.length k) = if k < tl.length then [l0.length + k] else []) :
    ∀ (d k F : Nat) (a : Act) (w : World), tl.length - k = d → k ≤ tl.length → d ≤ F → wpList P (l0 ++ tl).toArray Q (tl.drop k) a w → wpAny P .any (l0 ++ tl).toArray Q F (qtD l0.length tl.length k) a w := by
  intro d
  induction d with
  | zero =>
    intro k F a w hd hk hF h
    obtain rfl : k = tl.length := by omega
    have hr := hR tl.length (Nat.le_refl _)
    rw [if_neg (Nat.lt_irrefl _)] at hr
    rw [List.drop_length] at h
    cases F with
    | zero => exact ⟨hr, h⟩
    | succ F => exact ⟨fun _ => h, fun i hi => by rw [hr] at hi; cases hi⟩
  | succ d ih =>
    intro k F a w hd hk hF h
    have hkm : k < tl.length := by omega
    have hr := hR k hk
    rw [if_pos hkm] at hr
    cases F with
    | zero => omega
    | succ F =>
      refine ⟨fun h0 => (by rw [hr] at h0; cases h0), fun i hi => ?_⟩
      rw [hr, List.mem_singleton] at hi
      subst hi
      rw [qtD_step hkm]
      rw [List.drop_eq_getElem_cons hkm] at h
      have ho : (l0 ++ tl).toArray[l0.length + k]? = some tl[k] := by
        simp [hkm]
      unfold wpOp
      rw [ho]
      unfold wpList at h
      dsimp only
      split at h
      · rename_i hw
        rw [if_pos hw]
        exact h.imp (fun h => Oper.wp_mono (fun a w hh => ih (k + 1) F a w (by omega) (by omega) (by omega) hh) h) id
      · rename_i hw
        rw [if_neg hw]
        exact ih (k + 1) F _ w (by omega) (by omega) (by omega) h

theorem qt_any (hG : ∀ o ∈ l0, ∀ j b, o.guard = some (j, b) → j < l0.length) (he : earlier l0 = true)
    (hD : ∀ j, j < l0.length → ∃ i, j < i ∧ i ≤ l0.length ∧ depB (l0 ++ tl).toArray i j = true) (hE : ∀ i, l0.length < i → i < l0.length + tl.length → ∃ j, l0.length ≤ j ∧ depB (l0 ++ tl).toArray i j = true)
    (hR : ∀ k, k ≤ tl.length → Region.ready .any (l0 ++ tl).toArray (qtD l0.length tl.length k) = if k < tl.length then [l0.length + k] else []) :
    ∀ (fuel : Nat) (lq : Array Bool) (a : Act) (w : World), lq.size = l0.length → Closed l0.toArray lq → C w → wpAnyQ P .any l0.toArray C (fun a' => ∀ w', C w' → wpList P (l0 ++ tl).toArray Q tl a' w') fuel lq a →
      wpAny P .any (l0 ++ tl).toArray Q (fuel + tl.length) (qtF lq tl.length) a w := by
  have done : ∀ (F : Nat) (lq : Array Bool) (a : Act) (w : World), lq.size = l0.length → (∀ j, j < l0.length → lq.getD j false = true) → tl.length ≤ F → wpList P (l0 ++ tl).toArray Q tl a w → wpAny P .any (l0 ++ tl).toArray Q F (qtF lq tl.length) a w := by
    intro F lq a w hs hall hF h
    rw [qtD_zero hs hall]
    exact qt_run hR tl.length 0 F a w (by omega) (Nat.zero_le _) hF (by rwa [List.drop_zero])
  have cl : ∀ (lq : Array Bool) (i : Nat), Closed l0.toArray lq → i ∈ Region.ready .any l0.toArray lq → Closed l0.toArray (lq.setIfInBounds i true) := by
    intro lq i hc hi a b ha hab
    obtain ⟨h0, o, ho, hall⟩ := mem_ready.1 hi
    have up : lq.getD b false = true → (lq.setIfInBounds i true).getD b false = true := fun h => by
      rw [Array.getD_eq_getD_getElem?, Array.getElem?_setIfInBounds]
      by_cases e : i = b
      · subst e
        rw [if_pos rfl]
        by_cases hb : i < lq.size
        · rw [if_pos hb]; rfl
        · rw [Array.getD_eq_getD_getElem?, Array.getElem?_eq_none (by omega)] at h; cases h
      · rw [if_neg e, ← Array.getD_eq_getD_getElem?]; exact h
    rw [Array.getD_eq_getD_getElem?, Array.getElem?_setIfInBounds] at ha
    by_cases e : i = a
    · subst e
      obtain ⟨x, hx, hon, hb⟩ := (depB_iff ho).1 hab
      have := hall x hx hb
      rw [hon] at this
      exact up this
    · rw [if_neg e, ← Array.getD_eq_getD_getElem?] at ha
      exact up (hc a b ha hab)
  intro fuel
  induction fuel with
  | zero =>
    intro lq a w hs hc hC h
    exact done _ lq a w hs (ql_all hs he h.1) (by omega) (h.2 w hC)
  | succ fuel ih =>
    intro lq a w hs hc hC h
    by_cases hr : Region.ready .any l0.toArray lq = []
    · exact done _ lq a w hs (ql_all hs he hr) (by omega) (h.1 hr w hC)
    · rw [show fuel + 1 + tl.length = fuel + tl.length + 1 by omega]
      refine ⟨fun h0 => ?_, fun i hi => ?_⟩
      · exfalso
        cases hr2 : Region.ready .any l0.toArray lq with
        | nil => exact hr hr2
        | cons j js =>
          have hm : j ∈ Region.ready .any l0.toArray lq := by rw [hr2]; simp
          have hj : j < l0.length := by
            obtain ⟨_, o, ho, _⟩ := mem_ready.1 hm
            have := (Array.getElem?_eq_some_iff.1 ho).1
            simpa using this
          have := (qt_ready (tl := tl) hs hj).2 hm
          rw [h0] at this
          cases this
      · by_cases hil : i < l0.length
        · have hir := (qt_ready hs hil).1 hi
          have hq := h.2 i hir
          have h2 := wpOp_of_qOp (Q' := Q) (K' := fun a' w' => wpAny P .any (l0 ++ tl).toArray Q (fuel + tl.length) (qtF (lq.setIfInBounds i true) tl.length) a' w') hC (fun a' w' hw' hk => ih _ a' w' (by simpa using hs) (cl lq i hc hir) hw' hk) hq
          have e1 : (qtF lq tl.length).setIfInBounds i true = qtF (lq.setIfInBounds i true) tl.length := by
            unfold qtF
            apply Array.ext_getElem?
            intro k
            rw [Array.getElem?_setIfInBounds, Array.getElem?_append, Array.getElem?_append, Array.getElem?_setIfInBounds, Array.size_setIfInBounds, Array.size_append]
            by_cases e : i = k
            · subst e
              simp [show i < lq.size by omega]
              omega
            · simp [e]
          rw [e1]
          unfold wpOp at h2 ⊢
          rw [qt_op hil]
          cases ho : l0.toArray[i]? with
          | none => rw [ho] at h2; exact h2
          | some o =>
            rw [ho] at h2
            have hmem : o ∈ l0 := by
              have := Array.mem_of_getElem? ho
              simpa using this
            dsimp only at h2 ⊢
            rw [qt_wanted (hG o hmem)]
            exact h2
        · exfalso
          have hall := (qt_tail hs hc hD hE (by omega) hi).2
          cases hr2 : Region.ready .any l0.toArray lq with
          | nil => exact hr hr2
          | cons j js =>
            have hm : j ∈ Region.ready .any l0.toArray lq := by rw [hr2]; simp
            obtain ⟨h2, o, ho, _⟩ := mem_ready.1 hm
            have hj : j < l0.length := by simpa using (Array.getElem?_eq_some_iff.1 ho).1
            have h3 := hall j hj
            rw [Array.getD_eq_getD_getElem?, Array.getElem?_eq_getElem (by omega)] at h2 h3
            simp at h2 h3
            rw [h2] at h3
            cases h3

/-- what is asked of such a region, reckoned -/
def tailB (l0 tl : List Oper) : Bool :=
  (l0.all fun o => match o.guard with | some (j, _) => decide (j < l0.length) | none => true) && earlier l0 &&
  ((List.range l0.length).all fun j => (List.range (l0.length + 1)).any fun i => decide (j < i) && depB (l0 ++ tl).toArray i j) &&
  ((List.range (l0.length + tl.length)).all fun i => !decide (l0.length < i) || ((List.range (l0.length + tl.length)).any fun j => decide (l0.length ≤ j) && depB (l0 ++ tl).toArray i j)) &&
  ((List.range (tl.length + 1)).all fun k => Region.ready .any (l0 ++ tl).toArray (qtD l0.length tl.length k) == if k < tl.length then [l0.length + k] else [])
theorem wp_region_quiet_tail (n : Nat) {id : Nat} {a : Act} {w : World} {l : List Oper} (hm : P.follows .mixedOrders = true) (hB : Region.lexB .any (l.take n).toArray = true) (hT : tailB (l.take n) (l.drop n) = true)
    (h : wpQuiet P (l.take n).toArray (fun w' => ∃ p : Regrown, w' = grow (redrawn w p.d) p.os) (fun a' => ∀ w', (∃ p : Regrown, w' = grow (redrawn w p.d) p.os) → wpList P l.toArray Q (l.drop n) a' w') (l.take n) a) : (Code.region id l.toArray true).wp P Q a w := by
  have hl : l.take n ++ l.drop n = l := List.take_append_drop n l
  generalize l.take n = l0 at *
  generalize l.drop n = tl at *
  subst hl
  have hs2 : (l0 ++ tl).toArray.size = l0.length + tl.length := by simp
  refine wp_region_any hm ?_
  rw [hs2, show Array.replicate (l0.length + tl.length) false = qtF (Array.replicate l0.length false) tl.length by
    unfold qtF
    apply Array.ext'
    simp]
  simp only [Region.lexB, Bool.and_eq_true] at hB
  unfold tailB at hT
  simp only [Bool.and_eq_true] at hT
  obtain ⟨⟨⟨⟨hG, he⟩, hD⟩, hE⟩, hR⟩ := hT
  refine qt_any (C := fun w' => ∃ p : Regrown, w' = grow (redrawn w p.d) p.os) (fun o ho j b hg => ?_) he (fun j hj => ?_) (fun i h1 h2 => ?_) (fun k hk => ?_) l0.length _ a _ (by simp) (fun i j hi _ => ?_) ⟨⟨w.drawn + 1, #[]⟩, by rw [grow_empty]; rfl⟩ ?_
  · have := List.all_eq_true.1 hG o ho
    rw [hg] at this
    simpa using this
  · have := List.all_eq_true.1 hD j (List.mem_range.2 hj)
    rw [List.any_eq_true] at this
    obtain ⟨i, hi, h⟩ := this
    simp only [Bool.and_eq_true, decide_eq_true_eq] at h
    exact ⟨i, h.1, by have := List.mem_range.1 hi; omega, h.2⟩
  · have := List.all_eq_true.1 hE i (List.mem_range.2 h2)
    rw [decide_eq_true h1, Bool.not_true, Bool.false_or, List.any_eq_true] at this
    obtain ⟨j, _, h⟩ := this
    simp only [Bool.and_eq_true, decide_eq_true_eq] at h
    exact ⟨j, h.1, h.2⟩
  · have := List.all_eq_true.1 hR k (List.mem_range.2 (by omega))
    simpa using this
  · rw [Array.getD_eq_getD_getElem?, Array.getElem?_replicate] at hi
    split at hi <;> cases hi
  · have hq := wpAnyQ_lex (C := fun w' => ∃ p : Regrown, w' = grow (redrawn w p.d) p.os) (md := .any) hB.1 l0 0 (Array.replicate l0.length false) a (by simp) (by simpa using hB.2) h
    exact hq
end
end

end Go.Proofs.YtlkemmdcjnaepaaDoor
