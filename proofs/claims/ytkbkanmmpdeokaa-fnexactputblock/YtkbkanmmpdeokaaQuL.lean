/- A region that draws its order, all of whose operations but the last leave what was there alone; the last one (a store) waits for all of them. -/
import Derived.Test.YtkbkanmmpdeokaaRows
import Derived.Lib.QuietBelow
import Derived.BigQuiet
namespace Go.Proofs.Ytkbkanmmpdeokaa
open Go.RowKit Go.Sort

section
variable {P : Program} {C : World → Prop} {l0 : List Oper} {st : Oper} {Q : Exit → Act → World → Prop}

theorem ql_op {i : Nat} (hi : i < l0.length) : (l0 ++ [st]).toArray[i]? = l0.toArray[i]? := by
  simp [List.getElem?_append_left hi]
theorem ql_last : (l0 ++ [st]).toArray[l0.length]? = some st := by simp
theorem ql_off {i : Nat} (hi : l0.length < i) : (l0 ++ [st]).toArray[i]? = none := by
  rw [Array.getElem?_eq_none]; simp; omega
theorem ql_getF (lq : Array Bool) (j : Nat) : (lq.push false).getD j false = lq.getD j false := by
  rw [Array.getD_eq_getD_getElem?, Array.getD_eq_getD_getElem?, Array.getElem?_push]
  by_cases h : j = lq.size
  · subst h; simp
  · rw [if_neg h]
theorem ql_getT {lq : Array Bool} {j : Nat} (hj : j < lq.size) : (lq.push false).getD j true = lq.getD j true := by
  rw [Array.getD_eq_getD_getElem?, Array.getD_eq_getD_getElem?, Array.getElem?_push, if_neg (by omega)]
theorem ql_ready {lq : Array Bool} (hs : lq.size = l0.length) {i : Nat} (hi : i < l0.length) : i ∈ Region.ready .any (l0 ++ [st]).toArray (lq.push false) ↔ i ∈ Region.ready .any l0.toArray lq := by
  rw [mem_ready, mem_ready, ql_op hi, ql_getT (by omega)]
  simp only [ql_getF]
/-- each operation waits for earlier ones alone -/
def earlier (l0 : List Oper) : Bool := (List.range l0.length).all fun i => match l0[i]? with | some o => o.after.all fun e => decide (e.on < i) | none => true
theorem ql_all {lq : Array Bool} (hs : lq.size = l0.length) (he : earlier l0 = true) (hr : Region.ready .any l0.toArray lq = []) : ∀ j, j < l0.length → lq.getD j false = true := by
  intro j
  induction j using Nat.strongRecOn with
  | _ j ih =>
    intro hj
    cases hq : lq.getD j true with
    | true =>
      rw [Array.getD_eq_getD_getElem?, Array.getElem?_eq_getElem (by omega)] at hq ⊢
      exact hq
    | false =>
      exfalso
      have hm : j ∈ Region.ready .any l0.toArray lq := by
        rw [mem_ready]
        refine ⟨hq, l0[j], by simp [hj], fun e hem _ => ih e.on ?_ ?_⟩
        all_goals
          have h1 := List.all_eq_true.1 he j (List.mem_range.2 hj)
          rw [List.getElem?_eq_getElem hj] at h1
          have h2 := Array.all_eq_true_iff_forall_mem.1 h1 e hem
          simp at h2
          omega
      rw [hr] at hm
      cases hm
theorem ql_wanted {o : Oper} {tm : Array Value} (h : ∀ j b, o.guard = some (j, b) → j < l0.length) : Region.wanted o (yielded (l0 ++ [st]).toArray tm) = Region.wanted o (yielded l0.toArray tm) := by
  unfold Region.wanted
  cases hg : o.guard with
  | none => rfl
  | some p =>
    obtain ⟨j, b⟩ := p
    have := h j b hg
    simp only [yielded, ql_op this]

theorem ql_any (hG : ∀ o ∈ l0, ∀ j b, o.guard = some (j, b) → j < l0.length) (he : earlier l0 = true) (hst : ∀ j, j < l0.length → ∃ e ∈ st.after, e.on = j ∧ Region.binds .any e = true) (hst2 : ∀ e ∈ st.after, e.on < l0.length) :
    ∀ (fuel : Nat) (lq : Array Bool) (a : Act) (w : World), lq.size = l0.length → C w → wpAnyQ P .any l0.toArray C (fun a' => ∀ w', C w' → wpOp P (l0 ++ [st]).toArray Q l0.length (Q .normal) a' w') fuel lq a →
      wpAny P .any (l0 ++ [st]).toArray Q (fuel + 1) (lq.push false) a w := by
  have hend : ∀ (lq : Array Bool), lq.size = l0.length → (∀ j, j < l0.length → lq.getD j false = true) → Region.ready .any (l0 ++ [st]).toArray ((lq.push false).setIfInBounds l0.length true) = [] := by
    intro lq hs hall
    cases hr : Region.ready .any (l0 ++ [st]).toArray ((lq.push false).setIfInBounds l0.length true) with
    | nil => rfl
    | cons i is =>
      exfalso
      have hm : i ∈ Region.ready .any (l0 ++ [st]).toArray ((lq.push false).setIfInBounds l0.length true) := by rw [hr]; simp
      obtain ⟨h0, o, ho, -⟩ := mem_ready.1 hm
      rw [Array.getD_eq_getD_getElem?, Array.getElem?_setIfInBounds] at h0
      by_cases e : l0.length = i
      · rw [if_pos e, if_pos (by simp; omega)] at h0
        simp at h0
      · rw [if_neg e] at h0
        by_cases h1 : i < l0.length
        · have h2 := hall i h1
          rw [Array.getElem?_push, if_neg (by omega)] at h0
          rw [Array.getD_eq_getD_getElem?, Array.getElem?_eq_getElem (by omega)] at h2
          rw [Array.getElem?_eq_getElem (by omega)] at h0
          simp at h0 h2
          rw [h0] at h2
          cases h2
        · rw [ql_off (by omega)] at ho
          cases ho
  have hlast : ∀ (lq : Array Bool), lq.size = l0.length → (∀ j, j < l0.length → lq.getD j false = true) → l0.length ∈ Region.ready .any (l0 ++ [st]).toArray (lq.push false) := by
    intro lq hs hall
    rw [mem_ready]
    refine ⟨?_, st, ql_last, fun e hem _ => ?_⟩
    · rw [Array.getD_eq_getD_getElem?, Array.getElem?_push, if_pos hs.symm]; rfl
    · rw [ql_getF]; exact hall _ (hst2 e hem)
  intro fuel
  induction fuel with
  | zero =>
    intro lq a w hs hC h
    have hall := ql_all hs he h.1
    refine ⟨fun h0 => ?_, fun i hi => ?_⟩
    · have := hlast lq hs hall
      rw [h0] at this
      cases this
    · have hil : i = l0.length := by
        rcases Nat.lt_trichotomy i l0.length with h1 | h1 | h1
        · have := (ql_ready hs h1).1 hi
          rw [h.1] at this
          cases this
        · exact h1
        · obtain ⟨_, o, ho, _⟩ := mem_ready.1 hi
          rw [ql_off h1] at ho
          cases ho
      subst hil
      exact wpOp_mono (fun a' w' hq => ⟨hend lq hs hall, hq⟩) (h.2 w hC)
  | succ fuel ih =>
    intro lq a w hs hC h
    refine ⟨fun h0 => ?_, fun i hi => ?_⟩
    · exfalso
      have hr : Region.ready .any l0.toArray lq = [] := by
        cases hr : Region.ready .any l0.toArray lq with
        | nil => rfl
        | cons j js =>
          have hm : j ∈ Region.ready .any l0.toArray lq := by rw [hr]; simp
          have hj : j < l0.length := by
            obtain ⟨_, o, ho, _⟩ := mem_ready.1 hm
            have := (Array.getElem?_eq_some_iff.1 ho).1
            simpa using this
          have := (ql_ready (st := st) hs hj).2 hm
          rw [h0] at this
          cases this
      have := hlast lq hs (ql_all hs he hr)
      rw [h0] at this
      cases this
    · rcases Nat.lt_trichotomy i l0.length with h1 | h1 | h1
      · have hq := h.2 i ((ql_ready hs h1).1 hi)
        have h2 := wpOp_of_qOp (Q' := Q) (K' := fun a' w' => wpAny P .any (l0 ++ [st]).toArray Q (fuel + 1) ((lq.setIfInBounds i true).push false) a' w') hC (fun a' w' hw' hk => ih _ a' w' (by simpa using hs) hw' hk) hq
        have e1 : (lq.push false).setIfInBounds i true = (lq.setIfInBounds i true).push false := by
          apply Array.ext_getElem?
          intro k
          rw [Array.getElem?_setIfInBounds, Array.getElem?_push, Array.getElem?_push, Array.getElem?_setIfInBounds]
          by_cases e : i = k
          · subst e
            simp [show i < lq.size by omega, show i < lq.size + 1 by omega, show i ≠ lq.size by omega]
          · simp [e]
        rw [e1]
        unfold wpOp at h2 ⊢
        rw [ql_op h1]
        cases ho : l0.toArray[i]? with
        | none => rw [ho] at h2; exact h2
        | some o =>
          rw [ho] at h2
          have hmem : o ∈ l0 := by
            have := Array.mem_of_getElem? ho
            simpa using this
          dsimp only at h2 ⊢
          rw [ql_wanted (hG o hmem)]
          exact h2
      · subst h1
        have hall : ∀ j, j < l0.length → lq.getD j false = true := by
          intro j hj
          obtain ⟨_, o, ho, hall⟩ := mem_ready.1 hi
          rw [ql_last] at ho
          cases ho
          obtain ⟨e, hem, hon, hb⟩ := hst j hj
          have := hall e hem hb
          rw [hon, ql_getF] at this
          exact this
        have hr : Region.ready .any l0.toArray lq = [] := by
          cases hr : Region.ready .any l0.toArray lq with
          | nil => rfl
          | cons j js =>
            exfalso
            have hm : j ∈ Region.ready .any l0.toArray lq := by rw [hr]; simp
            obtain ⟨h2, o, ho, _⟩ := mem_ready.1 hm
            have hj : j < l0.length := by simpa using (Array.getElem?_eq_some_iff.1 ho).1
            have h3 := hall j hj
            rw [Array.getD_eq_getD_getElem?, Array.getElem?_eq_getElem (by omega)] at h2 h3
            simp at h2 h3
            rw [h2] at h3
            cases h3
        refine wpOp_mono (fun a' w' hq => ?_) (h.1 hr w hC)
        refine ⟨fun _ => hq, fun k hk => ?_⟩
        rw [hend lq hs hall] at hk
        cases hk
      · obtain ⟨_, o, ho, _⟩ := mem_ready.1 hi
        rw [ql_off h1] at ho
        cases ho

theorem wp_region_quiet_last {id : Nat} {a : Act} {w : World} {l : List Oper} (hm : P.follows .mixedOrders = true) (h0 : l = l0 ++ [st]) (hB : Region.lexB .any l0.toArray = true)
    (hG : (l0.all fun o => match o.guard with | some (j, _) => decide (j < l0.length) | none => true) = true) (he : earlier l0 = true)
    (hst : ((List.range l0.length).all fun j => st.after.any fun e => e.on == j && Region.binds .any e) = true) (hst2 : (st.after.all fun e => decide (e.on < l0.length)) = true) (hsg : st.guard = none)
    (h : wpQuiet P l0.toArray (fun w' => ∃ p : Regrown, w' = grow (redrawn w p.d) p.os) (fun a' => ∀ w', (∃ p : Regrown, w' = grow (redrawn w p.d) p.os) → wpList P #[st] Q [st] a' w') l0 a) : (Code.region id l.toArray true).wp P Q a w := by
  subst h0
  have hs2 : (l0 ++ [st]).toArray.size = l0.length + 1 := by simp
  refine wp_region_any hm ?_
  rw [hs2, show Array.replicate (l0.length + 1) false = (Array.replicate l0.length false).push false by apply Array.ext'; simp [List.replicate_succ']]
  simp only [Region.lexB, Bool.and_eq_true] at hB
  refine ql_any (C := fun w' => ∃ p : Regrown, w' = grow (redrawn w p.d) p.os) (fun o ho j b hg => ?_) he (fun j hj => ?_) (fun e hem => ?_) l0.length _ a _ (by simp) ⟨⟨w.drawn + 1, #[]⟩, by rw [grow_empty]; rfl⟩ ?_
  · have := List.all_eq_true.1 hG o ho
    rw [hg] at this
    simpa using this
  · have := List.all_eq_true.1 hst j (List.mem_range.2 hj)
    rw [← Array.any_toList, List.any_eq_true] at this
    obtain ⟨e, hem, h2⟩ := this
    simp only [Bool.and_eq_true, beq_iff_eq] at h2
    exact ⟨e, Array.mem_toList_iff.1 hem, h2.1, h2.2⟩
  · have := Array.all_eq_true_iff_forall_mem.1 hst2 e hem
    simpa using this
  · have key : ∀ a' w', wpList P #[st] Q [st] a' w' → wpOp P (l0 ++ [st]).toArray Q l0.length (Q .normal) a' w' := fun a' w' hh => by
      unfold wpOp
      rw [ql_last]
      have hw : ∀ y, Region.wanted st y = true := fun y => by unfold Region.wanted; rw [hsg]
      unfold wpList at hh
      rw [hw, if_pos rfl] at hh
      dsimp only
      rw [hw, if_pos rfl]
      exact hh
    have hq := wpAnyQ_lex (C := fun w' => ∃ p : Regrown, w' = grow (redrawn w p.d) p.os) (md := .any) hB.1 l0 0 (Array.replicate l0.length false) a (by simp) (by simpa using hB.2) h
    have mono : ∀ (fuel : Nat) (lq : Array Bool) (a : Act) (K K' : Act → Prop), (∀ a, K a → K' a) → wpAnyQ P .any l0.toArray (fun w' => ∃ p : Regrown, w' = grow (redrawn w p.d) p.os) K fuel lq a → wpAnyQ P .any l0.toArray (fun w' => ∃ p : Regrown, w' = grow (redrawn w p.d) p.os) K' fuel lq a := by
      intro fuel
      induction fuel with
      | zero => intro lq a K K' hk h; exact ⟨h.1, hk _ h.2⟩
      | succ fuel ih => intro lq a K K' hk h; exact ⟨fun h0 => hk _ (h.1 h0), fun i hi => qOp_mono (fun a' h' => ih _ a' K K' hk h') (h.2 i hi)⟩
    exact mono _ _ _ _ _ (fun a' h' w' hw' => key a' w' (h' w' hw')) hq
/-- the same, the last one taken off the list -/
theorem wp_region_quiet_store {id : Nat} {a : Act} {w : World} {l : List Oper} (hm : P.follows .mixedOrders = true) (hne : l ≠ []) (hB : Region.lexB .any l.dropLast.toArray = true)
    (hG : (l.dropLast.all fun o => match o.guard with | some (j, _) => decide (j < l.dropLast.length) | none => true) = true) (he : earlier l.dropLast = true)
    (hst : ((List.range l.dropLast.length).all fun j => (l.getLast hne).after.any fun e => e.on == j && Region.binds .any e) = true) (hst2 : ((l.getLast hne).after.all fun e => decide (e.on < l.dropLast.length)) = true) (hsg : (l.getLast hne).guard = none)
    (h : wpQuiet P l.dropLast.toArray (fun w' => ∃ p : Regrown, w' = grow (redrawn w p.d) p.os) (fun a' => ∀ w', (∃ p : Regrown, w' = grow (redrawn w p.d) p.os) → wpList P #[l.getLast hne] Q [l.getLast hne] a' w') l.dropLast a) : (Code.region id l.toArray true).wp P Q a w :=
  wp_region_quiet_last hm (List.dropLast_concat_getLast hne).symm hB hG he hst hst2 hsg h
end
end Go.Proofs.Ytkbkanmmpdeokaa
