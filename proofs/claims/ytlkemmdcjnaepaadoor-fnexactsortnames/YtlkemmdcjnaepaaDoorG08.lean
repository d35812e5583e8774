/- Signs: impl.partTable: seventy-five rows go into a new map, in whatever order the language takes: its contract. -/
import Derived.Test.YtlkemmdcjnaepaaDoorRows
import Derived.Test.YtlkemmdcjnaepaaDoorG07
import Derived.Orders
namespace Go.Proofs.YtlkemmdcjnaepaaDoor

section
open Go.RowKit

/-- a region whose operations come in any order, by what holds whichever have come -/
theorem wpAny_inv {P : Program} {ops : Array Oper} {Q : Exit → Act → World → Prop} (I : Array Bool → Act → World → Prop)
    (step : ∀ listed a w i, I listed a w → i ∈ Region.ready .any ops listed → wpOp P ops Q i (I (listed.setIfInBounds i true)) a w)
    (fin : ∀ listed a w, I listed a w → Region.ready .any ops listed = [] → Q .normal a w) :
    ∀ fuel listed a w, listed.toList.count false ≤ fuel → I listed a w → wpAny P .any ops Q fuel listed a w := by
  have mem : ∀ listed i, i ∈ Region.ready .any ops listed → listed.getD i true = false := fun listed i h => by
    unfold Region.ready at h
    simp only [List.mem_filter, Bool.and_eq_true, Bool.not_eq_true'] at h
    exact h.2.1
  intro fuel
  induction fuel with
  | zero =>
    intro listed a w hc hI
    have hr : Region.ready .any ops listed = [] := by
      cases hr : Region.ready .any ops listed with
      | nil => rfl
      | cons i is =>
        exfalso
        have h1 := mem listed i (by rw [hr]; simp)
        have h0 : listed.toList.count false = 0 := by omega
        rw [List.count_eq_zero] at h0
        apply h0
        rw [Array.getD_eq_getD_getElem?] at h1
        cases hg : listed[i]? with
        | none => rw [hg] at h1; simp at h1
        | some b =>
          rw [hg] at h1
          simp at h1
          subst h1
          exact Array.mem_toList_iff.2 (Array.mem_of_getElem? hg)
    exact ⟨hr, fin _ _ _ hI hr⟩
  | succ fuel ih =>
    intro listed a w hc hI
    refine ⟨fin _ _ _ hI, fun i hi => ?_⟩
    refine wpOp_mono (fun a' w' hI' => ih _ a' w' ?_ hI') (step _ _ _ i hI hi)
    have h1 := mem listed i hi
    rw [Array.getD_eq_getD_getElem?] at h1
    cases hg : listed[i]? with
    | none => rw [hg] at h1; simp at h1
    | some b =>
      rw [hg] at h1
      simp at h1
      subst h1
      obtain ⟨hlt, hge⟩ := Array.getElem?_eq_some_iff.1 hg
      have hpos : 0 < listed.toList.count false := List.count_pos_iff.2 (Array.mem_toList_iff.2 (Array.mem_of_getElem? hg))
      have : (listed.setIfInBounds i true).toList = listed.toList.set i true := by simp
      rw [this, List.count_set (by simpa using hlt)]
      have e1 : listed.toList[i]'(by simpa using hlt) = false := by simpa using hge
      rw [e1, if_pos (by rfl), if_neg (by decide)]
      omega

def need (i : Nat) : List Nat := if i = 0 then [] else if i = 226 then [0] else if i = 227 then [226] else if (i - 1) % 3 = 2 then [0, i - 2, i - 1] else []
def viewAt (i : Nat) : Option Tmp × Op :=
  if i = 0 then (some 1, .makeMap 117 none) else if i = 226 then (some 152, .move (.tmp 1)) else if i = 227 then (some 0, .assign (.tmp 152))
  else if (i - 1) % 3 = 0 then (some (2 + 2 * ((i - 1) / 3)), .build 140 #[(0, .const (.int .i64 (pRow ((i - 1) / 3)).1))])
  else if (i - 1) % 3 = 1 then (some (3 + 2 * ((i - 1) / 3)), .build 134 #[(0, .const (.int .i64 (pRow ((i - 1) / 3)).2.1)), (1, .const (.int .i64 (pRow ((i - 1) / 3)).2.2))])
  else (none, .insert 117 (.tmp 1) (.tmp (2 + 2 * ((i - 1) / 3))) (.tmp (3 + 2 * ((i - 1) / 3))))
def afterOk (ops : Array Oper) (i : Nat) : Bool :=
  match ops[i]? with
  | some o => o.guard.isNone && (o.after.all fun e => decide (e.on < i) && Region.binds .any e) && ((need i).all fun n => o.after.any fun e => e.on == n)
  | none => false

/-- the slot that the operation i fills, and with what -/
def tgt (g : Nat) (i : Nat) : Option (Nat × Value) :=
  if i = 0 then some (1, .map (some g)) else if i = 226 then some (152, .map (some g)) else if i = 227 then some (0, .map (some g))
  else if (i - 1) % 3 = 0 then some (2 + 2 * ((i - 1) / 3), pKey (pRow ((i - 1) / 3)).1)
  else if (i - 1) % 3 = 1 then some (3 + 2 * ((i - 1) / 3), pVal (pRow ((i - 1) / 3)).2.1 (pRow ((i - 1) / 3)).2.2)
  else none

theorem tgt_lt {g i d : Nat} {v : Value} (hi : i < 228) (h : tgt g i = some (d, v)) : d < 153 := by
  unfold tgt at h
  revert h
  (repeat' split) <;> simp <;> omega
theorem tgt_inj {g i i' d : Nat} {v v' : Value} (hi : i < 228) (hi' : i' < 228) (h : tgt g i = some (d, v)) (h' : tgt g i' = some (d, v')) : i = i' := by
  have e : ∀ {i d : Nat} {v : Value}, i < 228 → tgt g i = some (d, v) → (i = 0 ∧ d = 1) ∨ (i = 226 ∧ d = 152) ∨ (i = 227 ∧ d = 0) ∨ (i ≠ 0 ∧ i < 226 ∧ (i - 1) % 3 = 0 ∧ d = 2 + 2 * ((i - 1) / 3)) ∨ (i ≠ 0 ∧ i < 226 ∧ (i - 1) % 3 = 1 ∧ d = 3 + 2 * ((i - 1) / 3)) := by
    intro i d v hi h
    unfold tgt at h
    revert h
    (repeat' split) <;> simp <;> omega
  have h1 := e hi h
  have h2 := e hi' h'
  omega

structure TInv (w0 : World) (d0 : List Deferred) (listed : Array Bool) (a : Act) (w : World) : Prop where
  size : listed.size = 228
  tsz : a.tmps.size = 153
  defers : a.defers = d0
  bel : Below w0.heap.size w0 w
  sl : ∀ i d v, tgt w0.heap.size i = some (d, v) → listed.getD i false = true → a.tmps[d]? = some v
  pre : listed.getD 0 false = false → w.heap.size = w0.heap.size ∧ ∀ j, j < 75 → listed.getD (3 * j + 3) false = false
  tab : listed.getD 0 false = true → ∃ L : List Nat, MapIs w0.heap.size L w ∧ ∀ j, j ∈ L ↔ (j < 75 ∧ listed.getD (3 * j + 3) false = true)

theorem getD_set (l : Array Bool) (i k : Nat) (hi : i < l.size) : (l.setIfInBounds i true).getD k false = if i = k then true else l.getD k false := by
  rw [Array.getD_eq_getD_getElem?, Array.getElem?_setIfInBounds]
  split
  · simp [*]
  · rw [Array.getD_eq_getD_getElem?]

theorem put_get (a : Act) (d k : Nat) (v : Value) (hd : d < a.tmps.size) : (a.put (some d) v).tmps[k]? = if d = k then some v else a.tmps[k]? := by
  show (a.tmps.setIfInBounds d v)[k]? = _
  rw [Array.getElem?_setIfInBounds]
  split
  · simp [*]
  · rfl

theorem build_key (k : Int) (w : World) : (Instr.build 140 #[(0, .int .i64 k)]).run Tryd.prog w = .ok (pKey k) w := by kernel_rfl
theorem build_val (l m : Int) (w : World) : (Instr.build 134 #[(0, .int .i64 l), (1, .int .i64 m)]).run Tryd.prog w = .ok (pVal l m) w := by kernel_rfl

theorem eval_tmp (a : Act) (t : Nat) (v : Value) (h : a.tmps[t]? = some v) : a.eval (.tmp t) = v := by
  show a.tmps.getD t undef = v
  rw [Array.getD_eq_getD_getElem?, h]; rfl

theorem listed_lt {l : Array Bool} {i : Nat} (h : l.getD i false = true) : i < l.size := by
  rw [Array.getD_eq_getD_getElem?] at h
  cases hg : l[i]? with
  | none => rw [hg] at h; simp at h
  | some b => exact (Array.getElem?_eq_some_iff.1 hg).1

theorem TInv.slots {w0 w w' : World} {d0 : List Deferred} {listed : Array Bool} {a : Act} (hI : TInv w0 d0 listed a w) {i d : Nat} {v : Value} (hi : i < 228) (ht : tgt w0.heap.size i = some (d, v))
    (hb : Below w0.heap.size w0 w')
    (hpre : (listed.setIfInBounds i true).getD 0 false = false → w'.heap.size = w0.heap.size ∧ ∀ j, j < 75 → (listed.setIfInBounds i true).getD (3 * j + 3) false = false)
    (htab : (listed.setIfInBounds i true).getD 0 false = true → ∃ L : List Nat, MapIs w0.heap.size L w' ∧ ∀ j, j ∈ L ↔ (j < 75 ∧ (listed.setIfInBounds i true).getD (3 * j + 3) false = true)) :
    TInv w0 d0 (listed.setIfInBounds i true) (a.put (some d) v) w' := by
  have hil : i < listed.size := by rw [hI.size]; exact hi
  have hd : d < a.tmps.size := by rw [hI.tsz]; exact tgt_lt hi ht
  refine ⟨by simp [hI.size], ?_, hI.defers, hb, ?_, hpre, htab⟩
  · show (a.tmps.setIfInBounds d v).size = 153; simp [hI.tsz]
  · intro i' d' v' ht' hl'
    rw [getD_set listed i i' hil] at hl'
    rw [put_get a d d' v hd]
    by_cases hii : i = i'
    · subst hii
      rw [ht] at ht'
      cases ht'
      rw [if_pos rfl]
    · rw [if_neg hii] at hl'
      have hlt' : i' < 228 := by have := listed_lt hl'; rw [hI.size] at this; exact this
      rw [if_neg (fun e => hii (by subst e; exact tgt_inj hi hlt' ht ht'))]
      exact hI.sl i' d' v' ht' hl'

/-- an operation that fills a slot and leaves the world as it is -/
theorem TInv.fill {w0 w : World} {d0 : List Deferred} {listed : Array Bool} {a : Act} (hI : TInv w0 d0 listed a w) {i d : Nat} {v : Value} (hi : i < 228) (h0 : i ≠ 0) (h3 : ∀ j, j < 75 → i ≠ 3 * j + 3) (ht : tgt w0.heap.size i = some (d, v)) :
    TInv w0 d0 (listed.setIfInBounds i true) (a.put (some d) v) w := by
  have hil : i < listed.size := by rw [hI.size]; exact hi
  have hG := fun k => getD_set listed i k hil
  refine hI.slots hi ht hI.bel ?_ ?_
  · intro h
    rw [hG, if_neg h0] at h
    refine ⟨(hI.pre h).1, fun j hj => ?_⟩
    rw [hG, if_neg (h3 j hj)]
    exact (hI.pre h).2 j hj
  · intro h
    rw [hG, if_neg h0] at h
    obtain ⟨L, hM, hL⟩ := hI.tab h
    refine ⟨L, hM, fun j => ?_⟩
    rw [hL j]
    constructor
    · rintro ⟨hj, h'⟩
      exact ⟨hj, by rw [hG, if_neg (h3 j hj)]; exact h'⟩
    · rintro ⟨hj, h'⟩
      rw [hG, if_neg (h3 j hj)] at h'
      exact ⟨hj, h'⟩

set_option maxHeartbeats 2000000 in
theorem tab_step (ops : Array Oper) (Q : Exit → Act → World → Prop) (w0 : World) (d0 : List Deferred) (hs : ops.size = 228)
    (hv : ∀ i, i < 228 → ∃ o, ops[i]? = some o ∧ (o.dst, o.op) = viewAt i) (ha : ∀ i, i < 228 → afterOk ops i = true)
    (listed : Array Bool) (a : Act) (w : World) (i : Nat) (hI : TInv w0 d0 listed a w) (hi : i ∈ Region.ready .any ops listed) :
    wpOp Tryd.prog ops Q i (TInv w0 d0 (listed.setIfInBounds i true)) a w := by
  have hi' := hi
  unfold Region.ready at hi'
  simp only [List.mem_filter, List.mem_range, Bool.and_eq_true, Bool.not_eq_true'] at hi'
  obtain ⟨hlt, hnl, haf⟩ := hi'
  rw [hs] at hlt
  obtain ⟨o, ho, hview⟩ := hv i hlt
  have hok := ha i hlt
  unfold afterOk at hok
  rw [ho] at hok haf
  simp only [Bool.and_eq_true] at hok
  obtain ⟨⟨hg, hall⟩, hneed⟩ := hok
  have hg : o.guard = none := by simpa using hg
  have hil : i < listed.size := by rw [hI.size]; exact hlt
  have hnl' : listed.getD i false = false := by
    rw [Array.getD_eq_getD_getElem?] at hnl ⊢
    rw [Array.getElem?_eq_getElem hil] at hnl ⊢
    exact hnl
  have hN : ∀ n ∈ need i, listed.getD n false = true := by
    intro n hn
    have h1 := List.all_eq_true.1 hneed n hn
    obtain ⟨e, he, hen⟩ := Array.any_eq_true'.1 h1
    have h2 := Array.all_eq_true'.1 hall e he
    simp only [Option.map_some, Option.getD_some] at haf
    have h3 := Array.all_eq_true'.1 haf e he
    simp only [Bool.and_eq_true] at h2
    rw [h2.2] at h3
    have : e.on = n := by simpa using hen
    rw [← this]
    simpa using h3
  have hG := fun k => getD_set listed i k hil
  have hw : Region.wanted o (yielded ops a.tmps) = true := by unfold Region.wanted; rw [hg]
  unfold wpOp
  rw [ho]
  simp only [hw, if_true]
  left
  unfold Oper.wp
  have hd : o.dst = (viewAt i).1 := by rw [← hview]
  have hop : o.op = (viewAt i).2 := by rw [← hview]
  clear hview haf hall hneed
  by_cases h0 : i = 0
  · subst h0
    have hd : o.dst = some 1 := hd
    have hop : o.op = .makeMap 117 none := hop
    have hp := hI.pre hnl'
    have hmm := @run_makeMap Tryd.prog
    simp [execOp, hop, hmm, hd, Result.andThen, Oper.upon_value]
    rw [hp.1]
    have hM := MapIs.made w
    rw [hp.1] at hM
    refine hI.slots hlt rfl (hI.bel.alloc (by omega) _) ?_ ?_
    · intro h; rw [hG, if_pos rfl] at h; cases h
    · intro _
      refine ⟨[], hM, fun j => ?_⟩
      constructor
      · intro h; cases h
      · rintro ⟨hj, h'⟩
        rw [hG, if_neg (by omega), hp.2 j hj] at h'
        cases h'
  · by_cases h226 : i = 226
    · subst h226
      have hd : o.dst = some 152 := hd
      have hop : o.op = .move (.tmp 1) := hop
      have hs1 := hI.sl 0 1 _ rfl (hN 0 (by simp [need]))
      simp [execOp, hop, hd, Oper.upon_value, eval_tmp a 1 _ hs1]
      exact hI.fill hlt (by omega) (fun j hj => by omega) rfl
    · by_cases h227 : i = 227
      · subst h227
        have hd : o.dst = some 0 := hd
        have hop : o.op = .assign (.tmp 152) := hop
        have hs1 := hI.sl 226 152 _ rfl (hN 226 (by simp [need]))
        simp [execOp, hop, hd, Oper.upon_value, eval_tmp a 152 _ hs1]
        exact hI.fill hlt (by omega) (fun j hj => by omega) rfl
      · by_cases hr0 : (i - 1) % 3 = 0
        · have ev : viewAt i = (some (2 + 2 * ((i - 1) / 3)), .build 140 #[(0, .const (.int .i64 (pRow ((i - 1) / 3)).1))]) := by
            unfold viewAt; rw [if_neg h0, if_neg h226, if_neg h227, if_pos hr0]
          have et : tgt w0.heap.size i = some (2 + 2 * ((i - 1) / 3), pKey (pRow ((i - 1) / 3)).1) := by
            unfold tgt; rw [if_neg h0, if_neg h226, if_neg h227, if_pos hr0]
          rw [ev] at hd hop
          simp [execOp, hop, hd, Oper.upon_value, Act.eval, build_key, Result.andThen]
          exact hI.fill hlt h0 (fun j hj => by omega) et
        · by_cases hr1 : (i - 1) % 3 = 1
          · have ev : viewAt i = (some (3 + 2 * ((i - 1) / 3)), .build 134 #[(0, .const (.int .i64 (pRow ((i - 1) / 3)).2.1)), (1, .const (.int .i64 (pRow ((i - 1) / 3)).2.2))]) := by
              unfold viewAt; rw [if_neg h0, if_neg h226, if_neg h227, if_neg hr0, if_pos hr1]
            have et : tgt w0.heap.size i = some (3 + 2 * ((i - 1) / 3), pVal (pRow ((i - 1) / 3)).2.1 (pRow ((i - 1) / 3)).2.2) := by
              unfold tgt; rw [if_neg h0, if_neg h226, if_neg h227, if_neg hr0, if_pos hr1]
            rw [ev] at hd hop
            simp [execOp, hop, hd, Oper.upon_value, Act.eval, build_val, Result.andThen]
            exact hI.fill hlt h0 (fun j hj => by omega) et
          · obtain ⟨j, rfl⟩ : ∃ j, i = 3 * j + 3 := ⟨(i - 1) / 3, by omega⟩
            have hj : j < 75 := by omega
            have ej : (3 * j + 3 - 1) / 3 = j := by omega
            have ev : viewAt (3 * j + 3) = (none, .insert 117 (.tmp 1) (.tmp (2 + 2 * j)) (.tmp (3 + 2 * j))) := by
              unfold viewAt; rw [if_neg h0, if_neg h226, if_neg h227, if_neg hr0, if_neg hr1, ej]
            rw [ev] at hd hop
            have hne : need (3 * j + 3) = [0, 3 * j + 1, 3 * j + 2] := by
              unfold need; rw [if_neg h0, if_neg h226, if_neg h227, if_pos (by omega)]; simp
            rw [hne] at hN
            have l0 := hN 0 (by simp)
            have s0 := hI.sl 0 1 _ rfl l0
            have s1 := hI.sl (3 * j + 1) (2 + 2 * j) (pKey (pRow j).1) (by
              unfold tgt; rw [if_neg (by omega), if_neg (by omega), if_neg (by omega), if_pos (by omega), show (3 * j + 1 - 1) / 3 = j by omega]) (hN _ (by simp))
            have s2 := hI.sl (3 * j + 2) (3 + 2 * j) (pVal (pRow j).2.1 (pRow j).2.2) (by
              unfold tgt; rw [if_neg (by omega), if_neg (by omega), if_neg (by omega), if_neg (by omega), if_pos (by omega), show (3 * j + 2 - 1) / 3 = j by omega]) (hN _ (by simp))
            obtain ⟨L, hM, hL⟩ := hI.tab l0
            obtain ⟨w', hrun, hM', hgr⟩ := hM.insert (fun x hx => ((hL x).1 hx).1) hj (fun hx => by have := ((hL j).1 hx).2; rw [hnl'] at this; cases this)
            simp [execOp, hop, hd, eval_tmp a _ _ s0, eval_tmp a _ _ s1, eval_tmp a _ _ s2, hrun, Oper.upon_skip, Result.andThen, Act.put]
            refine ⟨by simp [hI.size], hI.tsz, hI.defers, hI.bel.grown hgr hI.bel.size (fun k hk => by cases hk; exact Nat.le_refl _), ?_, ?_, ?_⟩
            · intro i' d' v' ht' hl'
              rw [hG] at hl'
              by_cases hii : 3 * j + 3 = i'
              · subst hii
                unfold tgt at ht'
                rw [if_neg h0, if_neg h226, if_neg h227, if_neg hr0, if_neg hr1] at ht'
                cases ht'
              · rw [if_neg hii] at hl'
                exact hI.sl i' d' v' ht' hl'
            · intro h; rw [hG, if_neg h0, l0] at h; cases h
            · intro _
              refine ⟨L ++ [j], hM', fun x => ?_⟩
              rw [hG]
              simp only [List.mem_append, List.mem_singleton, hL x]
              constructor
              · rintro (⟨hx, h'⟩ | rfl)
                · refine ⟨hx, ?_⟩
                  split
                  · rfl
                  · exact h'
                · exact ⟨hj, by rw [if_pos rfl]⟩
              · rintro ⟨hx, h'⟩
                by_cases hxj : x = j
                · exact .inr hxj
                · rw [if_neg (by omega)] at h'
                  exact .inl ⟨hx, h'⟩

theorem tab_all (ops : Array Oper) (w0 : World) (d0 : List Deferred) (hs : ops.size = 228)
    (hv : ∀ i, i < 228 → ∃ o, ops[i]? = some o ∧ (o.dst, o.op) = viewAt i) (ha : ∀ i, i < 228 → afterOk ops i = true)
    (listed : Array Bool) (a : Act) (w : World) (hI : TInv w0 d0 listed a w) (hr : Region.ready .any ops listed = []) : ∀ i, i < 228 → listed.getD i false = true := by
  intro i
  induction i using Nat.strongRecOn with
  | _ i ih =>
    intro hlt
    cases hl : listed.getD i false with
    | true => rfl
    | false =>
      exfalso
      have hil : i < listed.size := by rw [hI.size]; exact hlt
      have hnl : listed.getD i true = false := by
        rw [Array.getD_eq_getD_getElem?] at hl ⊢
        rw [Array.getElem?_eq_getElem hil] at hl ⊢
        exact hl
      obtain ⟨o, ho, _⟩ := hv i hlt
      have hok := ha i hlt
      unfold afterOk at hok
      rw [ho] at hok
      simp only [Bool.and_eq_true] at hok
      have hm : i ∈ Region.ready .any ops listed := by
        unfold Region.ready
        simp only [List.mem_filter, List.mem_range, Bool.and_eq_true, Bool.not_eq_true']
        refine ⟨by omega, hnl, ?_⟩
        rw [ho]
        simp only [Option.map_some, Option.getD_some]
        refine Array.all_eq_true'.2 fun e he => ?_
        have h2 := Array.all_eq_true'.1 hok.1.2 e he
        simp only [Bool.and_eq_true, decide_eq_true_eq] at h2
        rw [ih e.on h2.1 (by omega)]
        simp
      rw [hr] at hm
      cases hm

theorem tab_region (id : Nat) (ops : Array Oper) (Q : Exit → Act → World → Prop) (a : Act) (w : World) (hview : (ops.toList.map fun o => (o.dst, o.op)) = (List.range 228).map viewAt) (haft : ((List.range 228).all (afterOk ops)) = true) (ht : a.tmps.size = 153)
    (hK : ∀ a' w', a'.tmps[0]? = some (.map (some w.heap.size)) → a'.defers = a.defers → a'.tmps.size = 153 → (∃ L : List Nat, MapIs w.heap.size L w' ∧ ∀ j, j ∈ L ↔ j < 75) → Below w.heap.size w w' → Q .normal a' w') :
    (Code.region id ops true).wp Tryd.prog Q a w := by
  have hs : ops.size = 228 := by have := congrArg List.length hview; simpa using this
  have hv : ∀ i, i < 228 → ∃ o, ops[i]? = some o ∧ (o.dst, o.op) = viewAt i := fun i hi => by
    have h := congrArg (fun l => l[i]?) hview
    simp [hi] at h
    obtain ⟨o, ho, hvw⟩ := h
    exact ⟨o, ho, hvw⟩
  have ha : ∀ i, i < 228 → afterOk ops i = true := fun i hi => List.all_eq_true.1 haft i (List.mem_range.2 hi)
  refine wp_region_any (by kernel_rfl) (wpAny_inv (TInv w a.defers) ?_ ?_ _ _ _ _ ?_ ?_)
  · exact fun listed a' w' i hI hi => tab_step ops Q w a.defers hs hv ha listed a' w' i hI hi
  · intro listed a' w' hI hr
    have hall := tab_all ops w a.defers hs hv ha listed a' w' hI hr
    refine hK a' w' (hI.sl 227 0 _ rfl (hall 227 (by decide))) hI.defers hI.tsz ?_ hI.bel
    obtain ⟨L, hM, hL⟩ := hI.tab (hall 0 (by decide))
    refine ⟨L, hM, fun j => ?_⟩
    rw [hL j]
    exact ⟨fun h => h.1, fun h => ⟨h, hall _ (by omega)⟩⟩
  · exact Nat.le_trans List.count_le_length (by rw [Array.length_toList, Array.size_replicate]; exact Nat.le_refl _)
  · have hf : ∀ k, (Array.replicate ops.size false).getD k false = false := fun k => by
      rw [Array.getD_eq_getD_getElem?, Array.getElem?_replicate]
      split <;> rfl
    refine ⟨by simp [hs], ht, rfl, (Below.refl _ _).drew, ?_, ?_, ?_⟩
    · intro i d v _ h; rw [hf] at h; cases h
    · intro _; exact ⟨rfl, fun j _ => hf _⟩
    · intro h; rw [hf] at h; cases h

set_option maxRecDepth 100000 in
set_option maxHeartbeats 4000000 in
theorem partTable_any (w : World) :
    Calls Tryd.prog 123 #[] w fun e w' => e = .returned (.map (some w.heap.size)) ∧ (∃ L : List Nat, MapIs w.heap.size L w' ∧ ∀ j, j ∈ L ↔ j < 75) ∧ Below w.heap.size w w' := by
  go_enter Tryd.func123, Tryd.ntmps123
  go_wp2
  refine tab_region _ _ _ _ _ (by kernel_rfl) (by kernel_rfl) (by rfl) ?_
  intro a' w' h0 hd hsz hM hb
  rename_i K hk
  refine hk a' w' (wp_ret ?_)
  have hres : a'.tmps.getD 0 undef = .map (some w.heap.size) := by rw [Array.getD_eq_getD_getElem?, h0]; rfl
  refine bodyPost_ret (fn := Tryd.f123) ((results_tmp rfl a'.tmps Tryd.prog w').trans (by rw [hres])) hd ⟨rfl, hM, hb⟩
end

end Go.Proofs.YtlkemmdcjnaepaaDoor
