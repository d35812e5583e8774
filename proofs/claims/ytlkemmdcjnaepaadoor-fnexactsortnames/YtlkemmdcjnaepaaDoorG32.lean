/- Names in order: a map by an array of two numbers: how it is looked up, and how an entry of it is counted up. -/
import Derived.Test.YtlkemmdcjnaepaaDoorRows
import Derived.Test.YtlkemmdcjnaepaaDoorG00
import Derived.ChangeKeysEq
import Derived.ChangeMaps5
import Derived.MapKept
namespace Go.Proofs.YtlkemmdcjnaepaaDoor

section
open Go.RowKit Go.ChangeMaps Go.MapKept

def aKey (a b : Nat) : Value := .agg #[.int .i64 a, .int .i64 b]
theorem aKey_inj {a b c d : Nat} (h : aKey a b = aKey c d) : a = c ∧ b = d := by
  simp only [aKey, Value.agg.injEq, Array.mk.injEq, List.cons.injEq, Value.int.injEq, true_and, and_true] at h
  omega
theorem two_eq (a b c d : Nat) (w : World) : (Op.equal 77 (aKey a b) (aKey c d)).run Tryd.prog w = .ok (decide (a = c ∧ b = d)) w := by
  obtain ⟨i, hi⟩ : ∃ i, Tryd.prog.info? 3 = some i := info_of_underlying Tryd.underlying3
  have hc : Tryd.prog.cellsOf 3 = 1 := by kernel_rfl
  have h := run_equalIn_array (P := Tryd.prog) w 9999 #[.int .i64 a, .int .i64 b] #[.int .i64 c, .int .i64 d] Tryd.underlying77 hi
  have h1 := run_equalIn_int (P := Tryd.prog) (w := w) 9998 3 .i64 .i64 a c Tryd.underlying3
  have h2 := run_equalIn_int (P := Tryd.prog) (w := w) 9998 3 .i64 .i64 b d Tryd.underlying3
  show (Op.equalIn 10000 77 (.agg #[.int .i64 a, .int .i64 b]) (.agg #[.int .i64 c, .int .i64 d])).run Tryd.prog w = _
  have e0 : decide (a = c ∧ b = d) = (((a : Int) == (c : Int)) && ((b : Int) == (d : Int))) := by
    rw [Bool.eq_iff_iff, decide_eq_true_eq, Bool.and_eq_true, beq_iff_eq, beq_iff_eq]
    omega
  rw [h, hc, e0, show List.range 2 = [0, 1] from rfl]
  cases e1 : (a : Int) == (c : Int) <;> cases e2 : (b : Int) == (d : Int) <;> simp [Op.eqItems, part, Tryd.isAgg3, h1, h2, e1, e2]
theorem two_ok (e : Bool) (a b : Nat) (w : World) : (Instr.checkKey e 10000 77 (aKey a b)).run Tryd.prog w = .ok () w := by
  kernel_rfl
theorem two_asking (a b : Nat) (w : World) (es : List MapEntry) : (Instr.findKey 77 (aKey a b) es).run Tryd.prog w = (Instr.findAsking 77 (aKey a b) es 0).run Tryd.prog w := by
  have hu := run_underlying Tryd.underlying77 (w := w)
  unfold Instr.findKey
  cases es with
  | nil => simp [hu, Instr.findNow, Instr.findAsking]
  | cons e es => simp [hu, Instr.findNow, Instr.sameNow, aKey]
/-- the first entry of that key -/
inductive FindsK (a b : Nat) : List MapEntry → Option (Nat × MapEntry) → Prop
  | nil : FindsK a b [] none
  | here (e : MapEntry) (es : List MapEntry) (h : e.key = aKey a b) : FindsK a b (e :: es) (some (0, e))
  | off (e : MapEntry) (es : List MapEntry) (c d : Nat) (h : e.key = aKey c d) (hn : ¬ (a = c ∧ b = d)) (r : FindsK a b es none) : FindsK a b (e :: es) none
  | on (e : MapEntry) (es : List MapEntry) (c d : Nat) (h : e.key = aKey c d) (hn : ¬ (a = c ∧ b = d)) (j : Nat) (x : MapEntry) (r : FindsK a b es (some (j, x))) : FindsK a b (e :: es) (some (j + 1, x))
theorem finds_any (a b : Nat) : ∀ es : List MapEntry, (∀ e ∈ es, ∃ c d, e.key = aKey c d) → ∃ r, FindsK a b es r
  | [], _ => ⟨_, .nil⟩
  | e :: es, h => by
    obtain ⟨c, d, hk⟩ := h e (List.mem_cons_self ..)
    by_cases hn : a = c ∧ b = d
    · exact ⟨_, .here e es (by rw [hk, hn.1, hn.2])⟩
    · obtain ⟨r, hr⟩ := finds_any a b es (fun x hx => h x (List.mem_cons_of_mem _ hx))
      cases r with
      | none => exact ⟨_, .off e es c d hk hn hr⟩
      | some p => exact ⟨_, .on e es c d hk hn p.1 p.2 hr⟩
theorem FindsK.run {a b : Nat} {es : List MapEntry} {r : Option (Nat × MapEntry)} (h : FindsK a b es r) (w : World) : ∀ i, (Instr.findAsking 77 (aKey a b) es i).run Tryd.prog w = .ok (r.map fun p => (i + p.1, p.2.val)) w := by
  induction h with
  | nil => intro i; rfl
  | here e es h =>
    intro i
    unfold Instr.findAsking
    simp only [Sem.run_bind, h, two_eq, Result.andThen_ok]
    simp
  | off e es c d h hn r ih =>
    intro i
    unfold Instr.findAsking
    simp only [Sem.run_bind, h, two_eq, Result.andThen_ok, decide_eq_false hn]
    simpa using ih (i + 1)
  | on e es c d h hn j x r ih =>
    intro i
    unfold Instr.findAsking
    simp only [Sem.run_bind, h, two_eq, Result.andThen_ok, decide_eq_false hn]
    have := ih (i + 1)
    simp only [Option.map_some] at this ⊢
    rw [show i + (j + 1) = i + 1 + j by omega]
    simpa using this
theorem FindsK.at {a b : Nat} {es : List MapEntry} {j : Nat} {x : MapEntry} (h : FindsK a b es (some (j, x))) : es[j]? = some x ∧ x.key = aKey a b := by
  generalize hr : some (j, x) = r at h
  induction h generalizing j with
  | nil => cases hr
  | here e es h => cases hr; exact ⟨rfl, h⟩
  | off => cases hr
  | on e es c d h hn k y r ih =>
    cases hr
    have := ih rfl
    exact ⟨by simpa using this.1, this.2⟩
theorem FindsK.no {a b : Nat} {es : List MapEntry} (h : FindsK a b es none) : ∀ e ∈ es, e.key ≠ aKey a b := by
  generalize hr : (none : Option (Nat × MapEntry)) = r at h
  induction h with
  | nil => intro e he; cases he
  | here e es h => cases hr
  | off e es c d h hn r ih =>
    intro x hx hk
    rcases List.mem_cons.1 hx with rfl | hx
    · rw [h] at hk
      have := aKey_inj hk
      exact hn ⟨this.1.symm, this.2.symm⟩
    · exact ih rfl x hx hk
  | on => cases hr
theorem FindsK.push {a b : Nat} {es : List MapEntry} (h : FindsK a b es none) (x : MapEntry) (hx : x.key = aKey a b) : FindsK a b (es ++ [x]) (some (es.length, x)) := by
  generalize hr : (none : Option (Nat × MapEntry)) = r at h
  induction h with
  | nil => exact .here x [] hx
  | here e es h => cases hr
  | off e es c d h hn r ih => exact .on e _ c d h hn _ _ (ih rfl)
  | on => cases hr
theorem FindsK.put {a b : Nat} {es : List MapEntry} {j : Nat} {x : MapEntry} (h : FindsK a b es (some (j, x))) (y : MapEntry) (hy : y.key = aKey a b) : FindsK a b (es.set j y) (some (j, y)) := by
  generalize hr : some (j, x) = r at h
  induction h generalizing j with
  | nil => cases hr
  | here e es h => cases hr; exact .here y es hy
  | off => cases hr
  | on e es c d h hn k z r ih =>
    cases hr
    exact .on e _ c d h hn _ _ (ih rfl)

/-- block g is a map whose keys are those of S; each entry holds a number -/
def QMap (g : Nat) (S : Nat → Nat → Prop) (w : World) : Prop :=
  ∃ es clk, w.heap[g]? = some (.map es clk) ∧ Stamped es clk ∧ (∀ e ∈ es.toList, ∃ c d, e.key = aKey c d ∧ S c d) ∧ (∀ e ∈ es.toList, ∃ n : Int, e.val = .int .i64 n) ∧ ∀ c d, S c d → ∃ e ∈ es.toList, e.key = aKey c d
theorem QMap.made (w : World) : QMap w.heap.size (fun _ _ => False) (w.alloc (.map #[] 0)) :=
  ⟨#[], 0, by show (w.heap.push _)[w.heap.size]? = _; simp, stamped_empty 0, fun e he => by simp at he, fun e he => by simp at he, fun c d h => h.elim⟩
theorem QMap.lt {g : Nat} {S : Nat → Nat → Prop} {w : World} (h : QMap g S w) : g < w.heap.size := by
  obtain ⟨es, clk, hb, _⟩ := h
  exact lt_of_block hb
theorem QMap.kept {g : Nat} {S : Nat → Nat → Prop} {w w' : World} (h : QMap g S w) (e : w'.heap[g]? = w.heap[g]?) : QMap g S w' := by
  obtain ⟨es, clk, hb, h⟩ := h
  exact ⟨es, clk, e.trans hb, h⟩
theorem QMap.iff {g : Nat} {S T : Nat → Nat → Prop} {w : World} (h : QMap g S w) (hst : ∀ c d, S c d ↔ T c d) : QMap g T w := by
  obtain ⟨es, clk, hb, h1, h2, h3, h4⟩ := h
  refine ⟨es, clk, hb, h1, fun e he => ?_, h3, fun c d h => h4 c d ((hst c d).2 h)⟩
  obtain ⟨c, d, hk, hs⟩ := h2 e he
  exact ⟨c, d, hk, (hst c d).1 hs⟩

theorem idx_born {es : List MapEntry} (hn : (es.map (·.born)).Nodup) {j : Nat} {e : MapEntry} (h : es[j]? = some e) : es.findIdx? (fun x => (x.born : Int) == (e.born : Int)) = some j := by
  obtain ⟨hj, rfl⟩ := List.getElem?_eq_some_iff.1 h
  rw [List.findIdx?_eq_some_iff_getElem]
  refine ⟨hj, by simp, fun k hk => ?_⟩
  have hk' : k < es.length := by omega
  simp only [beq_iff_eq]
  intro hb
  have hb : es[k].born = es[j].born := by omega
  have := (List.pairwise_iff_getElem.1 hn) k j (by simpa using hk') (by simpa using hj) hk
  simp at this
  exact this hb
theorem lookup_at {w : World} {g clk : Nat} {es : Array MapEntry} {a b : Nat} {r : Option (Nat × MapEntry)} (hb : w.heap[g]? = some (.map es clk)) (hf : FindsK a b es.toList r) :
    (Instr.lookup 75 (.map (some g)) (aKey a b) false).run Tryd.prog w = .ok ((r.map (·.2.val)).getD (.int .i64 0)) w := by
  have hz : (zeroValue 3).run Tryd.prog w = .ok (.int .i64 0) w := by kernel_rfl
  have hfa := (two_asking a b w es.toList).trans (hf.run w 0)
  cases r with
  | none => simp [Instr.lookup, run_underlying Tryd.underlying75, MapKept.run_getObj_map hb, two_ok, hfa, hz]
  | some p => simp [Instr.lookup, run_underlying Tryd.underlying75, MapKept.run_getObj_map hb, two_ok, hfa]
theorem same_two (a b : Nat) : Instr.sameBits 10000 (aKey a b) (aKey a b) = true := by
  simp [Instr.sameBits, aKey]
/-- an entry is counted up: it is there, and then holds what is stored -/
theorem QMap.count {g : Nat} {S : Nat → Nat → Prop} {w : World} (h : QMap g S w) (a b : Nat) :
    ∃ (v st : Int) (w1 : World), (Instr.lookup 75 (.map (some g)) (aKey a b) false).run Tryd.prog w = .ok (.int .i64 v) w ∧
      (Instr.mapEntry 75 (.map (some g)) (aKey a b)).run Tryd.prog w = .ok (.tuple #[.int .i64 v, .int .i64 st]) w1 ∧
      (Instr.lookup 75 (.map (some g)) (aKey a b) false).run Tryd.prog w1 = .ok (.int .i64 v) w1 ∧ w.grownBy w1 (some g) ∧ (¬ S a b → v = 0) ∧
      ∀ x : Int, ∃ w2, (Instr.entryStore 75 (.map (some g)) (.int .i64 st) (.int .i64 x)).run Tryd.prog w1 = .ok () w2 ∧ QMap g (fun c d => S c d ∨ (c = a ∧ d = b)) w2 ∧
        (Instr.lookup 75 (.map (some g)) (aKey a b) false).run Tryd.prog w2 = .ok (.int .i64 x) w2 ∧ w.grownBy w2 (some g) ∧ w2.heap.size = w.heap.size := by
  obtain ⟨es, clk, hb, hst, hS, hV, hC⟩ := h
  have hgb : ∀ (W : World) (o : Obj), W.heap[g]? = some (.map es clk) ∨ True → W.grownBy (setBlock W g o) (some g) := fun W o _ => ⟨rfl, rfl, rfl, by simp [setBlock], fun i hi hne => by
    simp only [setBlock, Array.getElem?_setIfInBounds]
    rw [if_neg (fun e => hne (by rw [e]))]⟩
  obtain ⟨r, hr⟩ := finds_any a b es.toList (fun e he => by obtain ⟨c, d, hk, _⟩ := hS e he; exact ⟨c, d, hk⟩)
  have hfa := (two_asking a b w es.toList).trans (hr.run w 0)
  -- what stands behind the entry's making
  have key : ∀ (w1 : World) (es1 : Array MapEntry) (clk1 j : Nat) (e1 : MapEntry), w1.heap[g]? = some (.map es1 clk1) → Stamped es1 clk1 → FindsK a b es1.toList (some (j, e1)) → w.grownBy w1 (some g) → w1.heap.size = w.heap.size →
      (∀ e ∈ es1.toList, ∃ c d, e.key = aKey c d ∧ (S c d ∨ (c = a ∧ d = b))) → (∀ e ∈ es1.toList, ∃ n : Int, e.val = .int .i64 n) → (∀ c d, (S c d ∨ (c = a ∧ d = b)) → ∃ e ∈ es1.toList, e.key = aKey c d) →
      ∀ x : Int, ∃ w2, (Instr.entryStore 75 (.map (some g)) (.int .i64 (e1.born : Int)) (.int .i64 x)).run Tryd.prog w1 = .ok () w2 ∧ QMap g (fun c d => S c d ∨ (c = a ∧ d = b)) w2 ∧
        (Instr.lookup 75 (.map (some g)) (aKey a b) false).run Tryd.prog w2 = .ok (.int .i64 x) w2 ∧ w.grownBy w2 (some g) ∧ w2.heap.size = w.heap.size := by
    intro w1 es1 clk1 j e1 hb1 hst1 hf1 hg1 hz1 hS1 hV1 hC1 x
    obtain ⟨hat, hkey⟩ := hf1.at
    have hat2 : es1[j]? = some e1 := by simpa using hat
    have hidx := idx_born hst1.2.1 hat
    have hidx2 : es1.findIdx? (fun e => (e.born : Int) == (e1.born : Int)) = some j := by
      have e : ∀ (A : Array MapEntry) (q : MapEntry → Bool), A.findIdx? q = A.toList.findIdx? q := fun A q => by cases A; exact List.findIdx?_toArray ..
      rw [e, hidx]
    have hb2 := heap_setBlock_same hb1 (.map (es1.modify j fun e => { e with val := .int .i64 x }) clk1)
    have hmod : (es1.modify j fun e => { e with val := .int .i64 x }).toList = es1.toList.set j { e1 with val := .int .i64 x } := by
      apply List.ext_getElem?
      intro k
      rw [Array.getElem?_toList, Array.getElem?_modify, List.getElem?_set, Array.getElem?_toList]
      by_cases e : j = k
      · subst e
        have hlt := (List.getElem?_eq_some_iff.1 hat).1
        rw [if_pos rfl, if_pos rfl, if_pos (by simpa using hlt), hat2]
        rfl
      · rw [if_neg e, if_neg e]
    have hf2 : FindsK a b (es1.modify j fun e => { e with val := .int .i64 x }).toList (some (j, { e1 with val := .int .i64 x })) := by
      rw [hmod]; exact hf1.put _ hkey
    have hmem : ∀ e ∈ (es1.modify j fun e => { e with val := .int .i64 x }).toList, e ∈ es1.toList ∨ e = { e1 with val := .int .i64 x } := fun e he => by
      rw [hmod] at he
      exact List.mem_or_eq_of_mem_set he
    refine ⟨_, ?_, ⟨_, _, hb2, stamped_modify hst1 j _ (fun _ _ => rfl) (fun _ _ _ => rfl), fun e he => ?_, fun e he => ?_, fun c d hcd => ?_⟩, ?_, ?_, ?_⟩
    · simp [Instr.entryStore, MapKept.run_getObj_map hb1, asInt, asIntOf, hidx2, MapKept.run_setObj_map _ hb1, Result.andThen, setBlock]
    · rcases hmem e he with he | rfl
      · exact hS1 e he
      · exact ⟨a, b, hkey, .inr ⟨rfl, rfl⟩⟩
    · rcases hmem e he with he | rfl
      · exact hV1 e he
      · exact ⟨x, rfl⟩
    · obtain ⟨e, he, hk⟩ := hC1 c d hcd
      obtain ⟨k, hk2, rfl⟩ := List.getElem_of_mem he
      rw [hmod]
      by_cases e : j = k
      · subst e
        refine ⟨{ e1 with val := .int .i64 x }, List.mem_iff_getElem.2 ⟨j, by simpa using hk2, by simp⟩, ?_⟩
        have : es1.toList[j] = e1 := by rw [List.getElem?_eq_getElem hk2] at hat; exact Option.some.inj hat
        rw [← hk, this]
      · refine ⟨es1.toList[k], ?_, hk⟩
        rw [List.mem_iff_getElem]
        exact ⟨k, by simpa using hk2, by rw [List.getElem_set_ne e]⟩
    · exact lookup_at hb2 hf2
    · exact gbi_trans hg1 (hgb w1 _ (.inr trivial))
    · simp [setBlock, hz1]
  cases r with
  | none =>
    have hno := hr.no
    have hl0 := lookup_at hb hr
    have hb1 := heap_setBlock_same hb (.map (es.push { key := aKey a b, val := .int .i64 0, born := clk }) (clk + 1))
    have hf1 : FindsK a b (es.push { key := aKey a b, val := .int .i64 0, born := clk }).toList (some (es.toList.length, { key := aKey a b, val := .int .i64 0, born := clk })) := by
      rw [Array.toList_push]; exact hr.push _ rfl
    have hz : (zeroValue 3).run Tryd.prog w = .ok (.int .i64 0) w := by kernel_rfl
    refine ⟨0, clk, _, hl0, ?_, lookup_at hb1 hf1, hgb w _ (.inr trivial), fun _ => rfl, key _ _ _ _ _ hb1 (stamped_push hst hno) hf1 (hgb w _ (.inr trivial)) (by simp [setBlock]) (fun e he => ?_) (fun e he => ?_) (fun c d hcd => ?_)⟩
    · simp [Instr.mapEntry, run_underlying Tryd.underlying75, MapKept.run_getObj_map hb, two_ok, hfa, hz, MapKept.run_setObj_map _ hb, Result.andThen, setBlock, goInt]
    · rw [Array.toList_push, List.mem_append, List.mem_singleton] at he
      rcases he with he | rfl
      · obtain ⟨c, d, hk, hs⟩ := hS e he
        exact ⟨c, d, hk, .inl hs⟩
      · exact ⟨a, b, rfl, .inr ⟨rfl, rfl⟩⟩
    · rw [Array.toList_push, List.mem_append, List.mem_singleton] at he
      rcases he with he | rfl
      · exact hV e he
      · exact ⟨0, rfl⟩
    · rw [Array.toList_push]
      rcases hcd with hcd | ⟨rfl, rfl⟩
      · obtain ⟨e, he, hk⟩ := hC c d hcd
        exact ⟨e, by simp [he], hk⟩
      · exact ⟨{ key := aKey c d, val := .int .i64 0, born := clk }, by simp, rfl⟩
  | some p =>
    obtain ⟨j, e1⟩ := p
    obtain ⟨hat, hkey⟩ := hr.at
    have hat2 : es[j]? = some e1 := by simpa using hat
    have hm1 : e1 ∈ es.toList := List.mem_of_getElem? hat
    obtain ⟨v, hv⟩ := hV e1 hm1
    have hl0 := lookup_at hb hr
    simp only [Option.map_some, Option.getD_some, hv] at hl0
    have hmod : (es.modify j fun e => { e with key := aKey a b }) = es := by
      apply Array.ext_getElem?
      intro k
      rw [Array.getElem?_modify]
      by_cases e : j = k
      · subst e
        rw [if_pos rfl, hat2]
        obtain ⟨k0, v0, b0⟩ := e1
        simp only at hkey
        subst hkey
        rfl
      · rw [if_neg e]
    have hb1 := heap_setBlock_same hb (.map es clk)
    have hSab : S a b := by
      obtain ⟨c, d, hk, hs⟩ := hS e1 hm1
      rw [hkey] at hk
      obtain ⟨rfl, rfl⟩ := aKey_inj hk
      exact hs
    have hl1 := lookup_at hb1 hr
    simp only [Option.map_some, Option.getD_some, hv] at hl1
    refine ⟨v, e1.born, _, hl0, ?_, hl1, hgb w _ (.inr trivial), fun hn => absurd hSab hn, key _ _ _ _ _ hb1 hst hr (hgb w _ (.inr trivial)) (by simp [setBlock]) (fun e he => ?_) hV (fun c d hcd => ?_)⟩
    · have hks : (Instr.keyThatStays (aKey a b) (aKey a b)).run Tryd.prog w = .ok (aKey a b) w := by simp [Instr.keyThatStays, same_two]
      simp [Instr.mapEntry, run_underlying Tryd.underlying75, MapKept.run_getObj_map hb, two_ok, hfa, hat2, hkey, hks, hmod, hv, MapKept.run_setObj_map _ hb, Result.andThen, setBlock, goInt]
    · obtain ⟨c, d, hk, hs⟩ := hS e he
      exact ⟨c, d, hk, .inl hs⟩
    · rcases hcd with hcd | ⟨rfl, rfl⟩
      · exact hC c d hcd
      · exact ⟨e1, hm1, hkey⟩
end

end Go.Proofs.YtlkemmdcjnaepaaDoor
