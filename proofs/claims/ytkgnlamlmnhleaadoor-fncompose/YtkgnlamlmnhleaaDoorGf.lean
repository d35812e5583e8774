/- Signs put together: the map that impl.pairTable makes: how it is written, and how it is looked up. Signs put together: impl.pairTable: it goes through the table of parts in whatever order, and makes the map of all pairs. Signs put together: impl.pairTable's walk, and the source that keeps its map. Signs put together: impl.Pair, by the source that keeps the map of all pairs. Rows of whole numbers: what an append leaves as it was. Signs put together: impl.Compose. -/
import Derived.Test.YtkgnlamlmnhleaaDoorRows
import Derived.Test.YtkgnlamlmnhleaaDoorIMap
import Derived.Test.YtkgnlamlmnhleaaDoorGb
import Derived.Test.YtkgnlamlmnhleaaDoorITab
import Derived.Test.YtkgnlamlmnhleaaDoorISrc
import Derived.Test.YtkgnlamlmnhleaaDoorIBtw
import Derived.Test.YtkgnlamlmnhleaaDoorICls
import Derived.Test.YtkgnlamlmnhleaaDoorIntS
import Derived.Test.YtkgnlamlmnhleaaDoorGc
import Derived.ChangeKeysEq
import Derived.Maps.RangeRun
import Derived.Maps.RangeWalk
import Derived.Laws.AppendOwnNone
import Derived.Deep.AppendSrc
import Derived.Lib.AppendZeros
import Derived.WalkMore
import Derived.Deep.Cut
import Derived.Deep.CutRange
namespace Go.Proofs.YtkgnlamlmnhleaaDoor

section
open Go.RowKit Go.ChangeMaps Go.MapKept

def qKey (a b : Int) : Value := .agg #[.int .i64 a, .int .i64 b]
def qFind (a b : Int) : List (Int × Int × Int) → Option Int
  | [] => none
  | e :: es => if (a == e.2.1 && b == e.2.2) = true then some e.1 else qFind a b es

theorem arr_eq (a b c d : Int) (w : World) : (Op.equal 79 (qKey a b) (qKey c d)).run Tryd.prog w = .ok (a == c && b == d) w := by
  obtain ⟨i, hi⟩ : ∃ i, Tryd.prog.info? 3 = some i := ⟨_, rfl⟩
  have hc : Tryd.prog.cellsOf 3 = 1 := by kernel_rfl
  have h := run_equalIn_array (P := Tryd.prog) w 9999 #[.int .i64 a, .int .i64 b] #[.int .i64 c, .int .i64 d] Tryd.underlying79 hi
  have h1 := run_equalIn_int (P := Tryd.prog) (w := w) 9998 3 .i64 .i64 a c Tryd.underlying3
  have h2 := run_equalIn_int (P := Tryd.prog) (w := w) 9998 3 .i64 .i64 b d Tryd.underlying3
  show (Op.equalIn 10000 79 (.agg #[.int .i64 a, .int .i64 b]) (.agg #[.int .i64 c, .int .i64 d])).run Tryd.prog w = _
  rw [h, hc, show List.range 2 = [0, 1] from rfl]
  cases e1 : a == c <;> cases e2 : b == d <;> simp [Op.eqItems, part, Tryd.isAgg3, h1, h2, e1, e2]
theorem arr_ok (e : Bool) (a b : Int) (w : World) : (Instr.checkKey e 10000 79 (qKey a b)).run Tryd.prog w = .ok () w := by
  kernel_rfl
theorem q_none (a b : Int) (w : World) : ∀ (es : List MapEntry) (i : Nat), (∀ e ∈ es, ∃ x y, e.key = qKey x y ∧ (a == x && b == y) = false) → (Instr.findAsking 79 (qKey a b) es i).run Tryd.prog w = .ok none w
  | [], i, _ => rfl
  | e :: es, i, h => by
    obtain ⟨x, y, hk, hne⟩ := h e (by simp)
    have ih := q_none a b w es (i + 1) (fun e' he' => h e' (by simp [he']))
    unfold Instr.findAsking
    simp only [Sem.run_bind, hk, arr_eq, hne, Result.andThen_ok]
    simpa using ih
theorem q_find (a b : Int) (w : World) : ∀ (L : List (Int × Int × Int)) (i : Nat) (es : List MapEntry), (es.map fun e => (e.key, e.val)) = (L.map fun e => (qKey e.2.1 e.2.2, Value.int .i64 e.1)) →
    ((Instr.findAsking 79 (qKey a b) es i).run Tryd.prog w = .ok none w ∧ qFind a b L = none) ∨
    (∃ j c, (Instr.findAsking 79 (qKey a b) es i).run Tryd.prog w = .ok (some (j, .int .i64 c)) w ∧ qFind a b L = some c)
  | [], i, [], h => .inl ⟨rfl, rfl⟩
  | [], i, e :: es, h => by simp at h
  | x :: L, i, [], h => by simp at h
  | x :: L, i, e :: es, h => by
    simp at h
    obtain ⟨⟨h1, h2⟩, h3⟩ := h
    have ih := q_find a b w L (i + 1) es (by simpa using h3)
    unfold Instr.findAsking qFind
    simp only [Sem.run_bind, h1, arr_eq, Result.andThen_ok]
    cases hb : (a == x.2.1 && b == x.2.2)
    · simpa using ih
    · right
      exact ⟨i, x.1, by simp [h2], by simp⟩
theorem q_asking (a b : Int) (w : World) (es : List MapEntry) : (Instr.findKey 79 (qKey a b) es).run Tryd.prog w = (Instr.findAsking 79 (qKey a b) es 0).run Tryd.prog w := by
  have hu := run_underlying Tryd.underlying79 (w := w)
  unfold Instr.findKey
  cases es with
  | nil => simp [hu, Instr.findNow, Instr.findAsking]
  | cons e es => simp [hu, Instr.findNow, Instr.sameNow, qKey]

/-- block g of w is a map of the rows L, each sign behind its two parts -/
def PairsIs (g : Nat) (L : List (Int × Int × Int)) (w : World) : Prop :=
  ∃ es clk, w.heap[g]? = some (.map es clk) ∧ (es.toList.map fun e => (e.key, e.val)) = (L.map fun e => (qKey e.2.1 e.2.2, Value.int .i64 e.1))
theorem PairsIs.made (w : World) : PairsIs w.heap.size [] (w.alloc (.map #[] 0)) := ⟨#[], 0, by show (w.heap.push _)[w.heap.size]? = _; simp, rfl⟩
theorem PairsIs.lt {g : Nat} {L : List (Int × Int × Int)} {w : World} (h : PairsIs g L w) : g < w.heap.size := by
  obtain ⟨es, clk, hb, _⟩ := h
  exact lt_of_block hb
theorem PairsIs.kept {g : Nat} {L : List (Int × Int × Int)} {w w' : World} (h : PairsIs g L w) (e : w'.heap[g]? = w.heap[g]?) : PairsIs g L w' := by
  obtain ⟨es, clk, hb, hes⟩ := h
  exact ⟨es, clk, e.trans hb, hes⟩
theorem q_keys {es : List MapEntry} {L : List (Int × Int × Int)} (h : (es.map fun e => (e.key, e.val)) = (L.map fun e => (qKey e.2.1 e.2.2, Value.int .i64 e.1))) : ∀ e ∈ es, ∃ x ∈ L, e.key = qKey x.2.1 x.2.2 := by
  intro e he
  have : (e.key, e.val) ∈ (L.map fun e => (qKey e.2.1 e.2.2, Value.int .i64 e.1)) := by rw [← h]; exact List.mem_map_of_mem he
  obtain ⟨x, hx, hxe⟩ := List.mem_map.1 this
  exact ⟨x, hx, (congrArg Prod.fst hxe).symm⟩
theorem PairsIs.insert {g : Nat} {L : List (Int × Int × Int)} {w : World} (h : PairsIs g L w) (x : Int × Int × Int) (hn : ∀ y ∈ L, y.2 ≠ x.2) :
    ∃ w', (Instr.mapUpdate 38 (.map (some g)) (qKey x.2.1 x.2.2) (.int .i64 x.1)).run Tryd.prog w = .ok () w' ∧ PairsIs g (L ++ [x]) w' ∧ w.grownBy w' (some g) ∧ w'.heap.size = w.heap.size := by
  obtain ⟨es, clk, hb, hes⟩ := h
  have hks := q_keys hes
  have hnone : (Instr.findKey 79 (qKey x.2.1 x.2.2) es.toList).run Tryd.prog w = .ok none w := by
    rw [q_asking]
    refine q_none _ _ w _ 0 fun e he => ?_
    obtain ⟨y, hy, hye⟩ := hks e he
    refine ⟨_, _, hye, ?_⟩
    cases hq : (x.2.1 == y.2.1 && x.2.2 == y.2.2)
    · rfl
    · simp only [Bool.and_eq_true, beq_iff_eq] at hq
      exact absurd (Prod.ext hq.1.symm hq.2.symm) (hn y hy)
  have hrun : (Instr.mapUpdate 38 (.map (some g)) (qKey x.2.1 x.2.2) (.int .i64 x.1)).run Tryd.prog w = .ok () (setBlock w g (.map (es.push ⟨qKey x.2.1 x.2.2, .int .i64 x.1, clk⟩) (clk + 1))) := by
    simp [Instr.mapUpdate, run_underlying Tryd.underlying38, MapKept.run_getObj_map hb, arr_ok, hnone, MapKept.run_setObj_map _ hb, Result.andThen, setBlock]
  refine ⟨_, hrun, ⟨_, _, heap_setBlock_same hb _, ?_⟩, ⟨rfl, rfl, rfl, by simp [setBlock], fun i _ hi => heap_setBlock_other hb _ (fun e => hi (by rw [e]))⟩, by simp [setBlock]⟩
  rw [List.map_append, ← hes]
  simp
theorem PairsIs.lookup {g : Nat} {L : List (Int × Int × Int)} {w : World} (h : PairsIs g L w) (a b : Int) :
    (Instr.lookup 38 (.map (some g)) (.agg #[.int .i64 a, .int .i64 b]) true).run Tryd.prog w = .ok (.tuple #[.int .i64 ((qFind a b L).getD 0), .bool (qFind a b L).isSome]) w := by
  obtain ⟨es, clk, hb, hes⟩ := h
  have hk : (.agg #[.int .i64 a, .int .i64 b] : Value) = qKey a b := rfl
  have hz : (zeroValue 3).run Tryd.prog w = .ok (.int .i64 0) w := by kernel_rfl
  have hfa := q_asking a b w es.toList
  rw [hk]
  rcases q_find a b w L 0 es.toList hes with ⟨h1, h2⟩ | ⟨j, c, h1, h2⟩
  · rw [h1] at hfa
    rw [h2]
    simp [Instr.lookup, run_underlying Tryd.underlying38, MapKept.run_getObj_map hb, arr_ok, hfa, hz]
  · rw [h1] at hfa
    rw [h2]
    simp [Instr.lookup, run_underlying Tryd.underlying38, MapKept.run_getObj_map hb, arr_ok, hfa]

theorem qFind_mem {a b c : Int} : ∀ {L : List (Int × Int × Int)}, qFind a b L = some c → (c, a, b) ∈ L
  | [], h => by cases h
  | e :: L, h => by
    unfold qFind at h
    split at h
    · rename_i hq
      simp only [Bool.and_eq_true, beq_iff_eq] at hq
      injection h with h
      rw [hq.1, hq.2, ← h]
      simp
    · exact List.mem_cons_of_mem _ (qFind_mem h)
theorem qFind_none {a b : Int} : ∀ {L : List (Int × Int × Int)}, qFind a b L = none → ∀ x ∈ L, x.2 ≠ (a, b)
  | [], _, x, hx => by cases hx
  | e :: L, h, x, hx => by
    unfold qFind at h
    split at h
    · cases h
    · rename_i hq
      rcases List.mem_cons.1 hx with rfl | hx
      · intro e
        apply hq
        rw [e]; simp
      · exact qFind_none h x hx
/-- the rows of the table that have two parts -/
def AllPairs (L : List (Int × Int × Int)) : Prop := ∀ x, x ∈ L ↔ (x ∈ pTab ∧ x.2.2 ≠ 0)
theorem qFind_all {L : List (Int × Int × Int)} (h : AllPairs L) (a b : Int) : qFind a b L = pairT a b := by
  cases hq : qFind a b L with
  | some c =>
    obtain ⟨h1, h2⟩ := (h _).1 (qFind_mem hq)
    unfold pairT
    cases hf : pTab.find? fun r => r.2.1 == a && (r.2.2 == b && r.2.2 != 0) with
    | none =>
      have := List.find?_eq_none.1 hf _ h1
      exact absurd (by simpa using h2) this
    | some r =>
      have hp := List.find?_some hf
      have hm := List.mem_of_find?_eq_some hf
      simp only [Bool.and_eq_true, beq_iff_eq, bne_iff_ne] at hp
      exact congrArg some (ptab_uniq _ h1 r hm (Prod.ext hp.1.symm hp.2.1.symm))
  | none =>
    cases hp : pairT a b with
    | none => rfl
    | some c =>
      exfalso
      unfold pairT at hp
      obtain ⟨r, hr, rfl⟩ := Option.map_eq_some_iff.1 hp
      have hpr := List.find?_some hr
      have hm := List.mem_of_find?_eq_some hr
      simp only [Bool.and_eq_true, beq_iff_eq, bne_iff_ne] at hpr
      exact qFind_none hq r ((h r).2 ⟨hm, hpr.2.2⟩) (Prod.ext hpr.1 hpr.2.1)
theorem ptab_cls : ∀ r ∈ pTab, r.2.2 ≠ 0 → 0 < clsN r.2.2 := by decide
theorem pairT_cls {a b : Int} (h : ¬ 0 < clsN b) : pairT a b = none := by
  cases hp : pairT a b with
  | none => rfl
  | some c =>
    exfalso
    unfold pairT at hp
    obtain ⟨r, hr, rfl⟩ := Option.map_eq_some_iff.1 hp
    have hpr := List.find?_some hr
    have hm := List.mem_of_find?_eq_some hr
    simp only [Bool.and_eq_true, beq_iff_eq, bne_iff_ne] at hpr
    have := ptab_cls r hm hpr.2.2
    rw [hpr.2.1] at this
    exact h this
end

section
open Go.RowKit Go.ChangeMaps Go.MapKept

/-- block r goes through the map bm of all rows; V: the rows that have come -/
def TabLoop (bm r : Nat) (V : List (Int × Int × Int)) (cnt : Nat) (w : World) : Prop :=
  ∃ es clk seen c0, w.heap[bm]? = some (.map es clk) ∧ Stamped es clk ∧ (∀ e ∈ es.toList, ∃ x ∈ pTab, e.key = pKey x.1 ∧ e.val = pVal x.2.1 x.2.2) ∧ (∀ x ∈ pTab, ∃ e ∈ es.toList, e.key = pKey x.1) ∧
    w.heap[r]? = some (.mapIter (some bm) clk seen c0) ∧ clk ≤ c0 ∧ (leftOf es seen).size = cnt ∧ ∀ e ∈ es.toList, ∀ x ∈ pTab, e.key = pKey x.1 → (x ∈ V ↔ seen.contains e.born = true)
theorem TabLoop.left_eq {bm r cnt : Nat} {V : List (Int × Int × Int)} {w : World} (h : TabLoop bm r V cnt w) : w.rangeLeft bm r = cnt := by
  obtain ⟨es, clk, seen, c0, hb, -, -, -, hr, -, hc, -⟩ := h
  simp only [World.rangeLeft, hb, hr]
  exact hc
theorem TabLoop.lt {bm r cnt : Nat} {V : List (Int × Int × Int)} {w : World} (h : TabLoop bm r V cnt w) : bm < w.heap.size ∧ r < w.heap.size ∧ r ≠ bm := by
  obtain ⟨es, clk, seen, c0, hb, -, -, -, hr, -⟩ := h
  refine ⟨lt_of_block hb, lt_of_block hr, fun e => ?_⟩
  rw [e, hb] at hr
  cases hr
theorem TabLoop.kept {bm r cnt : Nat} {V : List (Int × Int × Int)} {w w' : World} (h : TabLoop bm r V cnt w) (e1 : w'.heap[bm]? = w.heap[bm]?) (e2 : w'.heap[r]? = w.heap[r]?) : TabLoop bm r V cnt w' := by
  obtain ⟨es, clk, seen, c0, hb, h1, h2, h3, hr, h4⟩ := h
  exact ⟨es, clk, seen, c0, e1.trans hb, h1, h2, h3, e2.trans hr, h4⟩
theorem key_inj {a b : Int} (h : pKey a = pKey b) : a = b := by simpa [pKey] using h
set_option maxRecDepth 100000 in
theorem ptab_row : ∀ x ∈ pTab, ∀ y ∈ pTab, x.1 = y.1 → x = y := by decide
/-- the loop begins -/
theorem TabLoop.start {g : Nat} {L : List Nat} {w : World} (h : MapIs g L w) (hL : ∀ j, j ∈ L ↔ j < 75) :
    ∃ w' cnt, (Instr.range 63 (.map (some g))).run Tryd.prog w = .ok (.pointer (some ⟨w.heap.size, 0, none⟩)) w' ∧ TabLoop g w.heap.size [] cnt w' ∧ Below w.heap.size w w' ∧ w'.heap.size = w.heap.size + 1 := by
  obtain ⟨es, clk, hb, hes, hst⟩ := h
  have hlt := lt_of_block hb
  refine ⟨_, _, run_range_map w _ 90 83 g es clk Tryd.underlying63 hb, ⟨es, clk, #[], clk, (Below.heap_alloc _ _ _ hlt).trans hb, hst, fun e he => ?_, fun x hx => ?_, by show (w.heap.push _)[w.heap.size]? = _; simp, Nat.le_refl _, rfl, fun e he x hx hk => by simp⟩, (Below.refl _ _).alloc (Nat.le_refl _) _, by simp⟩
  · have : (e.key, e.val) ∈ ((L.map pRow).map fun e => (pKey e.1, pVal e.2.1 e.2.2)) := by rw [← hes]; exact List.mem_map_of_mem he
    obtain ⟨x, hx, hxe⟩ := List.mem_map.1 this
    obtain ⟨j, hj, rfl⟩ := List.mem_map.1 hx
    refine ⟨pRow j, ?_, (congrArg Prod.fst hxe).symm, (congrArg Prod.snd hxe).symm⟩
    rw [pTab_range]
    exact List.mem_map.2 ⟨j, List.mem_range.2 ((hL j).1 hj), rfl⟩
  · rw [pTab_range] at hx
    obtain ⟨j, hj, rfl⟩ := List.mem_map.1 hx
    have : (pKey (pRow j).1, pVal (pRow j).2.1 (pRow j).2.2) ∈ (es.toList.map fun e => (e.key, e.val)) := by
      rw [hes]
      exact List.mem_map.2 ⟨pRow j, List.mem_map.2 ⟨j, (hL j).2 (List.mem_range.1 hj), rfl⟩, rfl⟩
    obtain ⟨e, he, hee⟩ := List.mem_map.1 this
    exact ⟨e, he, congrArg Prod.fst hee⟩
/-- a step of it -/
theorem TabLoop.next {bm r cnt : Nat} {V : List (Int × Int × Int)} {w : World} (h : TabLoop bm r V cnt w) (ty : TypeId) :
    (cnt = 0 ∧ (∀ x ∈ pTab, x ∈ V) ∧ (Instr.next (.pointer (some ⟨r, 0, none⟩)) false ty).run Tryd.prog w = .ok (.tuple #[.bool false]) w) ∨
    ∃ x ∈ pTab, x ∉ V ∧ ∃ w' cnt', (Instr.next (.pointer (some ⟨r, 0, none⟩)) false ty).run Tryd.prog w = .ok (.tuple #[.bool true, .agg #[.int .i64 x.1], .agg #[.int .i64 x.2.1, .int .i64 x.2.2]]) w' ∧
      TabLoop bm r (x :: V) cnt' w' ∧ cnt' < cnt ∧ w.grownBy w' (some r) ∧ w'.heap.size = w.heap.size ∧ (Instr.entry (.pointer (some ⟨r, 0, none⟩))).run Tryd.prog w' = .ok (.tuple #[.agg #[.int .i64 x.1], .agg #[.int .i64 x.2.1, .int .i64 x.2.2]]) w' := by
  have hne := h.lt.2.2
  obtain ⟨es, clk, seen, c0, hb, hst, hall, hcov, hr, hcc, rfl, hv⟩ := h
  rcases run_next_at (P := Tryd.prog) w ty r bm clk c0 seen es clk hr hb hst.1 hcc with ⟨h0, hrun⟩ | ⟨e, he, w1, hal, hrun⟩
  · refine Or.inl ⟨h0, fun x hx => ?_, hrun⟩
    obtain ⟨e, he, hk⟩ := hcov x hx
    exact (hv e he x hx hk).2 (all_seen es seen h0 e he)
  · obtain ⟨hem, hes⟩ := mem_left he
    obtain ⟨x, hx, hk, hval⟩ := hall e hem
    have hr1 : w1.heap[r]? = some (.mapIter (some bm) clk seen c0) := by rcases hal with rfl | rfl <;> exact hr
    have hb1 : w1.heap[bm]? = some (.map es clk) := by rcases hal with rfl | rfl <;> exact hb
    have hset := heap_set (o' := .mapIter (some bm) clk (seen.push e.born) clk) hr1
    have hb' : (setBlock w1 r (.mapIter (some bm) clk (seen.push e.born) clk)).heap[bm]? = some (.map es clk) := (hset.2 bm (fun e1 => hne e1.symm)).trans hb1
    have hen := run_entry_at (P := Tryd.prog) _ r bm clk seen es clk e hset.1 hb' hem ((stamped_iff es clk).1 hst).2.1
    rw [hk, hval] at hrun hen
    refine Or.inr ⟨x, hx, fun hxv => ?_, _, _, hrun, ⟨es, clk, seen.push e.born, clk, hb', hst, hall, hcov, hset.1, Nat.le_refl _, rfl, fun e2 he2 y hy hk2 => ?_⟩, left_shrinks es seen e he, ?_, ?_, hen⟩
    · rw [(hv e hem x hx hk).1 hxv] at hes; cases hes
    · rw [contains_push, Bool.or_eq_true, beq_iff_eq, List.mem_cons, ← hv e2 he2 y hy hk2]
      have hst2 := (stamped_iff es clk).1 hst
      constructor
      · rintro (rfl | h)
        · right
          exact congrArg MapEntry.born (entry_eq_of_key hst2.2.2 he2 hem (hk2.trans hk.symm))
        · exact Or.inl h
      · rintro (h | h)
        · exact Or.inr h
        · left
          have := born_inj hst2.2.1 he2 hem h
          subst this
          exact ptab_row y hy x hx (key_inj (hk2.symm.trans hk))
    · rcases hal with rfl | rfl <;> exact ⟨rfl, rfl, rfl, by simp [setBlock], fun i _ hi => hset.2 i (fun e1 => hi (by rw [e1]))⟩
    · rcases hal with rfl | rfl <;> simp [setBlock]

section
variable (w : World) {ops : Array Oper} {rest : List Oper} {o : Oper} {a : Act} {Q : Exit → Act → World → Prop}
theorem wpList_tab_range (hg : o.guard = none) (m : Operand) (hop : o.op = Op.range 63 m) {g : Nat} {L : List Nat} (hm : a.eval m = .map (some g)) (h : MapIs g L w) (hL : ∀ j, j ∈ L ↔ j < 75)
    (hK : ∀ w' cnt, TabLoop g w.heap.size [] cnt w' → Below w.heap.size w w' → w'.heap.size = w.heap.size + 1 → wpList Tryd.prog ops Q rest (a.put o.dst (.pointer (some ⟨w.heap.size, 0, none⟩))) w') :
    wpList Tryd.prog ops Q (o :: rest) a w := by
  refine wpList_plain hg fun K' hK' => ?_
  obtain ⟨w', cnt, hrun, r1, r2, r3⟩ := TabLoop.start h hL
  unfold Oper.wp
  simp [execOp, hop, hm, hrun, Result.andThen]
  exact hK' _ _ (hK w' cnt r1 r2 r3)
theorem wpList_tab_next (hg : o.guard = none) (it : Operand) (hop : o.op = Op.next it false) {bm r cnt : Nat} {V : List (Int × Int × Int)} (hit : a.eval it = .pointer (some ⟨r, 0, none⟩)) (h : TabLoop bm r V cnt w)
    (hDone : cnt = 0 → Hid (∀ x ∈ pTab, x ∈ V) → wpList Tryd.prog ops Q rest (a.put o.dst (.tuple #[.bool false])) w)
    (hMore : ∀ (s l m : Int) (w' : World) (cnt' : Nat), Hid ((s, l, m) ∈ pTab) → Hid ((s, l, m) ∉ V) → Hid (TabLoop bm r ((s, l, m) :: V) cnt' w') → cnt' < cnt → w.grownBy w' (some r) → w'.heap.size = w.heap.size →
      (Instr.entry (.pointer (some ⟨r, 0, none⟩))).run Tryd.prog w' = .ok (.tuple #[.agg #[.int .i64 s], .agg #[.int .i64 l, .int .i64 m]]) w' →
      wpList Tryd.prog ops Q rest (a.put o.dst (.tuple #[.bool true, .agg #[.int .i64 s], .agg #[.int .i64 l, .int .i64 m]])) w') :
    wpList Tryd.prog ops Q (o :: rest) a w := by
  refine wpList_plain hg fun K' hK' => ?_
  unfold Oper.wp
  rcases h.next o.type with ⟨h0, hl, hrun⟩ | ⟨x, hx, hnv, w', cnt', hrun, h1, h2, h3, h4, h5⟩
  · simp [execOp, hop, hit, hrun, Result.andThen]
    exact hK' _ _ (hDone h0 hl)
  · simp [execOp, hop, hit, hrun, Result.andThen]
    exact hK' _ _ (hMore x.1 x.2.1 x.2.2 w' cnt' hx hnv h1 h2 h3 h4 h5)
end
end

section
open Go.RowKit Go.ChangeMaps Go.MapKept

set_option maxRecDepth 100000 in
set_option maxHeartbeats 2000000 in
theorem pairTable_any (w : World) :
    Calls Tryd.prog 51 #[] w fun e w' => e = .returned (.map (some w.heap.size)) ∧ (∃ L, PairsIs w.heap.size L w' ∧ AllPairs L) ∧ Below w.heap.size w w' := by
  have hMM := fun W => run_makeMap (P := Tryd.prog) 38 W
  have HP0 := PairsIs.made w
  have hb0 := below_lit w (.map #[] 0)
  go_enter Tryd.func51, Tryd.ntmps51
  go_wp2_with fail
  refine (partTable_any _).mono ?_
  rintro e w1 ⟨rfl, ⟨LT, hM, hL⟩, hb1⟩
  rw [hs_alloc] at hM hb1 ⊢
  go_wp2_with (at_range; refine wpList_tab_range _ rfl _ rfl rfl hM hL ?_; intro w2 cnt0 hT2 hb2 hs2)
  try go_frame
  have hs1 := hb1.size
  rw [hs_alloc] at hs1
  have B1 : Below w.heap.size w w1 := hb0.trans (hb1.mono (Nat.le_succ _))
  have HP1 : PairsIs w.heap.size [] w1 := HP0.kept (hb1.block _ (by omega))
  have HP2 : PairsIs w.heap.size [] w2 := HP1.kept (hb2.block _ (by omega))
  have B2 : Below w.heap.size w w2 := B1.trans (hb2.mono B1.size)
  have hr1 : w.heap.size + 1 < w1.heap.size := hM.lt
  obtain ⟨r, HRR⟩ : ∃ r, Hid (r = w1.heap.size) := ⟨_, rfl⟩
  rw [← HRR.out] at hT2 hr1 ⊢
  clear hMM HP0 hb0 hM hL hb1 hb2 hs2 hs1 B1 HP1
  go_loopw [2, 3] (fun _ _ wr => ∃ (V L : List (Int × Int × Int)) (cnt : Nat), Hid (TabLoop (w.heap.size + 1) r V cnt wr) ∧ Hid (PairsIs w.heap.size L wr) ∧ Hid (∀ x, x ∈ L ↔ (x ∈ V ∧ x.2.2 ≠ 0)) ∧ Hid (∀ x ∈ V, x ∈ pTab) ∧ Below w.heap.size w wr) (fun _ _ wr => wr.rangeLeft (w.heap.size + 1) r)
  case atStart => exact ⟨[], [], cnt0, hT2, HP2, fun x => by simp, fun x hx => by simp at hx, B2⟩
  case round =>
    obtain ⟨V, L, cnt, HT, HP, HL, HV, hbel⟩ := hrel
    have hT := HT.out
    have hmeas := hT.left_eq
    go_wp2_with (first | (at_next; refine wpList_tab_next _ rfl _ rfl rfl hT ?_ ?_) | go_in)
    · intro hc0 hall
      have HALL : ∀ x, x ∈ pTab → x ∈ V := fun x hx => by obtain ⟨s, l, m⟩ := x; exact hall.out s l m hx
      have HA : Hid (∃ L, PairsIs w.heap.size L wr ∧ AllPairs L) := ⟨L, HP.out, fun x => by rw [HL.out x]; exact ⟨fun h => ⟨HV.out x h.1, h.2⟩, fun h => ⟨HALL x h.1, h.2⟩⟩⟩
      clear hall HALL
      go_wp2
      go_ret
      exact ⟨rfl, HA.out, hbel⟩
    · intro s l m w1 cnt1 hx hnv hT1 hlt hg1 hz1 hen
      have hlts := hT1.out.lt
      have bw1 : Below w.heap.size w w1 := hbel.grown hg1 hbel.size (fun q hq => by injection hq with hq; omega)
      have hP1 : PairsIs w.heap.size L w1 := HP.out.kept (hg1.block _ HP.out.lt (fun e => by injection e with e; omega))
      have ba := (Below.refl w1.heap.size w1).alloc (Nat.le_refl _) (.cells #[.int .i64 s] 90)
      have bb := ba.alloc ba.size (.cells #[.int .i64 l, .int .i64 m] 83)
      have hV1 : Hid (∀ x ∈ (s, l, m) :: V, x ∈ pTab) := fun x h => by
        rcases List.mem_cons.1 h with rfl | h
        · exact hx.out
        · exact HV.out x h
      by_cases hm : m = 0
      · subst hm
        have hmb : ((0 : Int) != 0) = false := rfl
        have HT2 : Hid (TabLoop (w.heap.size + 1) r ((s, l, 0) :: V) cnt1 ((w1.alloc (.cells #[.int .i64 s] 90)).alloc (.cells #[.int .i64 l, .int .i64 0] 83))) := hT1.out.kept (bb.block _ hlts.1) (bb.block _ hlts.2.1)
        have HP2 : Hid (PairsIs w.heap.size L ((w1.alloc (.cells #[.int .i64 s] 90)).alloc (.cells #[.int .i64 l, .int .i64 0] 83))) := hP1.kept (bb.block _ hP1.lt)
        have HL2 : Hid (∀ x, x ∈ L ↔ (x ∈ (s, l, 0) :: V ∧ x.2.2 ≠ 0)) := fun x => by
          rw [HL.out x, List.mem_cons]
          exact ⟨fun h => ⟨.inr h.1, h.2⟩, fun h => ⟨h.1.resolve_left (fun e => h.2 (by rw [e])), h.2⟩⟩
        have HB2 : Hid (Below w.heap.size w ((w1.alloc (.cells #[.int .i64 s] 90)).alloc (.cells #[.int .i64 l, .int .i64 0] 83))) := bw1.trans (bb.mono bw1.size)
        have hl2 := HT2.out.left_eq
        clear hT hT1 hP1 bw1 ba bb HP HT HL HV hbel hg1
        go_wp2
        go_roundw
        case rel => exact ⟨_, _, _, HT2, HP2, HL2, hV1, HB2.out⟩
        case measure => rw [hl2, hmeas]; exact hlt
      · have hmb : (m != 0) = true := by simp [hm]
        have hn : ∀ y ∈ L, y.2 ≠ (s, l, m).2 := fun y hy e => by
          have h1 := (HL.out y).1 hy
          have := ptab_uniq y (HV.out y h1.1) (s, l, m) hx.out e
          exact hnv.out (by rw [← Prod.ext this e]; exact h1.1)
        have hP2 : PairsIs w.heap.size L ((w1.alloc (.cells #[.int .i64 s] 90)).alloc (.cells #[.int .i64 l, .int .i64 m] 83)) := hP1.kept (bb.block _ hP1.lt)
        have hT2 : TabLoop (w.heap.size + 1) r ((s, l, m) :: V) cnt1 ((w1.alloc (.cells #[.int .i64 s] 90)).alloc (.cells #[.int .i64 l, .int .i64 m] 83)) := hT1.out.kept (bb.block _ hlts.1) (bb.block _ hlts.2.1)
        have hB2 : Below w.heap.size w ((w1.alloc (.cells #[.int .i64 s] 90)).alloc (.cells #[.int .i64 l, .int .i64 m] 83)) := bw1.trans (bb.mono bw1.size)
        obtain ⟨w3, hrun, HP3, hg3, hz3⟩ := hP2.insert (s, l, m) hn
        have hl2 := hT2.lt
        have HP3 : Hid (PairsIs w.heap.size (L ++ [(s, l, m)]) w3) := HP3
        have HT3 : Hid (TabLoop (w.heap.size + 1) r ((s, l, m) :: V) cnt1 w3) := hT2.kept (hg3.block _ hl2.1 (fun e => by injection e with e; omega)) (hg3.block _ hl2.2.1 (fun e => by injection e with e; omega))
        have HL3 : Hid (∀ x, x ∈ L ++ [(s, l, m)] ↔ (x ∈ (s, l, m) :: V ∧ x.2.2 ≠ 0)) := fun x => by
          simp only [List.mem_append, HL.out x, List.mem_cons, List.not_mem_nil, or_false]
          exact ⟨fun h => h.elim (fun h => ⟨.inr h.1, h.2⟩) (fun h => ⟨.inl h, by rw [h]; exact hm⟩), fun h => h.1.elim .inr (fun h1 => .inl ⟨h1, h.2⟩)⟩
        have HB3 : Hid (Below w.heap.size w w3) := hB2.grown hg3 hB2.size (fun q hq => by injection hq with hq; omega)
        have hl3 := HT3.out.left_eq
        have hrun2 : (Instr.mapUpdate 38 (.map (some w.heap.size)) (.agg #[.int .i64 l, .int .i64 m]) (.int .i64 s)).run Tryd.prog ((w1.alloc (.cells #[.int .i64 s] 90)).alloc (.cells #[.int .i64 l, .int .i64 m] 83)) = .ok () w3 := hrun
        clear hT hT1 hP1 bw1 ba bb HP HT HL HV hbel hg1 hn hP2 hT2 hB2 hrun hg3 hz3 hl2
        go_wp2
        go_roundw
        case rel => exact ⟨_, _, _, HT3, HP3, HL3, hV1, HB3.out⟩
        case measure => rw [hl3, hmeas]; exact hlt
end

section
open Go.RowKit Go.ChangeMaps Go.MapKept

/-- block B is a source of pairs: nothing made yet, or the map of all -/
def PairAt (B : Nat) (w : World) : Prop :=
  ∃ mo, w.heap[B]? = some (.cells #[.map mo] 40 (0, 0)) ∧ (mo = none ∨ ∃ g L, mo = some g ∧ PairsIs g L w ∧ AllPairs L)
theorem PairAt.below {B : Nat} {w w' : World} (h : PairAt B w) (b : Below w.heap.size w w') : PairAt B w' := by
  obtain ⟨mo, hb, hm⟩ := h
  refine ⟨mo, (b.block B (lt_of_block hb)).trans hb, ?_⟩
  rcases hm with h | ⟨g, L, h1, h2, h3⟩
  · exact .inl h
  · exact .inr ⟨g, L, h1, h2.kept (b.block g h2.lt), h3⟩
theorem PairAt.lt {B : Nat} {w : World} (h : PairAt B w) : B < w.heap.size := by
  obtain ⟨mo, hb, _⟩ := h
  exact lt_of_block hb
theorem pair_new (w : World) : PairAt w.heap.size (w.alloc (.cells #[.map none] 40)) :=
  ⟨none, by show (w.heap.push _)[w.heap.size]? = _; simp, .inl rfl⟩

set_option maxRecDepth 100000 in
set_option maxHeartbeats 2000000 in
theorem markedBy_any (B : Nat) (a b : Int) (w : World) (hs : PairAt B w) :
    Calls Tryd.prog 37 #[.pointer (some ⟨B, 0, none⟩), .int .i64 a, .int .i64 b] w fun e w' => e = .returned (pairV (pairT a b)) ∧ PairAt B w' ∧ w.grownBy w' (some B) := by
  unfold pairV
  have HT : Hid (∀ g L w' (_ : PairsIs g L w') (_ : AllPairs L), (Instr.lookup 38 (.map (some g)) (.agg #[.int .i64 a, .int .i64 b]) true).run Tryd.prog w' = .ok (.tuple #[.int .i64 ((pairT a b).getD 0), .bool (pairT a b).isSome]) w') := fun g L w' hM hL => by
    rw [← qFind_all hL]; exact hM.lookup a b
  generalize (pairT a b).getD 0 = x at HT ⊢
  generalize (pairT a b).isSome = y at HT ⊢
  obtain ⟨mo, hB, hm⟩ := hs
  have hlt := lt_of_block hB
  have hc0 := cell_of_row w B 0 _ _ (0, 0) hB
  have hE0 : ∀ w, Sem.run Tryd.prog (binOp BinOp.eql 38 (.map none) (.map none)) w = .ok (.bool true) w := fun w => by kernel_rfl
  have hE1 : ∀ g w, Sem.run Tryd.prog (binOp BinOp.eql 38 (.map (some g)) (.map none)) w = .ok (.bool false) w := fun g w => by kernel_rfl
  rcases hm with rfl | ⟨g, L, rfl, hM, hL⟩
  · go_enter Tryd.func37, Tryd.ntmps37
    go_wp2_with fail
    refine (pairTable_any _).mono ?_
    rintro e w1 ⟨rfl, ⟨L, hM, hL⟩, hb1⟩
    have hB1 : w1.heap[B]? = some (.cells #[.map none] 40 (0, 0)) := (hb1.block B hlt).trans hB
    have c1 := cell_of_row w1 B 0 _ _ (0, 0) hB1
    have f1 := frozen_of_row w1 B 0 _ _ hB1
    have hM2 : PairsIs w.heap.size L (w1.setCell ⟨B, 0, none⟩ (.map (some w.heap.size))) := hM.kept (Below.heap_setCell _ _ _ _ (by show w.heap.size ≠ B; omega))
    have hB2 : (w1.setCell ⟨B, 0, none⟩ (.map (some w.heap.size))).heap[B]? = some (.cells #[.map (some w.heap.size)] 40 (0, 0)) := heap_setCell_same w1 B 0 _ _ _ hB1
    have hg1 : w.grownBy w1 (some B) := ⟨hb1.os, hb1.tape, hb1.output, hb1.size, fun k hk _ => hb1.block k hk⟩
    have HG2 : Hid (w.grownBy (w1.setCell ⟨B, 0, none⟩ (.map (some w.heap.size))) (some B)) := gbi_trans hg1 (gbi_set w1 B 0 _)
    have HS2 : Hid (PairAt B (w1.setCell ⟨B, 0, none⟩ (.map (some w.heap.size)))) := ⟨_, hB2, .inr ⟨_, L, rfl, hM2, hL⟩⟩
    have c2 := cell_of_row _ B 0 _ _ (0, 0) hB2
    have hlk := HT.out _ _ _ hM2 hL
    obtain ⟨w2, HW2⟩ : ∃ w2, Hid (w1.setCell ⟨B, 0, none⟩ (.map (some w.heap.size)) = w2) := ⟨_, rfl⟩
    have hst := HW2.out
    rw [HW2.out] at HG2 HS2 c2 hlk
    clear hM hL hB1 hM2 hB2 hg1 hb1 HT hB HW2
    go_wp2
    go_ret2
    exact ⟨rfl, HS2.out, HG2.out⟩
  · have hlk := HT.out g L w hM hL
    have HS : Hid (PairAt B w) := ⟨_, hB, .inr ⟨_, L, rfl, hM, hL⟩⟩
    clear HT hM hL hB
    go_enter Tryd.func37, Tryd.ntmps37
    go_wp2
    go_ret2
    exact ⟨rfl, HS.out, ⟨rfl, rfl, rfl, Nat.le_refl _, fun _ _ _ => rfl⟩⟩

theorem tail_zero (a : Int) : (tailP a == 0) = decide (a % 28 = 0) := by
  unfold tailP
  split
  · rename_i h; simp [h]
  · rename_i h
    rw [decide_eq_false h, beq_eq_false_iff_ne]
    omega
set_option maxRecDepth 100000 in
set_option maxHeartbeats 2000000 in
theorem takesTail_any (a : Int) (w : World) :
    Calls Tryd.prog 36 #[.int .i64 a] w fun e w' => e = .returned (.bool (inB a 44032 55203 && decide ((a - 44032) % 28 = 0))) ∧ Below w.heap.size w w' := by
  cases h1 : inB a 44032 55203
  · have hw : IntKind.i64.wrap a = IntKind.i64.wrap a := rfl
    go_enter Tryd.func36, Tryd.ntmps36
    go_wp2_with (go_at_call 35; refine (btw_any _ _ _ _).mono ?_; rintro e w' ⟨rfl, rfl⟩)
    go_ret
    exact ⟨rfl, Below.refl _ _⟩
  · have hb := inB_le h1
    have hw : IntKind.i64.wrap (a - 44032) = a - 44032 := by rw [IntKind.wrap_i64]; omega
    have HT := fun W => readTail_any (a - 44032) (by omega) W
    have HZ := tail_zero (a - 44032)
    generalize tailP (a - 44032) = t at HT HZ
    rw [Bool.true_and, ← HZ]
    clear HZ
    go_enter Tryd.func36, Tryd.ntmps36
    go_wp2_with (first | (go_at_call 35; refine (btw_any _ _ _ _).mono ?_; rintro e w' ⟨rfl, rfl⟩) | (go_at_call 50; refine (HT _).mono ?_; rintro e w1 ⟨rfl, b1⟩))
    go_ret
    exact ⟨rfl, b1⟩
set_option maxRecDepth 100000 in
set_option maxHeartbeats 2000000 in
theorem pairOf_any (B : Nat) (a b : Int) (w : World) (hs : PairAt B w) :
    Calls Tryd.prog 21 #[.pointer (some ⟨B, 0, none⟩), .int .i64 a, .int .i64 b] w fun e w' => e = .returned (pairV (pairN a b)) ∧ PairAt B w' ∧ w.grownBy w' (some B) := by
  have hlt := hs.lt
  have HTT := fun W => takesTail_any a W
  have HCL := fun W => iClass b W
  rcases pair_cases a b with ⟨g1, g2, HR⟩ | ⟨g1, g2, g3, g4, HR⟩ | ⟨HR, hc⟩
  · rw [HR]
    have ha := inB_le g1
    have hb := inB_le g2
    go_enter Tryd.func21, Tryd.ntmps21
    go_wp2_with (go_at_call 35; refine (btw_any _ _ _ _).mono ?_; rintro e w' ⟨rfl, rfl⟩)
    go_ret2
    exact ⟨rfl, hs, ⟨rfl, rfl, rfl, Nat.le_refl _, fun _ _ _ => rfl⟩⟩
  · rw [HR]
    have ha := inB_le g2
    have hb := inB_le g4
    rw [g2, decide_eq_true g3, Bool.true_and] at HTT
    have HS : Hid (PairAt B w) := hs
    clear g3 hs
    go_enter Tryd.func21, Tryd.ntmps21
    go_wp2_with (first | (go_at_call 35; refine (btw_any _ _ _ _).mono ?_; rintro e w' ⟨rfl, rfl⟩) | (go_at_call 36; refine (HTT _).mono ?_; rintro e w1 ⟨rfl, b1⟩))
    go_ret2
    exact ⟨rfl, HS.out.below b1, ⟨b1.os, b1.tape, b1.output, b1.size, fun k hk _ => b1.block k hk⟩⟩
  · rw [HR]
    have HM := fun W h => markedBy_any B a b W h
    have HN : Hid (¬ 0 < clsN b → pairT a b = none) := fun h => pairT_cls h
    clear HR
    unfold pairV at HM ⊢
    generalize pairT a b = po at HM HN ⊢
    generalize clsN b = k at HCL HN
    have HS : Hid (∀ W, Below w.heap.size w W → PairAt B W) := fun W h => hs.below h
    have hfin : ∀ W W', Below w.heap.size w W → W.grownBy W' (some B) → w.grownBy W' (some B) := fun W W' h1 h2 => gbi_trans ⟨h1.os, h1.tape, h1.output, h1.size, fun k hk _ => h1.block k hk⟩ h2
    have HF : Hid (∀ W W', Below w.heap.size w W → W.grownBy W' (some B) → w.grownBy W' (some B)) := hfin
    clear hfin hs
    have hcc : (inB a 4352 4370 = true ∧ inB b 4449 4469 = false ∧ (inB a 44032 55203 && decide ((a - 44032) % 28 = 0)) = false) ∨ (inB a 4352 4370 = false ∧ ((inB a 44032 55203 && decide ((a - 44032) % 28 = 0)) = false ∨ ((inB a 44032 55203 && decide ((a - 44032) % 28 = 0)) = true ∧ inB b 4520 4546 = false))) := by
      rcases hc with ⟨g1, g2⟩ | ⟨g1, g2, g3⟩ | ⟨g1, g2, g3⟩ | ⟨g1, g2, g3, g4⟩
      · exact .inr ⟨g1, .inl (by rw [g2]; rfl)⟩
      · exact .inl ⟨g1, g2, by rw [g3]; rfl⟩
      · exact .inr ⟨g1, .inl (by rw [decide_eq_false g3, Bool.and_false])⟩
      · exact .inr ⟨g1, .inr ⟨by rw [g2, decide_eq_true g3]; rfl, g4⟩⟩
    clear hc
    generalize (inB a 44032 55203 && decide ((a - 44032) % 28 = 0)) = tt at HTT hcc
    have hk : 0 < k ∨ ¬ 0 < k := Classical.em _
    rcases hcc with ⟨g1, g2, rfl⟩ | ⟨g1, rfl | ⟨rfl, g2⟩⟩
    all_goals
      rcases hk with hk | hk
      · have hkb : (decide (k > 0)) = true := decide_eq_true hk
        clear HN
        go_enter Tryd.func21, Tryd.ntmps21
        go_wp2_with (first | (go_at_call 35; refine (btw_any _ _ _ _).mono ?_; rintro e w' ⟨rfl, rfl⟩) | (go_at_call 36; refine (HTT _).mono ?_; rintro e w1 ⟨rfl, b1⟩) | (go_at_call 19; refine (HCL _).mono ?_; rintro e w2 ⟨rfl, b2⟩; have B2 := b1.trans (b2.mono b1.size)) | (go_at_call 37; refine (HM _ (HS.out _ B2)).mono ?_; rintro e w3 ⟨rfl, hs3, hg3⟩))
        go_ret2
        exact ⟨rfl, hs3, HF.out _ _ B2 hg3⟩
      · have hkb : (decide (k > 0)) = false := decide_eq_false hk
        obtain rfl := HN.out hk
        clear HM
        go_enter Tryd.func21, Tryd.ntmps21
        go_wp2_with (first | (go_at_call 35; refine (btw_any _ _ _ _).mono ?_; rintro e w' ⟨rfl, rfl⟩) | (go_at_call 36; refine (HTT _).mono ?_; rintro e w1 ⟨rfl, b1⟩) | (go_at_call 19; refine (HCL _).mono ?_; rintro e w2 ⟨rfl, b2⟩; have B2 := b1.trans (b2.mono b1.size)))
        go_ret2
        exact ⟨rfl, HS.out _ B2, ⟨B2.os, B2.tape, B2.output, B2.size, fun k hk _ => B2.block k hk⟩⟩
set_option maxRecDepth 100000 in
theorem iPair (a b : Int) (w : World) :
    Calls Tryd.prog 12 #[.int .i64 a, .int .i64 b] w fun e w' => e = .returned (pairV (pairN a b)) ∧ Below w.heap.size w w' := by
  have HP := pairOf_any w.heap.size a b _ (pair_new w)
  unfold pairV at HP ⊢
  generalize pairN a b = po at HP ⊢
  go_enter Tryd.func12, Tryd.ntmps12
  go_wp2_with fail
  refine HP.mono ?_
  rintro e w2 ⟨rfl, _, hg⟩
  go_wp2
  go_ret2
  have hs1 := hg.size
  rw [hs_alloc] at hs1
  exact ⟨rfl, ⟨hg.os, hg.tape, hg.output, by omega, fun k hk => (hg.block k (by rw [hs_alloc]; omega) (fun e => by cases e; omega)).trans (Below.heap_alloc _ _ _ hk)⟩⟩
end

section
open Go.RowKit

/-- a piece of a row written anew -/
def putI (C : List Value) (o : Nat) (X : List Value) : List Value := C.take o ++ X ++ C.drop (o + X.length)
theorem putI_len {C X : List Value} {o : Nat} (h : o + X.length ≤ C.length) : (putI C o X).length = C.length := by
  unfold putI; simp; omega
theorem putI_to {C X : List Value} {o b : Nat} (h : o ≤ C.length) (hb : b = o + X.length) : (putI C o X).take b = C.take o ++ X := by
  unfold putI
  rw [List.take_append_of_le_length (by simp; omega), List.take_of_length_le (by simp; omega)]
theorem setRow_but (w : World) (g : Nat) (cs : Array Value) (k : Nat) (h : k ≠ g) : (w.setRow g cs).heap[k]? = w.heap[k]? := by
  simp only [World.setRow, Array.getElem?_modify]
  rw [if_neg (by omega)]
/-- 'append(row, x)': the row stays in its block or goes to a new one -/
theorem append_intH (w : World) {ops : Array Oper} {rest : List Oper} {o : Oper} {a : Act} {Q : Exit → Act → World → Prop} (hgd : o.guard = none) (s x : Operand)
    (ho : o.op = .call { callee := .builtin .append, args := #[s, x], argTypes := #[24, 24] }) (base : Nat)
    (v : Value) (g cap : Nat) (l : List Int) (e : Int) (hl : l.length + 1 ≤ 1099511627776) (hown : IntRow w base v l) (hc : w.cell? ⟨g, 0, none⟩ = some (.int .i64 e)) (hs : a.eval s = v) (hx : a.eval x = .slice (some ⟨g, 0, none⟩) 1 cap)
    (hbase : base ≤ w.heap.size)
    (h : ∀ v' w', IntRow w' base v' (l ++ [e]) → w.grownBy w' v.ownBlock → (∀ k, v'.ownBlock = some k → v.ownBlock = some k ∨ w.heap.size ≤ k) → wpList Tryd.prog ops Q rest (a.put o.dst v') w') :
    wpList Tryd.prog ops Q (o :: rest) a w := by
  obtain ⟨i0, hi0, hz0, hz1, hz2⟩ := info_parts Tryd.infoInt
  have hcell : ∀ j u, [Value.int .i64 e][j]? = some u → w.cell? ((⟨g, 0, none⟩ : Addr).add j) = some u := fun j y hj => by
    match j, hj with
    | 0, hj => simp at hj; subst hj; rw [Addr.add_lit]; exact hc
    | j + 1, hj => simp at hj
  have hone : ∀ u ∈ [Value.int .i64 e], u.oneCell' = true := fun u hu => by simp at hu; subst hu; rfl
  have hsrc : _root_.Go.Src Tryd.prog i0.size 24 (.slice (some ⟨g, 0, none⟩) 1 cap) 1 [Value.int .i64 e] w :=
    _root_.Go.Src.ofSlice w Tryd.underlying24 ⟨g, 0, none⟩ 1 cap _ (by rw [hz1]; rfl) hcell hone
  have hle : (l ++ [e]).length = l.length + 1 := by simp
  have hfe : intsV (l ++ [e]) = intsV l ++ [.int .i64 e] := intsV_append _ _
  have hil : (intsV l).length = l.length := by simp [intsV]
  have GROW : ∀ (ad : Option Addr) (c : Nat), v = .slice ad l.length c → c < l.length + 1 → (Builtin.firstCells i0.size l.length (.slice ad l.length c)).run Tryd.prog w.drew = .ok (intsV l).toArray w.drew → wpList Tryd.prog ops Q (o :: rest) a w := fun ad c hv hroom hold => by
    have hrun := run_append_grow_src w 24 24 o.type 3 i0 _ Tryd.underlying24 hi0 hz0 ad l.length c (intsV l) hold _ 1 [.int .i64 e] hsrc hroom (by omega) (by rw [hz2]; exact growslice_fits hroom (by omega))
    have hGn : l.length + 1 ≤ grownCap w (l.length + 1) c 3 := grownCap_ge w _ _ _
    have hGm : grownCap w (l.length + 1) c 3 ≤ maxLen := grownCap_le_maxLen w (l.length + 1) c _ (by unfold maxLen; omega)
    generalize grownCap w (l.length + 1) c 3 = G at hrun hGn hGm
    refine Lib.wpList_append_run w hgd s x _ _ ho _ _ (hs.trans hv) hx _ _ hrun ?_
    refine h _ _ ⟨by rw [hfe, List.length_append, hil]; simp, .inr ⟨w.heap.size, G, _, by rw [hle], hbase, heap_alloc_new w.drew _, by rw [hle]; exact hGn, hGm, ?_, ?_⟩⟩ ⟨rfl, rfl, rfl, by simp, fun k hk _ => Below.heap_alloc w.drew _ _ hk⟩ (fun k hk => .inr (by cases hk; exact Nat.le_refl _))
    · rw [Array.size_append, List.size_toArray, List.length_append, hil, size_zeroCells]
      simp [Value.cells]
      omega
    · rw [Array.toList_append, hle, hfe, List.take_append_of_le_length (by simp [hil]), List.take_of_length_le (by simp [hil])]
  rcases hown.2 with ⟨rfl, h0⟩ | ⟨g0, c0, cur, rfl, hg, hh, hnc, hcp, hcs, htake⟩
  · have hl0 : l = [] := List.length_eq_zero_iff.1 h0
    subst hl0
    exact GROW none 0 rfl (by simp) (run_firstCells_none w.drew i0.size 0 0 0)
  · by_cases hroom : l.length + 1 ≤ c0
    · have hlen : cur.toList.length = c0 * 1 := by rw [Array.length_toList, hcs]
      have hrun := run_append_room (P := Tryd.prog) w 24 o.type 3 i0 Tryd.underlying24 hi0 g0 l.length c0 cur hh ⟨g, 0, none⟩ 1 cap [.int .i64 e] (by rw [hz1]; rfl) hcell hone hroom (by rw [hz1, hcs]; simp; omega)
      rw [hz1] at hrun
      refine Lib.wpList_append_run w hgd s x _ _ ho _ _ hs hx _ _ hrun ?_
      refine h _ _ ⟨by rw [hfe, List.length_append, hil]; simp, .inr ⟨g0, c0, _, by rw [hle], hg, setRow_heap w g0 _ _ _ _ hh, by rw [hle]; exact hroom, hcp, ?_, ?_⟩⟩ ⟨rfl, rfl, rfl, by simp, fun k hk hn => setRow_but w g0 _ k (fun e => hn (by rw [e]; rfl))⟩ (fun k hk => .inl hk)
      · rw [List.size_toArray]
        show (putI cur.toList (l.length * 1) [.int .i64 e]).length = _
        rw [putI_len (by rw [hlen]; simp; omega), hlen]
      · show (putI cur.toList (l.length * 1) [.int .i64 e]).take _ = _
        rw [hle, show (l.length + 1) * 1 = l.length * 1 + [Value.int .i64 e].length by simp, putI_to (by rw [hlen]; omega) (by rfl), hfe]
        congr 1
    · refine GROW _ c0 rfl (by omega) ?_
      rw [hz1]
      exact run_firstCells_some w.drew 1 l.length ⟨g0, 0, none⟩ l.length c0 (intsV l) (by rw [hil]; omega) (fun j u hj => by
        rw [Addr.add_lit, Nat.zero_add]
        have hj1 := (List.getElem?_eq_some_iff.1 hj).1
        rw [hil] at hj1
        show w.cell? _ = _
        rw [cell_of_row w g0 _ _ _ _ hh, ← hj, ← htake, List.getElem?_take, if_pos (by omega)]
        simp)
end

section
open Go.RowKit

/-- may a sign of class k reach the letter over the marks m? -/
def reachB (m : List Int) (k : Int) : Bool := decide (m.length = 0) || decide (clsN (m.getD (m.length - 1) 0) < k)
theorem okR_drop : ∀ (j : Nat) (r : List Int), okR r → okR (r.drop j)
  | 0, _, h => h
  | _ + 1, [], h => h
  | j + 1, _ :: r, h => okR_drop j r (okR_tail h)
theorem cmp_take (l : List Int) (k : Nat) : CmI ((apartN l).take k).reverse (cmpS ((apartN l).take k)) := by
  have hok : okR (apartN l).reverse := by
    unfold apartN srtN
    rw [List.reverse_reverse]
    exact srtR_ok _ [] trivial
  have h := cmp_inv ((apartN l).take k).reverse (by rw [List.reverse_take]; exact okR_drop _ _ hok) (fun x hx => apart_leaves l x (List.mem_of_mem_take (List.mem_reverse.1 hx)))
  rwa [List.reverse_reverse] at h
theorem free_is {r : List Int} {s : List Int × Int} (h : CmI r s) (d : Int) : (decide (s.2 ≠ -1) && reachB (s.1.drop (s.2 + 1).toNat) (clsN d)) = freeB s.1 s.2 d := by
  unfold freeB reachB
  rcases h.shape with ⟨e, -⟩ | ⟨A, L, M, e1, e2, hm⟩
  · rw [e]; rfl
  · have ed : s.1.drop (s.2 + 1).toNat = M := by
      rw [e1, e2, show ((A.length : Int) + 1).toNat = A.length + 1 by omega]
      simp
    rw [ed, e1, e2]
    have h1 : decide ((A.length : Int) ≠ -1) = true := by simp
    have h0 : decide (0 ≤ (A.length : Int)) = true := by simp
    rw [h1, h0, Bool.true_and, Bool.true_and]
    rcases List.eq_nil_or_concat M with rfl | ⟨Q, z, rfl⟩
    · simp
    · rw [List.concat_eq_append] at hm ⊢
      have hz := (hm.one z (by simp)).2.1
      have g1 : (A ++ L :: (Q ++ [z])).getD ((A ++ L :: (Q ++ [z])).length - 1) 0 = z := by
        rw [show A ++ L :: (Q ++ [z]) = (A ++ L :: Q) ++ [z] by simp, List.length_append]
        simp [List.getD]
      have g2 : (Q ++ [z]).getD ((Q ++ [z]).length - 1) 0 = z := by simp [List.getD]
      rw [g1, g2, decide_eq_true hz, Bool.true_and]
      have e3 : decide ((Q ++ [z]).length = 0) = false := by simp
      have e4 : decide ((A.length : Int) = ((A ++ L :: (Q ++ [z])).length : Int) - 1) = false := by simp; omega
      rw [e3, e4]
set_option maxRecDepth 100000 in
set_option maxHeartbeats 1000000 in
theorem reaches_any (v : Value) (m : List Int) (k : Int) (w : World) (hl : m.length ≤ 1099511627776) (hv : IntsAt w v m) :
    Calls Tryd.prog 20 #[v, .int .i64 k] w fun e w' => e = .returned (.bool (reachB m k)) ∧ Below w.heap.size w w' := by
  obtain ⟨a, c, rfl, hc⟩ := hv
  have HC := fun W => iClass (m.getD (m.length - 1) 0) W
  unfold reachB
  by_cases h0 : m.length = 0
  · rw [decide_eq_true h0, h0]
    clear HC hc
    go_enter Tryd.func20, Tryd.ntmps20
    go_wp2
    go_ret
    exact ⟨rfl, Below.refl _ _⟩
  · rw [decide_eq_false h0, Bool.false_or]
    obtain ⟨b, o, rfl, hb, hcc⟩ := hc (m.length - 1) (by omega)
    generalize m.getD (m.length - 1) 0 = z at HC hcc ⊢
    generalize clsN z = q at HC ⊢
    obtain ⟨n, HN⟩ : ∃ n, Hid (m.length = n + 1) := ⟨m.length - 1, by show _ = _; omega⟩
    rw [HN.out] at hcc hl ⊢
    rw [Nat.add_sub_cancel] at hcc
    clear h0 hc
    go_enter Tryd.func20, Tryd.ntmps20
    go_wp2_with (go_at_call 19; refine (HC _).mono ?_; rintro e w1 ⟨rfl, b1⟩)
    go_ret
    exact ⟨rfl, b1⟩

theorem slice_rest (a : Option Addr) (len cap f : Nat) (w : World) (h1 : f ≤ len) : (Instr.slice 24 (.slice a len cap) (some (.int .i64 (f : Int))) none none).run Tryd.prog w = .ok (sliced a f len cap 1) w := by
  have he : Tryd.prog.underlying 24 = some (.slice (Tryd.prog.elem 24)) := by kernel_rfl
  have hs : (sizeOf (Tryd.prog.elem 24)).run Tryd.prog w = .ok 1 w := by kernel_rfl
  rw [run_slice_l w 24 a len cap he .i64 (f : Int) (by omega) (by omega), hs]
  simp [Result.andThen]
theorem IntRow.rest {w : World} {base : Nat} {a : Option Addr} {n cap : Nat} {l : List Int} (h : IntRow w base (.slice a n cap) l) (f : Nat) (hf : f ≤ l.length) (hn : n = l.length) : IntsAt w (sliced a f n cap 1) (l.drop f) := by
  have hcap : l.length ≤ cap := by
    rcases h.2 with ⟨e, h0⟩ | ⟨g, c, cur, e, hg, hh, hnc, -⟩
    · omega
    · cases e; exact hnc
  obtain ⟨a', cap', e, hx⟩ := h.at
  cases e
  refine ⟨_, _, by rw [List.length_drop]; rfl, fun t ht => ?_⟩
  rw [List.length_drop] at ht
  obtain ⟨b, off, rfl, hb, hcc⟩ := hx (f + t) (by omega)
  refine ⟨b, off + f, by rw [if_neg (by omega)]; simp [Addr.add], hb, ?_⟩
  rw [Nat.add_assoc, hcc]
  congr 2
  simp [List.getD]
/-- what touches a row of whole numbers alone leaves the source as it is -/
theorem PairAt.own {B base : Nat} {w w' : World} {v : Value} {l : List Int} (h : PairAt B w) (row : IntRow w base v l) (hg : w.grownBy w' v.ownBlock) : PairAt B w' := by
  have key : ∀ g o, w.heap[g]? = some o → (∀ cs f, o ≠ Obj.cells cs 3 f) → w'.heap[g]? = w.heap[g]? := fun g o ho hne => by
    refine hg.block g (lt_of_block ho) fun e => ?_
    rcases row.2 with ⟨rfl, _⟩ | ⟨q, cap, cur, rfl, _, hh, -⟩
    · cases e
    · injection e with e
      subst e
      rw [ho] at hh
      injection hh with hh
      exact hne _ _ hh
  obtain ⟨mo, hB, hm⟩ := h
  refine ⟨mo, (key B _ hB fun cs f e => by injection e with _ e; exact absurd e (by decide)).trans hB, ?_⟩
  rcases hm with h | ⟨g, L, h1, h2, h3⟩
  · exact .inl h
  · refine .inr ⟨g, L, h1, h2.kept ?_, h3⟩
    obtain ⟨es, clk, hb, -⟩ := h2
    exact key g _ hb fun cs f e => by cases e
/-- what stands while signs are put together: the source at B, the row that is made -/
structure CoAt (B : Nat) (w1 : World) (v : Value) (o : List Int) (w : World) : Prop where
  src : PairAt B w
  row : IntRow w w1.heap.size v o
  gb : w1.grownBy w (some B)
theorem CoAt.below {B : Nat} {w1 w w' : World} {v : Value} {o : List Int} (h : CoAt B w1 v o w) (b : Below w.heap.size w w') : CoAt B w1 v o w' :=
  ⟨h.src.below b, h.row.below b, gbi_trans h.gb ⟨b.os, b.tape, b.output, b.size, fun k hk _ => b.block k hk⟩⟩
theorem CoAt.pair {B : Nat} {w1 w w' : World} {v : Value} {o : List Int} (h : CoAt B w1 v o w) (hB : B < w1.heap.size) (hs : PairAt B w') (hg : w.grownBy w' (some B)) : CoAt B w1 v o w' := by
  refine ⟨hs, World.ownsRow.kept h.row hg ?_, gbi_trans h.gb hg⟩
  cases e : v.ownBlock with
  | none => exact .inl rfl
  | some k =>
    right
    intro e2
    have := (World.ownsRow.lt h.row k e).1
    injection e2 with e2
    omega
theorem CoAt.own {B : Nat} {w1 w w' : World} {v v' : Value} {o o' : List Int} (h : CoAt B w1 v o w) (row : IntRow w' w1.heap.size v' o') (hg : w.grownBy w' v.ownBlock) : CoAt B w1 v' o' w' := by
  refine ⟨h.src.own h.row hg, row, ⟨hg.os.trans h.gb.os, hg.tape.trans h.gb.tape, hg.output.trans h.gb.output, Nat.le_trans h.gb.size hg.size, fun k hk hn => ?_⟩⟩
  refine (hg.block k (Nat.lt_of_lt_of_le hk h.gb.size) fun e => ?_).trans (h.gb.block k hk hn)
  have := (World.ownsRow.lt h.row k e.symm).1
  omega

set_option maxRecDepth 100000 in
set_option maxHeartbeats 2000000 in
theorem iCompose (v : Value) (l : List Int) (w : World) (hl : l.length ≤ 1048576) (hv : IntsAt w v l) :
    Calls Tryd.prog 6 #[v] w fun e w' => ∃ u, e = .returned u ∧ IntRow w' w.heap.size u (composeN l) ∧ Below w.heap.size w w' := by
  have hb0 := (Below.refl w.heap.size w).alloc (Nat.le_refl _) (.cells #[.map none] 40)
  have HA := iApart v l _ (hv.below hb0) hl
  have HS0 := pair_new w
  have hx9 := apart_len9 l
  have HFR : Hid (∀ k d, (decide ((cmpS ((apartN l).take k)).2 ≠ -1) && reachB ((cmpS ((apartN l).take k)).1.drop ((cmpS ((apartN l).take k)).2 + 1).toNat) (clsN d)) = freeB (cmpS ((apartN l).take k)).1 (cmpS ((apartN l).take k)).2 d) := fun k d => free_is (cmp_take l k) d
  have HR : Hid (composeN l = (cmpS (apartN l)).1) := rfl
  generalize composeN l = r at HR ⊢
  generalize apartN l = x at HA hx9 HR HFR
  have HIX : Hid (∀ k, ((cmpS (x.take k)).2 = -1 ∨ (0 ≤ (cmpS (x.take k)).2 ∧ (cmpS (x.take k)).2 < ((cmpS (x.take k)).1.length : Int))) ∧ (cmpS (x.take k)).1.length ≤ (x.take k).length) := fun k => cmp_idx (x.take k)
  have HSU : Hid (∀ k, k < x.length → cmpS (x.take (k + 1)) = cmpStep (cmpS (x.take k)) (x.getD k 0)) := fun k hk => cmp_succ x k hk
  have HEN : Hid ((cmpS (x.take x.length)).1 = r) := by show _ = _; rw [List.take_length]; exact HR.out.symm
  have H0 : Hid (cmpS (x.take 0) = ([], -1)) := rfl
  obtain ⟨n, HN⟩ : ∃ n, Hid (n = x.length) := ⟨_, rfl⟩
  have hn : n ≤ 9437184 := by rw [HN.out]; omega
  obtain ⟨av, cv, rfl, -⟩ := hv
  clear hx9 HR
  go_enter Tryd.func6, Tryd.ntmps6
  go_wp2_with fail
  go_step3
  go_wp2_with fail
  go_step3
  go_wp2_with fail
  refine HA.mono ?_
  rintro e w1 ⟨ux, rfl, rowx, b1⟩
  rw [hs_alloc] at rowx b1
  have HS1 : PairAt w.heap.size w1 := HS0.below (by rw [hs_alloc]; exact b1)
  have B1 : Below w.heap.size w w1 := hb0.trans (b1.mono (Nat.le_succ _))
  have hB1 : w.heap.size < w1.heap.size := by have := b1.size; rw [hs_alloc] at this; omega
  obtain ⟨ax, cx, rfl, hxa⟩ := rowx.at
  have hxB : ∀ b o, ax = some ⟨b, o, none⟩ → b ≠ w.heap.size := fun b o e hb => by
    rcases rowx.2 with ⟨e2, h0⟩ | ⟨g, cap, cur, e2, hg, -⟩
    · injection e2 with e2; rw [e] at e2; cases e2
    · injection e2 with e2
      rw [e] at e2
      injection e2 with e2
      injection e2 with e2
      omega
  have HCX : Hid (∀ k, k < x.length → ∃ b o, ax = some ⟨b, o, none⟩ ∧ ∀ W, w1.grownBy W (some w.heap.size) → W.cell? ⟨b, o + k, none⟩ = some (.int .i64 (x.getD k 0))) := fun k hk => by
    obtain ⟨b, o, e, hb, hc⟩ := hxa k hk
    refine ⟨b, o, e, fun W hW => ?_⟩
    have := hW.block b hb (fun e2 => by injection e2 with e2; exact hxB b o e e2)
    simp only [World.cell?, this] at hc ⊢
    exact hc
  rw [← HN.out] at HCX HSU HEN ⊢
  have hE : CoAt w.heap.size w1 (.slice none 0 0) [] w1 := ⟨HS1, World.ownsRow_nil _ _ _ _, ⟨rfl, rfl, rfl, Nat.le_refl _, fun _ _ _ => rfl⟩⟩
  clear rowx HA HS0 hb0 HS1 b1 hxa hxB
  obtain ⟨B, HB⟩ : ∃ B, Hid (B = w.heap.size) := ⟨_, rfl⟩
  rw [← HB.out] at HCX hE hB1 ⊢
  go_wp2
  go_loopw [4, 5, 14] (fun ov tv iv wr => ∃ k : Nat, k ≤ n ∧ iv = .int .i64 k ∧ CoAt B w1 ov (cmpS (x.take k)).1 wr ∧ tv = .int .i64 (cmpS (x.take k)).2) (fun _ _ iv _ => n - (intOf iv).toNat)
  case atStart => exact ⟨0, Nat.zero_le _, rfl, by rw [H0.out]; exact hE, by rw [H0.out]⟩
  case round =>
    obtain ⟨k, hk, rfl, hco, rfl⟩ := hrel
    by_cases hlt : k < n
    · obtain ⟨bx, ox, rfl, hcx⟩ := HCX.out k hlt
      have HC1 : Hid (∀ W, w1.grownBy W (some B) → W.cell? ⟨bx, ox + k, none⟩ = some (.int .i64 (x.getD k 0))) := hcx
      have hS := HSU.out k hlt
      have hF := HFR.out k (x.getD k 0)
      have hI := HIX.out k
      have hkl : (x.take k).length ≤ k := by rw [List.length_take]; exact Nat.min_le_left _ _
      generalize x.getD k 0 = d at HC1 hS hF
      generalize cmpS (x.take k) = s at hS hI hF hco ⊢
      obtain ⟨o, t⟩ := s
      dsimp only at hI hF hco ⊢
      have HST : Hid (cmpS (x.take (k + 1)) = cmpStep (o, t) d) := hS
      have HFB : Hid ((decide (t ≠ -1) && reachB (o.drop (t + 1).toNat) (clsN d)) = freeB o t d) := hF
      obtain ⟨hI1, hI2⟩ := hI
      have hon : o.length ≤ 9437184 := by omega
      have hc1 := HC1.out _ hco.gb
      have HCL := iClass d wr
      clear hS hF hcx HCX HSU HFR HIX HEN hkl hI2
      obtain ⟨ao, co, rfl, -⟩ := hco.row.at
      go_upto_region 8 with (go_at_call 19; refine HCL.mono ?_; rintro e w2 ⟨rfl, b2⟩)
      have hco2 := hco.below b2
      clear HCL hco b2 hc1
      obtain ⟨kd, HKD⟩ : ∃ kd, Hid (kd = clsN d) := ⟨_, rfl⟩
      rw [← HKD.out] at HFB ⊢
      obtain ⟨fb, HFQ⟩ : ∃ fb, Hid (fb = freeB o t d) := ⟨_, rfl⟩
      rw [← HFQ.out] at HFB
      go_cut [29] from 15 to 52 (fun fv wx => fv = .bool fb ∧ Below w2.heap.size w2 wx)
      case first =>
        by_cases h0 : t = -1
        · obtain rfl : fb = false := by rw [← HFB.out, decide_eq_false (by simpa using h0), Bool.false_and]
          have hb : (t != -1) = false := by simp [h0]
          clear hI1 HFB
          go_wp2_with fail
          go_meet
          exact ⟨rfl, Below.refl _ _⟩
        · obtain ⟨tn, rfl⟩ : ∃ tn : Nat, t = (tn : Int) := ⟨t.toNat, by omega⟩
          have htl : tn < o.length := by omega
          have hb : (((tn : Int)) != -1) = true := by simp
          have hfb : reachB (o.drop (tn + 1)) kd = fb := by
            have := HFB.out
            rwa [decide_eq_true (by omega), Bool.true_and, show ((tn : Int) + 1).toNat = tn + 1 by omega] at this
          have hsl : (Instr.slice 24 (.slice ao o.length co) (some (.int .i64 ((tn : Int) + 1))) none none).run Tryd.prog w2 = .ok (sliced ao (tn + 1) o.length co 1) w2 := by
            have := slice_rest ao o.length co (tn + 1) w2 (by omega)
            rwa [show (((tn + 1 : Nat) : Int)) = (tn : Int) + 1 by omega] at this
          have hwt : IntKind.i64.wrap ((tn : Int) + 1) = (tn : Int) + 1 := by rw [IntKind.wrap_i64]; omega
          have hat := hco2.row.rest (tn + 1) (by omega) rfl
          have HRE := reaches_any _ (o.drop (tn + 1)) kd w2 (by rw [List.length_drop]; omega) hat
          rw [hfb] at HRE
          generalize sliced ao (tn + 1) o.length co 1 = U at hsl HRE
          clear hI1 HFB hfb h0 hat
          go_wp2_with fail
          refine HRE.mono ?_
          rintro e w3 ⟨rfl, b3⟩
          go_wp2_with fail
          go_meet
          exact ⟨rfl, b3⟩
      case rest =>
        obtain ⟨rfl, hbx⟩ := hcut
        have HCO := hco2.below hbx
        clear hco2 hbx
        cases fb
        · have HPU : Hid (cmpStep (o, t) d = pushS (o, t) d) := step_not HFQ.out.symm
          clear HFB HFQ HC1 hI1
          have hkz : kd = 0 ∨ ¬ kd = 0 := Classical.em _
          have HALL : CoAt B w1 (.slice ao o.length co) o (wc.alloc (.cells #[.int .i64 d] 3)) := HCO.below ((Below.refl _ _).alloc (Nat.le_refl _) _)
          rcases hkz with hkz | hkz
          · have hkb : (kd == 0) = true := by simp [hkz]
            go_wp2_with (at_builtin; refine append_intH (wc.alloc (.cells #[.int .i64 d] 3)) rfl (.tmp 48) (.tmp 50) rfl w1.heap.size _ wc.heap.size 1 o d (by omega) HALL.row (cell_one_int _ _ 0 _ rfl) rfl rfl HALL.gb.size ?_; intro v8 w8 row8 hg8 _; have CO := HALL.own row8 hg8; obtain ⟨a8, c8, rfl, -⟩ := row8.at)
            go_roundw
            case rel => exact ⟨k + 1, by omega, by go_num, by rw [HST.out, HPU.out, show o.length + 1 = (o ++ [d]).length by simp]; exact CO, by rw [HST.out, HPU.out]; unfold pushS; rw [if_pos (by rw [← HKD.out]; exact hkz)]⟩
            case measure => simp [intOf]; omega
          · have hkb : (kd == 0) = false := by simp [hkz]
            go_wp2_with (at_builtin; refine append_intH (wc.alloc (.cells #[.int .i64 d] 3)) rfl (.tmp 48) (.tmp 50) rfl w1.heap.size _ wc.heap.size 1 o d (by omega) HALL.row (cell_one_int _ _ 0 _ rfl) rfl rfl HALL.gb.size ?_; intro v8 w8 row8 hg8 _; have CO := HALL.own row8 hg8; obtain ⟨a8, c8, rfl, -⟩ := row8.at)
            go_roundw
            case rel => exact ⟨k + 1, by omega, by go_num, by rw [HST.out, HPU.out, show o.length + 1 = (o ++ [d]).length by simp]; exact CO, by rw [HST.out, HPU.out]; unfold pushS; rw [if_neg (by rw [← HKD.out]; exact hkz)]⟩
            case measure => simp [intOf]; omega
        · have h0 : 0 ≤ t := by
            rcases hI1 with h | h
            · have := HFB.out
              rw [decide_eq_false (by simpa using h), Bool.false_and] at this
              cases this
            · exact h.1
          obtain ⟨tn, rfl⟩ : ∃ tn : Nat, t = (tn : Int) := ⟨t.toNat, by omega⟩
          have htl : tn < o.length := by omega
          have HSO : Hid (∀ c, pairN (o.getD tn 0) d = some c → cmpStep (o, (tn : Int)) d = (o.set tn c, (tn : Int))) := fun c h => step_free HFQ.out.symm h
          have HNO : Hid (pairN (o.getD tn 0) d = none → cmpStep (o, (tn : Int)) d = pushS (o, (tn : Int)) d) := fun h => step_none h
          have HPR := fun W h => pairOf_any B (o.getD tn 0) d W h
          obtain ⟨ao2, co2, e2, hoc⟩ := HCO.row.at
          injection e2 with e3 e4 e5
          subst e3; subst e5
          obtain ⟨bo, oo, rfl, hbo, hco⟩ := hoc tn htl
          generalize pairN (o.getD tn 0) d = po at HSO HNO HPR
          generalize o.getD tn 0 = z at hco HPR
          unfold pairV at HPR
          have HPW := HPR _ HCO.src
          clear HFB HFQ hoc e4 hI1 h0 HPR
          go_upto_region 9 with fail
          go_cut [9, 10] from 15 to 52 (fun cv bv wx => cv = .int .i64 (po.getD 0) ∧ bv = .bool po.isSome ∧ CoAt B w1 (.slice (some ⟨bo, oo, none⟩) o.length co) o wx)
          case first =>
            go_wp2_with fail
            refine HPW.mono ?_
            rintro e w5 ⟨rfl, hs5, hg5⟩
            go_wp2_with fail
            go_meet
            exact ⟨rfl, rfl, HCO.pair hB1 hs5 hg5⟩
          case rest =>
            obtain ⟨rfl, rfl, HCO5⟩ := hcut
            clear HCO hco hbo HPW
            cases po with
            | none =>
              have HPU : Hid (cmpStep (o, (tn : Int)) d = pushS (o, (tn : Int)) d) := HNO.out rfl
              clear HNO HSO
              have hkz : kd = 0 ∨ ¬ kd = 0 := Classical.em _
              have HALL : CoAt B w1 (.slice (some ⟨bo, oo, none⟩) o.length co) o (wc.alloc (.cells #[.int .i64 d] 3)) := HCO5.below ((Below.refl _ _).alloc (Nat.le_refl _) _)
              rcases hkz with hkz | hkz
              · have hkb : (kd == 0) = true := by simp [hkz]
                go_wp2_with (at_builtin; refine append_intH (wc.alloc (.cells #[.int .i64 d] 3)) rfl (.tmp 48) (.tmp 50) rfl w1.heap.size _ wc.heap.size 1 o d (by omega) HALL.row (cell_one_int _ _ 0 _ rfl) rfl rfl HALL.gb.size ?_; intro v8 w8 row8 hg8 _; have CO := HALL.own row8 hg8; obtain ⟨a8, c8, rfl, -⟩ := row8.at)
                go_roundw
                case rel => exact ⟨k + 1, by omega, by go_num, by rw [HST.out, HPU.out, show o.length + 1 = (o ++ [d]).length by simp]; exact CO, by rw [HST.out, HPU.out]; unfold pushS; rw [if_pos (by rw [← HKD.out]; exact hkz)]⟩
                case measure => simp [intOf]; omega
              · have hkb : (kd == 0) = false := by simp [hkz]
                go_wp2_with (at_builtin; refine append_intH (wc.alloc (.cells #[.int .i64 d] 3)) rfl (.tmp 48) (.tmp 50) rfl w1.heap.size _ wc.heap.size 1 o d (by omega) HALL.row (cell_one_int _ _ 0 _ rfl) rfl rfl HALL.gb.size ?_; intro v8 w8 row8 hg8 _; have CO := HALL.own row8 hg8; obtain ⟨a8, c8, rfl, -⟩ := row8.at)
                go_roundw
                case rel => exact ⟨k + 1, by omega, by go_num, by rw [HST.out, HPU.out, show o.length + 1 = (o ++ [d]).length by simp]; exact CO, by rw [HST.out, HPU.out]; unfold pushS; rw [if_neg (by rw [← HKD.out]; exact hkz)]⟩
                case measure => simp [intOf]; omega
            | some c =>
              have HPU : Hid (cmpStep (o, (tn : Int)) d = (o.set tn c, (tn : Int))) := HSO.out c rfl
              clear HNO HSO
              have row5 := HCO5.row
              rcases id row5.2 with ⟨e, h0'⟩ | ⟨g, cap, cur, e, hg, hh, -⟩
              · exact absurd h0' (by omega)
              injection e with e1 e2 e3
              injection e1 with e1
              injection e1 with e1 e4
              subst e1; subst e3; subst e4
              have rowz : wc.ownsRow w1.heap.size 3 1 (.slice (some ⟨bo, 0, none⟩) o.length co) o.length (intsV o) := row5
              have hfz := rowz.frozenAt tn
              obtain ⟨u0, hcl⟩ : ∃ u0, wc.cell? ⟨bo, tn, none⟩ = some u0 := ⟨_, (rowz.cellAt tn (by omega)).trans (List.getElem?_eq_getElem (by have := rowz.1; omega))⟩
              have HS : IntRow (wc.setCell ⟨bo, tn, none⟩ (.int .i64 c)) w1.heap.size (.slice (some ⟨bo, 0, none⟩) o.length co) (o.set tn c) := by
                have := (rowz.stored tn (.int .i64 c)).1
                show World.ownsRow _ _ _ _ _ _ _
                rw [List.length_set, show intsV (o.set tn c) = (intsV o).set tn (.int .i64 c) by simp [intsV, List.map_set]]
                exact this
              have HB2 : Hid (CoAt B w1 (.slice (some ⟨bo, 0, none⟩) o.length co) (o.set tn c) (wc.setCell ⟨bo, tn, none⟩ (.int .i64 c))) := HCO5.own HS (gbi_set wc bo tn (.int .i64 c))
              clear row5 rowz hh HS HCO5
              go_wp2
              go_roundw
              case rel => exact ⟨k + 1, by omega, by go_num, by rw [HST.out, HPU.out]; exact HB2.out, by rw [HST.out, HPU.out]⟩
              case measure => simp [intOf]; omega
    · obtain rfl : k = n := by omega
      rw [HEN.out] at hco
      have HBE : Hid (Below w.heap.size w wr) := ⟨hco.gb.os.trans B1.os, hco.gb.tape.trans B1.tape, hco.gb.output.trans B1.output, Nat.le_trans B1.size hco.gb.size, fun q hq => (hco.gb.block q (Nat.lt_of_lt_of_le hq B1.size) (fun e => by injection e with e; rw [HB.out] at e; omega)).trans (B1.block q hq)⟩
      have HRW : Hid (IntRow wr w.heap.size _ r) := hco.row.mono B1.size
      clear hco
      go_wp2
      (try rw [Exit.noGoto_ret])
      go_ret
      exact ⟨_, rfl, HRW.out, HBE.out⟩
end

end Go.Proofs.YtkgnlamlmnhleaaDoor
