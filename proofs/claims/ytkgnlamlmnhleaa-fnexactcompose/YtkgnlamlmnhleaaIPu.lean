/- Signs put together: impl.pairTable: it goes through the table of parts in whatever order, and makes the map of all pairs. -/
import Derived.Test.YtkgnlamlmnhleaaRows
import Derived.Test.YtkgnlamlmnhleaaIPt
import Derived.Test.YtkgnlamlmnhleaaITab
import Derived.Test.YtkgnlamlmnhleaaISrc
import Derived.Maps.RangeWalk
namespace Go.Proofs.Ytkgnlamlmnhleaa
open Go.RowKit Go.ChangeMaps Go.MapKept

/-- block r goes through the map bm of all rows; V: the rows that have come -/
def TabLoop (bm r : Nat) (V : List (Int × Int × Int)) (cnt : Nat) (w : World) : Prop :=
  ∃ es clk seen c0, w.heap[bm]? = some (.map es clk) ∧ Stamped es clk ∧ (∀ e ∈ es.toList, ∃ x ∈ pTab, e.key = pKey x.1 ∧ e.val = pVal x.2.1 x.2.2) ∧ (∀ x ∈ pTab, ∃ e ∈ es.toList, e.key = pKey x.1) ∧
    w.heap[r]? = some (.mapIter (some bm) clk seen c0) ∧ clk ≤ c0 ∧ (leftOf es seen).size = cnt ∧ ∀ e ∈ es.toList, ∀ x ∈ pTab, e.key = pKey x.1 → (x ∈ V ↔ seen.contains e.born = true)
theorem TabLoop.left_eq {bm r cnt : Nat} {V : List (Int × Int × Int)} {w : World} (h : TabLoop bm r V cnt w) : w.rangeLeft bm r = cnt := by
  obtain ⟨es, clk, seen, c0, hb, -, -, -, hr, -, hc, -⟩ := h
  simp only [World.rangeLeft, hb, hr]
  exact hc
theorem TabLoop.lt {bm r cnt : Nat} {V : List (Int × Int × Int)} {w : World} (h : TabLoop bm r V cnt w) : bm < w.heap.size ∧ r < w.heap.size ∧ r ≠ bm := by
  obtain ⟨es, clk, seen, c0, hb, -, -, -, hr, -⟩ := h
  refine ⟨lt_of_block hb, lt_of_block hr, fun e => ?_⟩
  rw [e, hb] at hr
  cases hr
theorem TabLoop.kept {bm r cnt : Nat} {V : List (Int × Int × Int)} {w w' : World} (h : TabLoop bm r V cnt w) (e1 : w'.heap[bm]? = w.heap[bm]?) (e2 : w'.heap[r]? = w.heap[r]?) : TabLoop bm r V cnt w' := by
  obtain ⟨es, clk, seen, c0, hb, h1, h2, h3, hr, h4⟩ := h
  exact ⟨es, clk, seen, c0, e1.trans hb, h1, h2, h3, e2.trans hr, h4⟩
theorem key_inj {a b : Int} (h : pKey a = pKey b) : a = b := by simpa [pKey] using h
set_option maxRecDepth 100000 in
theorem ptab_row : ∀ x ∈ pTab, ∀ y ∈ pTab, x.1 = y.1 → x = y := by decide
/-- the loop begins -/
theorem TabLoop.start {g : Nat} {L : List Nat} {w : World} (h : MapIs g L w) (hL : ∀ j, j ∈ L ↔ j < 75) :
    ∃ w' cnt, (Instr.range 68 (.map (some g))).run Try.prog w = .ok (.pointer (some ⟨w.heap.size, 0, none⟩)) w' ∧ TabLoop g w.heap.size [] cnt w' ∧ Below w.heap.size w w' ∧ w'.heap.size = w.heap.size + 1 := by
  obtain ⟨es, clk, hb, hes, hst⟩ := h
  have hlt := lt_of_block hb
  refine ⟨_, _, run_range_map w _ 78 80 g es clk Try.underlying68 hb, ⟨es, clk, #[], clk, (Below.heap_alloc _ _ _ hlt).trans hb, hst, fun e he => ?_, fun x hx => ?_, by show (w.heap.push _)[w.heap.size]? = _; simp, Nat.le_refl _, rfl, fun e he x hx hk => by simp⟩, (Below.refl _ _).alloc (Nat.le_refl _) _, by simp⟩
  · have : (e.key, e.val) ∈ ((L.map pRow).map fun e => (pKey e.1, pVal e.2.1 e.2.2)) := by rw [← hes]; exact List.mem_map_of_mem he
    obtain ⟨x, hx, hxe⟩ := List.mem_map.1 this
    obtain ⟨j, hj, rfl⟩ := List.mem_map.1 hx
    refine ⟨pRow j, ?_, (congrArg Prod.fst hxe).symm, (congrArg Prod.snd hxe).symm⟩
    rw [pTab_range]
    exact List.mem_map.2 ⟨j, List.mem_range.2 ((hL j).1 hj), rfl⟩
  · rw [pTab_range] at hx
    obtain ⟨j, hj, rfl⟩ := List.mem_map.1 hx
    have : (pKey (pRow j).1, pVal (pRow j).2.1 (pRow j).2.2) ∈ (es.toList.map fun e => (e.key, e.val)) := by
      rw [hes]
      exact List.mem_map.2 ⟨pRow j, List.mem_map.2 ⟨j, (hL j).2 (List.mem_range.1 hj), rfl⟩, rfl⟩
    obtain ⟨e, he, hee⟩ := List.mem_map.1 this
    exact ⟨e, he, congrArg Prod.fst hee⟩
/-- a step of it -/
theorem TabLoop.next {bm r cnt : Nat} {V : List (Int × Int × Int)} {w : World} (h : TabLoop bm r V cnt w) (ty : TypeId) :
    (cnt = 0 ∧ (∀ x ∈ pTab, x ∈ V) ∧ (Instr.next (.pointer (some ⟨r, 0, none⟩)) false ty).run Try.prog w = .ok (.tuple #[.bool false]) w) ∨
    ∃ x ∈ pTab, x ∉ V ∧ ∃ w' cnt', (Instr.next (.pointer (some ⟨r, 0, none⟩)) false ty).run Try.prog w = .ok (.tuple #[.bool true, .agg #[.int .i64 x.1], .agg #[.int .i64 x.2.1, .int .i64 x.2.2]]) w' ∧
      TabLoop bm r (x :: V) cnt' w' ∧ cnt' < cnt ∧ w.grownBy w' (some r) ∧ w'.heap.size = w.heap.size ∧ (Instr.entry (.pointer (some ⟨r, 0, none⟩))).run Try.prog w' = .ok (.tuple #[.agg #[.int .i64 x.1], .agg #[.int .i64 x.2.1, .int .i64 x.2.2]]) w' := by
  have hne := h.lt.2.2
  obtain ⟨es, clk, seen, c0, hb, hst, hall, hcov, hr, hcc, rfl, hv⟩ := h
  rcases run_next_at (P := Try.prog) w ty r bm clk c0 seen es clk hr hb hst.1 hcc with ⟨h0, hrun⟩ | ⟨e, he, w1, hal, hrun⟩
  · refine Or.inl ⟨h0, fun x hx => ?_, hrun⟩
    obtain ⟨e, he, hk⟩ := hcov x hx
    exact (hv e he x hx hk).2 (all_seen es seen h0 e he)
  · obtain ⟨hem, hes⟩ := mem_left he
    obtain ⟨x, hx, hk, hval⟩ := hall e hem
    have hr1 : w1.heap[r]? = some (.mapIter (some bm) clk seen c0) := by rcases hal with rfl | rfl <;> exact hr
    have hb1 : w1.heap[bm]? = some (.map es clk) := by rcases hal with rfl | rfl <;> exact hb
    have hset := heap_set (o' := .mapIter (some bm) clk (seen.push e.born) clk) hr1
    have hb' : (setBlock w1 r (.mapIter (some bm) clk (seen.push e.born) clk)).heap[bm]? = some (.map es clk) := (hset.2 bm (fun e1 => hne e1.symm)).trans hb1
    have hen := run_entry_at (P := Try.prog) _ r bm clk seen es clk e hset.1 hb' hem ((stamped_iff es clk).1 hst).2.1
    rw [hk, hval] at hrun hen
    refine Or.inr ⟨x, hx, fun hxv => ?_, _, _, hrun, ⟨es, clk, seen.push e.born, clk, hb', hst, hall, hcov, hset.1, Nat.le_refl _, rfl, fun e2 he2 y hy hk2 => ?_⟩, left_shrinks es seen e he, ?_, ?_, hen⟩
    · rw [(hv e hem x hx hk).1 hxv] at hes; cases hes
    · rw [contains_push, Bool.or_eq_true, beq_iff_eq, List.mem_cons, ← hv e2 he2 y hy hk2]
      have hst2 := (stamped_iff es clk).1 hst
      constructor
      · rintro (rfl | h)
        · right
          exact congrArg MapEntry.born (entry_eq_of_key hst2.2.2 he2 hem (hk2.trans hk.symm))
        · exact Or.inl h
      · rintro (h | h)
        · exact Or.inr h
        · left
          have := born_inj hst2.2.1 he2 hem h
          subst this
          exact ptab_row y hy x hx (key_inj (hk2.symm.trans hk))
    · rcases hal with rfl | rfl <;> exact ⟨rfl, rfl, rfl, by simp [setBlock], fun i _ hi => hset.2 i (fun e1 => hi (by rw [e1]))⟩
    · rcases hal with rfl | rfl <;> simp [setBlock]

section
variable (w : World) {ops : Array Oper} {rest : List Oper} {o : Oper} {a : Act} {Q : Exit → Act → World → Prop}
theorem wpList_tab_range (hg : o.guard = none) (m : Operand) (hop : o.op = Op.range 68 m) {g : Nat} {L : List Nat} (hm : a.eval m = .map (some g)) (h : MapIs g L w) (hL : ∀ j, j ∈ L ↔ j < 75)
    (hK : ∀ w' cnt, TabLoop g w.heap.size [] cnt w' → Below w.heap.size w w' → w'.heap.size = w.heap.size + 1 → wpList Try.prog ops Q rest (a.put o.dst (.pointer (some ⟨w.heap.size, 0, none⟩))) w') :
    wpList Try.prog ops Q (o :: rest) a w := by
  refine wpList_plain hg fun K' hK' => ?_
  obtain ⟨w', cnt, hrun, r1, r2, r3⟩ := TabLoop.start h hL
  unfold Oper.wp
  simp [execOp, hop, hm, hrun, Result.andThen]
  exact hK' _ _ (hK w' cnt r1 r2 r3)
theorem wpList_tab_next (hg : o.guard = none) (it : Operand) (hop : o.op = Op.next it false) {bm r cnt : Nat} {V : List (Int × Int × Int)} (hit : a.eval it = .pointer (some ⟨r, 0, none⟩)) (h : TabLoop bm r V cnt w)
    (hDone : cnt = 0 → Hid (∀ x ∈ pTab, x ∈ V) → wpList Try.prog ops Q rest (a.put o.dst (.tuple #[.bool false])) w)
    (hMore : ∀ (s l m : Int) (w' : World) (cnt' : Nat), Hid ((s, l, m) ∈ pTab) → Hid ((s, l, m) ∉ V) → Hid (TabLoop bm r ((s, l, m) :: V) cnt' w') → cnt' < cnt → w.grownBy w' (some r) → w'.heap.size = w.heap.size →
      (Instr.entry (.pointer (some ⟨r, 0, none⟩))).run Try.prog w' = .ok (.tuple #[.agg #[.int .i64 s], .agg #[.int .i64 l, .int .i64 m]]) w' →
      wpList Try.prog ops Q rest (a.put o.dst (.tuple #[.bool true, .agg #[.int .i64 s], .agg #[.int .i64 l, .int .i64 m]])) w') :
    wpList Try.prog ops Q (o :: rest) a w := by
  refine wpList_plain hg fun K' hK' => ?_
  unfold Oper.wp
  rcases h.next o.type with ⟨h0, hl, hrun⟩ | ⟨x, hx, hnv, w', cnt', hrun, h1, h2, h3, h4, h5⟩
  · simp [execOp, hop, hit, hrun, Result.andThen]
    exact hK' _ _ (hDone h0 hl)
  · simp [execOp, hop, hit, hrun, Result.andThen]
    exact hK' _ _ (hMore x.1 x.2.1 x.2.2 w' cnt' hx hnv h1 h2 h3 h4 h5)
end
end Go.Proofs.Ytkgnlamlmnhleaa
