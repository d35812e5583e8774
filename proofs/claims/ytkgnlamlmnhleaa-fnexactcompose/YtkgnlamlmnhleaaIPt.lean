/- Signs put together: the map that impl.pairTable makes: how it is written, and how it is looked up. -/
import Derived.Test.YtkgnlamlmnhleaaRows
import Derived.Test.YtkgnlamlmnhleaaIMap
import Derived.Test.YtkgnlamlmnhleaaPaN
import Derived.ChangeKeysEq
import Derived.Maps.RangeRun
namespace Go.Proofs.Ytkgnlamlmnhleaa
open Go.RowKit Go.ChangeMaps Go.MapKept

def qKey (a b : Int) : Value := .agg #[.int .i64 a, .int .i64 b]
def qFind (a b : Int) : List (Int × Int × Int) → Option Int
  | [] => none
  | e :: es => if (a == e.2.1 && b == e.2.2) = true then some e.1 else qFind a b es

theorem arr_eq (a b c d : Int) (w : World) : (Op.equal 67 (qKey a b) (qKey c d)).run Try.prog w = .ok (a == c && b == d) w := by
  obtain ⟨i, hi⟩ : ∃ i, Try.prog.info? 3 = some i := ⟨_, rfl⟩
  have hc : Try.prog.cellsOf 3 = 1 := by kernel_rfl
  have h := run_equalIn_array (P := Try.prog) w 9999 #[.int .i64 a, .int .i64 b] #[.int .i64 c, .int .i64 d] Try.underlying67 hi
  have h1 := run_equalIn_int (P := Try.prog) (w := w) 9998 3 .i64 .i64 a c Try.underlying3
  have h2 := run_equalIn_int (P := Try.prog) (w := w) 9998 3 .i64 .i64 b d Try.underlying3
  show (Op.equalIn 10000 67 (.agg #[.int .i64 a, .int .i64 b]) (.agg #[.int .i64 c, .int .i64 d])).run Try.prog w = _
  rw [h, hc, show List.range 2 = [0, 1] from rfl]
  cases e1 : a == c <;> cases e2 : b == d <;> simp [Op.eqItems, part, Try.isAgg3, h1, h2, e1, e2]
theorem arr_ok (e : Bool) (a b : Int) (w : World) : (Instr.checkKey e 10000 67 (qKey a b)).run Try.prog w = .ok () w := by
  kernel_rfl
theorem q_none (a b : Int) (w : World) : ∀ (es : List MapEntry) (i : Nat), (∀ e ∈ es, ∃ x y, e.key = qKey x y ∧ (a == x && b == y) = false) → (Instr.findAsking 67 (qKey a b) es i).run Try.prog w = .ok none w
  | [], i, _ => rfl
  | e :: es, i, h => by
    obtain ⟨x, y, hk, hne⟩ := h e (by simp)
    have ih := q_none a b w es (i + 1) (fun e' he' => h e' (by simp [he']))
    unfold Instr.findAsking
    simp only [Sem.run_bind, hk, arr_eq, hne, Result.andThen_ok]
    simpa using ih
theorem q_find (a b : Int) (w : World) : ∀ (L : List (Int × Int × Int)) (i : Nat) (es : List MapEntry), (es.map fun e => (e.key, e.val)) = (L.map fun e => (qKey e.2.1 e.2.2, Value.int .i64 e.1)) →
    ((Instr.findAsking 67 (qKey a b) es i).run Try.prog w = .ok none w ∧ qFind a b L = none) ∨
    (∃ j c, (Instr.findAsking 67 (qKey a b) es i).run Try.prog w = .ok (some (j, .int .i64 c)) w ∧ qFind a b L = some c)
  | [], i, [], h => .inl ⟨rfl, rfl⟩
  | [], i, e :: es, h => by simp at h
  | x :: L, i, [], h => by simp at h
  | x :: L, i, e :: es, h => by
    simp at h
    obtain ⟨⟨h1, h2⟩, h3⟩ := h
    have ih := q_find a b w L (i + 1) es (by simpa using h3)
    unfold Instr.findAsking qFind
    simp only [Sem.run_bind, h1, arr_eq, Result.andThen_ok]
    cases hb : (a == x.2.1 && b == x.2.2)
    · simpa using ih
    · right
      exact ⟨i, x.1, by simp [h2], by simp⟩
theorem q_asking (a b : Int) (w : World) (es : List MapEntry) : (Instr.findKey 67 (qKey a b) es).run Try.prog w = (Instr.findAsking 67 (qKey a b) es 0).run Try.prog w := by
  have hu := run_underlying Try.underlying67 (w := w)
  unfold Instr.findKey
  cases es with
  | nil => simp [hu, Instr.findNow, Instr.findAsking]
  | cons e es => simp [hu, Instr.findNow, Instr.sameNow, qKey]

/-- block g of w is a map of the rows L, each sign behind its two parts -/
def PairsIs (g : Nat) (L : List (Int × Int × Int)) (w : World) : Prop :=
  ∃ es clk, w.heap[g]? = some (.map es clk) ∧ (es.toList.map fun e => (e.key, e.val)) = (L.map fun e => (qKey e.2.1 e.2.2, Value.int .i64 e.1))
theorem PairsIs.made (w : World) : PairsIs w.heap.size [] (w.alloc (.map #[] 0)) := ⟨#[], 0, by show (w.heap.push _)[w.heap.size]? = _; simp, rfl⟩
theorem PairsIs.lt {g : Nat} {L : List (Int × Int × Int)} {w : World} (h : PairsIs g L w) : g < w.heap.size := by
  obtain ⟨es, clk, hb, _⟩ := h
  exact lt_of_block hb
theorem PairsIs.kept {g : Nat} {L : List (Int × Int × Int)} {w w' : World} (h : PairsIs g L w) (e : w'.heap[g]? = w.heap[g]?) : PairsIs g L w' := by
  obtain ⟨es, clk, hb, hes⟩ := h
  exact ⟨es, clk, e.trans hb, hes⟩
theorem q_keys {es : List MapEntry} {L : List (Int × Int × Int)} (h : (es.map fun e => (e.key, e.val)) = (L.map fun e => (qKey e.2.1 e.2.2, Value.int .i64 e.1))) : ∀ e ∈ es, ∃ x ∈ L, e.key = qKey x.2.1 x.2.2 := by
  intro e he
  have : (e.key, e.val) ∈ (L.map fun e => (qKey e.2.1 e.2.2, Value.int .i64 e.1)) := by rw [← h]; exact List.mem_map_of_mem he
  obtain ⟨x, hx, hxe⟩ := List.mem_map.1 this
  exact ⟨x, hx, (congrArg Prod.fst hxe).symm⟩
theorem PairsIs.insert {g : Nat} {L : List (Int × Int × Int)} {w : World} (h : PairsIs g L w) (x : Int × Int × Int) (hn : ∀ y ∈ L, y.2 ≠ x.2) :
    ∃ w', (Instr.mapUpdate 44 (.map (some g)) (qKey x.2.1 x.2.2) (.int .i64 x.1)).run Try.prog w = .ok () w' ∧ PairsIs g (L ++ [x]) w' ∧ w.grownBy w' (some g) ∧ w'.heap.size = w.heap.size := by
  obtain ⟨es, clk, hb, hes⟩ := h
  have hks := q_keys hes
  have hnone : (Instr.findKey 67 (qKey x.2.1 x.2.2) es.toList).run Try.prog w = .ok none w := by
    rw [q_asking]
    refine q_none _ _ w _ 0 fun e he => ?_
    obtain ⟨y, hy, hye⟩ := hks e he
    refine ⟨_, _, hye, ?_⟩
    cases hq : (x.2.1 == y.2.1 && x.2.2 == y.2.2)
    · rfl
    · simp only [Bool.and_eq_true, beq_iff_eq] at hq
      exact absurd (Prod.ext hq.1.symm hq.2.symm) (hn y hy)
  have hrun : (Instr.mapUpdate 44 (.map (some g)) (qKey x.2.1 x.2.2) (.int .i64 x.1)).run Try.prog w = .ok () (setBlock w g (.map (es.push ⟨qKey x.2.1 x.2.2, .int .i64 x.1, clk⟩) (clk + 1))) := by
    simp [Instr.mapUpdate, run_underlying Try.underlying44, MapKept.run_getObj_map hb, arr_ok, hnone, MapKept.run_setObj_map _ hb, Result.andThen, setBlock]
  refine ⟨_, hrun, ⟨_, _, heap_setBlock_same hb _, ?_⟩, ⟨rfl, rfl, rfl, by simp [setBlock], fun i _ hi => heap_setBlock_other hb _ (fun e => hi (by rw [e]))⟩, by simp [setBlock]⟩
  rw [List.map_append, ← hes]
  simp
theorem PairsIs.lookup {g : Nat} {L : List (Int × Int × Int)} {w : World} (h : PairsIs g L w) (a b : Int) :
    (Instr.lookup 44 (.map (some g)) (.agg #[.int .i64 a, .int .i64 b]) true).run Try.prog w = .ok (.tuple #[.int .i64 ((qFind a b L).getD 0), .bool (qFind a b L).isSome]) w := by
  obtain ⟨es, clk, hb, hes⟩ := h
  have hk : (.agg #[.int .i64 a, .int .i64 b] : Value) = qKey a b := rfl
  have hz : (zeroValue 3).run Try.prog w = .ok (.int .i64 0) w := by kernel_rfl
  have hfa := q_asking a b w es.toList
  rw [hk]
  rcases q_find a b w L 0 es.toList hes with ⟨h1, h2⟩ | ⟨j, c, h1, h2⟩
  · rw [h1] at hfa
    rw [h2]
    simp [Instr.lookup, run_underlying Try.underlying44, MapKept.run_getObj_map hb, arr_ok, hfa, hz]
  · rw [h1] at hfa
    rw [h2]
    simp [Instr.lookup, run_underlying Try.underlying44, MapKept.run_getObj_map hb, arr_ok, hfa]

theorem qFind_mem {a b c : Int} : ∀ {L : List (Int × Int × Int)}, qFind a b L = some c → (c, a, b) ∈ L
  | [], h => by cases h
  | e :: L, h => by
    unfold qFind at h
    split at h
    · rename_i hq
      simp only [Bool.and_eq_true, beq_iff_eq] at hq
      injection h with h
      rw [hq.1, hq.2, ← h]
      simp
    · exact List.mem_cons_of_mem _ (qFind_mem h)
theorem qFind_none {a b : Int} : ∀ {L : List (Int × Int × Int)}, qFind a b L = none → ∀ x ∈ L, x.2 ≠ (a, b)
  | [], _, x, hx => by cases hx
  | e :: L, h, x, hx => by
    unfold qFind at h
    split at h
    · cases h
    · rename_i hq
      rcases List.mem_cons.1 hx with rfl | hx
      · intro e
        apply hq
        rw [e]; simp
      · exact qFind_none h x hx
/-- the rows of the table that have two parts -/
def AllPairs (L : List (Int × Int × Int)) : Prop := ∀ x, x ∈ L ↔ (x ∈ pTab ∧ x.2.2 ≠ 0)
theorem qFind_all {L : List (Int × Int × Int)} (h : AllPairs L) (a b : Int) : qFind a b L = pairT a b := by
  cases hq : qFind a b L with
  | some c =>
    obtain ⟨h1, h2⟩ := (h _).1 (qFind_mem hq)
    unfold pairT
    cases hf : pTab.find? fun r => r.2.1 == a && (r.2.2 == b && r.2.2 != 0) with
    | none =>
      have := List.find?_eq_none.1 hf _ h1
      exact absurd (by simpa using h2) this
    | some r =>
      have hp := List.find?_some hf
      have hm := List.mem_of_find?_eq_some hf
      simp only [Bool.and_eq_true, beq_iff_eq, bne_iff_ne] at hp
      exact congrArg some (ptab_uniq _ h1 r hm (Prod.ext hp.1.symm hp.2.1.symm))
  | none =>
    cases hp : pairT a b with
    | none => rfl
    | some c =>
      exfalso
      unfold pairT at hp
      obtain ⟨r, hr, rfl⟩ := Option.map_eq_some_iff.1 hp
      have hpr := List.find?_some hr
      have hm := List.mem_of_find?_eq_some hr
      simp only [Bool.and_eq_true, beq_iff_eq, bne_iff_ne] at hpr
      exact qFind_none hq r ((h r).2 ⟨hm, hpr.2.2⟩) (Prod.ext hpr.1 hpr.2.1)
theorem ptab_cls : ∀ r ∈ pTab, r.2.2 ≠ 0 → 0 < clsN r.2.2 := by decide
theorem pairT_cls {a b : Int} (h : ¬ 0 < clsN b) : pairT a b = none := by
  cases hp : pairT a b with
  | none => rfl
  | some c =>
    exfalso
    unfold pairT at hp
    obtain ⟨r, hr, rfl⟩ := Option.map_eq_some_iff.1 hp
    have hpr := List.find?_some hr
    have hm := List.mem_of_find?_eq_some hr
    simp only [Bool.and_eq_true, beq_iff_eq, bne_iff_ne] at hpr
    have := ptab_cls r hm hpr.2.2
    rw [hpr.2.1] at this
    exact h this
end Go.Proofs.Ytkgnlamlmnhleaa
