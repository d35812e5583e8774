/- Signs: impl.partTable: the table that it makes, and how it is looked up. -/
import Derived.Test.YtkgnlamlmnhleaaDoorRows
import Derived.Test.YtkgnlamlmnhleaaDoorSgn
import Derived.Test.YtkgnlamlmnhleaaDoorIBtw
import Derived.WalkKit
import Derived.WalkSpells
import Derived.WalkLawsBesides
import Derived.Carry
import Derived.Maps.Own
import Derived.Laws.StructEq
namespace Go.Proofs.YtkgnlamlmnhleaaDoor
open Go.RowKit Go.ChangeMaps Go.MapKept

def pTab : List (Int × Int × Int) := [(192, 65, 768), (200, 69, 768), (204, 73, 768), (210, 79, 768), (217, 85, 768), (224, 97, 768), (232, 101, 768), (236, 105, 768), (242, 111, 768), (249, 117, 768), (193, 65, 769), (201, 69, 769), (205, 73, 769), (211, 79, 769), (218, 85, 769), (221, 89, 769), (225, 97, 769), (233, 101, 769), (237, 105, 769), (243, 111, 769), (250, 117, 769), (253, 121, 769), (194, 65, 770), (202, 69, 770), (206, 73, 770), (212, 79, 770), (219, 85, 770), (226, 97, 770), (234, 101, 770), (238, 105, 770), (244, 111, 770), (251, 117, 770), (195, 65, 771), (209, 78, 771), (213, 79, 771), (227, 97, 771), (241, 110, 771), (245, 111, 771), (196, 65, 776), (203, 69, 776), (207, 73, 776), (214, 79, 776), (220, 85, 776), (228, 97, 776), (235, 101, 776), (239, 105, 776), (246, 111, 776), (252, 117, 776), (255, 121, 776), (197, 65, 778), (229, 97, 778), (199, 67, 807), (231, 99, 807), (902, 913, 769), (904, 917, 769), (905, 919, 769), (906, 921, 769), (908, 927, 769), (910, 933, 769), (911, 937, 769), (940, 945, 769), (941, 949, 769), (942, 951, 769), (943, 953, 769), (972, 959, 769), (973, 965, 769), (974, 969, 769), (469, 220, 772), (470, 252, 772), (7840, 65, 803), (7841, 97, 803), (7852, 7840, 770), (7853, 7841, 770), (8486, 937, 0), (8491, 197, 0)]
def pKey (k : Int) : Value := .agg #[.int .i64 k]
def pVal (l m : Int) : Value := .agg #[.int .i64 l, .int .i64 m]
def pFind (c : Int) : List (Int × Int × Int) → Int × Int
  | [] => (0, 0)
  | e :: es => if c == e.1 then e.2 else pFind c es

set_option maxRecDepth 100000 in
theorem key_eq (a b : Int) (w : World) : (Op.equal 90 (pKey a) (pKey b)).run Tryd.prog w = .ok (a == b) w := by
  obtain ⟨f, hf, hn, ht, ho⟩ : ∃ f : Field, (Tryd.prog.fieldsOf 90).toList = [f] ∧ (f.name = "_") = False ∧ f.type = 3 ∧ f.offset = 0 := ⟨_, rfl, by simp, rfl, rfl⟩
  have h := run_equalIn_struct (P := Tryd.prog) w 9999 90 #[.int .i64 a] #[.int .i64 b] (by kernel_rfl) (by kernel_rfl)
  have hi := run_equalIn_int (P := Tryd.prog) (w := w) 9998 3 .i64 .i64 a b Tryd.underlying3
  show (Op.equalIn 10000 90 (.agg #[.int .i64 a]) (.agg #[.int .i64 b])).run Tryd.prog w = _
  rw [h, hf]
  unfold Op.eqFields
  simp [hn, ht, ho, part, Tryd.isAgg3, hi]
  by_cases hab : a = b
  · rw [if_pos hab, hab]; simp [Op.eqFields]
  · rw [if_neg hab]; simp [hab]
theorem key_ok (e : Bool) (a : Int) (w : World) : (Instr.checkKey e 10000 90 (pKey a)).run Tryd.prog w = .ok () w := by
  kernel_rfl

/-- nothing among es has the key c: the first place from i on -/
theorem asking_none (c : Int) (w : World) : ∀ (es : List MapEntry) (i : Nat), (∀ e ∈ es, ∃ k, e.key = pKey k ∧ c ≠ k) → (Instr.findAsking 90 (pKey c) es i).run Tryd.prog w = .ok none w
  | [], i, _ => rfl
  | e :: es, i, h => by
    obtain ⟨k, hk, hne⟩ := h e (by simp)
    have hb : (c == k) = false := by simpa using hne
    have ih := asking_none c w es (i + 1) (fun e' he' => h e' (by simp [he']))
    unfold Instr.findAsking
    simp [hk, key_eq, hb, ih]

theorem asking_find (c : Int) (w : World) : ∀ (L : List (Int × Int × Int)) (i : Nat) (es : List MapEntry), (es.map fun e => (e.key, e.val)) = (L.map fun e => (pKey e.1, pVal e.2.1 e.2.2)) →
    ((Instr.findAsking 90 (pKey c) es i).run Tryd.prog w = .ok none w ∧ pFind c L = (0, 0)) ∨
    (∃ j, (Instr.findAsking 90 (pKey c) es i).run Tryd.prog w = .ok (some (j, pVal (pFind c L).1 (pFind c L).2)) w)
  | [], i, [], h => .inl ⟨rfl, rfl⟩
  | [], i, e :: es, h => by simp at h
  | x :: L, i, [], h => by simp at h
  | x :: L, i, e :: es, h => by
    simp at h
    obtain ⟨⟨h1, h2⟩, h3⟩ := h
    have ih := asking_find c w L (i + 1) es (by simpa using h3)
    unfold Instr.findAsking pFind
    cases hb : c == x.1
    · simp [h1, key_eq, hb]
      simpa using ih
    · right
      exact ⟨i, by simp [h1, h2, key_eq, hb]⟩

theorem find_asking (c : Int) (w : World) (es : List MapEntry) (h : ∀ e ∈ es, ∃ k, e.key = pKey k) : (Instr.findKey 90 (pKey c) es).run Tryd.prog w = (Instr.findAsking 90 (pKey c) es 0).run Tryd.prog w := by
  have hu := run_underlying Tryd.underlying90 (w := w)
  unfold Instr.findKey
  cases es with
  | nil => simp [hu, Instr.findNow, Instr.findAsking]
  | cons e es =>
    obtain ⟨k, hk⟩ := h e (by simp)
    simp [hu, Instr.findNow, Instr.sameNow, hk, pKey]

def pRow (j : Nat) : Int × Int × Int := pTab.getD j (0, 0, 0)

theorem tab_keys {es : List MapEntry} {L : List (Int × Int × Int)} (h : (es.map fun e => (e.key, e.val)) = (L.map fun e => (pKey e.1, pVal e.2.1 e.2.2))) : ∀ e ∈ es, ∃ x ∈ L, e.key = pKey x.1 := by
  intro e he
  have : (e.key, e.val) ∈ (L.map fun e => (pKey e.1, pVal e.2.1 e.2.2)) := by rw [← h]; exact List.mem_map_of_mem he
  obtain ⟨x, hx, hxe⟩ := List.mem_map.1 this
  exact ⟨x, hx, (congrArg Prod.fst hxe).symm⟩

theorem pTab_apart : ∀ j, j < 75 → ∀ i, i < j → (pRow i).1 ≠ (pRow j).1 := by decide
theorem pRow_inj {i j : Nat} (hi : i < 75) (hj : j < 75) (h : (pRow i).1 = (pRow j).1) : i = j := by
  rcases Nat.lt_trichotomy i j with h1 | h1 | h1
  · exact absurd h (pTab_apart j hj i h1)
  · exact h1
  · exact absurd h.symm (pTab_apart i hi j h1)

theorem pFind_none (c : Int) : ∀ (L : List (Int × Int × Int)), (∀ e ∈ L, e.1 ≠ c) → pFind c L = (0, 0)
  | [], _ => rfl
  | e :: L, h => by
    have hb : (c == e.1) = false := by simpa using fun e' => h e (by simp) e'.symm
    unfold pFind; rw [hb]
    exact pFind_none c L (fun x hx => h x (by simp [hx]))
theorem pFind_row (j : Nat) (hj : j < 75) : ∀ (L : List Nat), (∀ i ∈ L, i < 75) → j ∈ L → pFind (pRow j).1 (L.map pRow) = (pRow j).2
  | [], _, h => by cases h
  | i :: L, hl, h => by
    show pFind (pRow j).1 (pRow i :: L.map pRow) = _
    unfold pFind
    by_cases hij : i = j
    · subst hij; simp
    · have hb : ((pRow j).1 == (pRow i).1) = false := by
        simpa using fun e => hij (pRow_inj (hl i (by simp)) hj e.symm)
      rw [hb]
      rcases List.mem_cons.1 h with h1 | h1
      · exact absurd h1.symm hij
      · exact pFind_row j hj L (fun x hx => hl x (by simp [hx])) h1

theorem pTab_range : pTab = (List.range 75).map pRow := by rfl

/-- whatever the order in which the rows went in -/
theorem pFind_any (c : Int) (L : List Nat) (hL : ∀ j, j ∈ L ↔ j < 75) : pFind c (L.map pRow) = pFind c pTab := by
  by_cases h : ∃ j, j < 75 ∧ (pRow j).1 = c
  · obtain ⟨j, hj, rfl⟩ := h
    rw [pTab_range, pFind_row j hj L (fun i hi => (hL i).1 hi) ((hL j).2 hj), pFind_row j hj _ (fun i hi => List.mem_range.1 hi) (List.mem_range.2 hj)]
  · rw [pTab_range, pFind_none c, pFind_none c]
    · intro e he hc
      obtain ⟨i, hi, rfl⟩ := List.mem_map.1 he
      exact h ⟨i, List.mem_range.1 hi, hc⟩
    · intro e he hc
      obtain ⟨i, hi, rfl⟩ := List.mem_map.1 he
      exact h ⟨i, (hL i).1 hi, hc⟩

/-- block g of w is a map of the rows L -/
def MapIs (g : Nat) (L : List Nat) (w : World) : Prop :=
  ∃ es clk, w.heap[g]? = some (.map es clk) ∧ (es.toList.map fun e => (e.key, e.val)) = ((L.map pRow).map fun e => (pKey e.1, pVal e.2.1 e.2.2)) ∧ Stamped es clk

theorem MapIs.made (w : World) : MapIs w.heap.size [] (w.alloc (.map #[] 0)) := ⟨#[], 0, by show (w.heap.push _)[w.heap.size]? = _; simp, rfl, stamped_empty 0⟩

theorem MapIs.insert {g : Nat} {L : List Nat} {w : World} (h : MapIs g L w) (hL : ∀ i ∈ L, i < 75) {j : Nat} (hj : j < 75) (hn : j ∉ L) :
    ∃ w', (Instr.mapUpdate 63 (.map (some g)) (pKey (pRow j).1) (pVal (pRow j).2.1 (pRow j).2.2)).run Tryd.prog w = .ok () w' ∧ MapIs g (L ++ [j]) w' ∧ w.grownBy w' (some g) := by
  obtain ⟨es, clk, hb, hes, hst⟩ := h
  have hks := tab_keys hes
  have hnone : (Instr.findKey 90 (pKey (pRow j).1) es.toList).run Tryd.prog w = .ok none w := by
    rw [find_asking _ w es.toList (fun e he => by obtain ⟨x, _, hx⟩ := hks e he; exact ⟨_, hx⟩)]
    refine asking_none _ w _ 0 fun e he => ?_
    obtain ⟨x, hx, hxe⟩ := hks e he
    obtain ⟨i, hi, rfl⟩ := List.mem_map.1 hx
    refine ⟨_, hxe, fun e' => hn ?_⟩
    rw [← pRow_inj (hL i hi) hj e'.symm]; exact hi
  have hrun : (Instr.mapUpdate 63 (.map (some g)) (pKey (pRow j).1) (pVal (pRow j).2.1 (pRow j).2.2)).run Tryd.prog w = .ok () (setBlock w g (.map (es.push ⟨pKey (pRow j).1, pVal (pRow j).2.1 (pRow j).2.2, clk⟩) (clk + 1))) := by
    simp [Instr.mapUpdate, run_underlying Tryd.underlying63, MapKept.run_getObj_map hb, key_ok, hnone, MapKept.run_setObj_map _ hb, Result.andThen, setBlock]
  have hkn : ∀ e ∈ es.toList, e.key ≠ pKey (pRow j).1 := fun e he hk => by
    obtain ⟨x, hx, hxe⟩ := hks e he
    obtain ⟨i, hi, rfl⟩ := List.mem_map.1 hx
    have : (pRow i).1 = (pRow j).1 := by
      have := hxe.symm.trans hk
      simpa [pKey] using this
    have e2 := pRow_inj (hL i hi) hj this
    exact hn (e2 ▸ hi)
  refine ⟨_, hrun, ⟨_, _, heap_setBlock_same hb _, ?_, stamped_push hst hkn⟩, ⟨rfl, rfl, rfl, by simp [setBlock], fun i _ hi => heap_setBlock_other hb _ (fun e => hi (by rw [e]))⟩⟩
  rw [List.map_append, List.map_append, ← hes]
  simp

theorem MapIs.lookup {g : Nat} {L : List Nat} {w : World} (h : MapIs g L w) (hL : ∀ j, j ∈ L ↔ j < 75) (c : Int) :
    (Instr.lookup 63 (.map (some g)) (.agg #[.int .i64 c]) false).run Tryd.prog w = .ok (.agg #[.int .i64 (pFind c pTab).1, .int .i64 (pFind c pTab).2]) w := by
  obtain ⟨es, clk, hb, hes, hst⟩ := h
  have hks := tab_keys hes
  have hk : (.agg #[.int .i64 c] : Value) = pKey c := rfl
  have hz : (zeroValue 83).run Tryd.prog w = .ok (pVal 0 0) w := by kernel_rfl
  have hfa := find_asking c w es.toList (fun e he => by obtain ⟨x, _, hx⟩ := hks e he; exact ⟨_, hx⟩)
  rw [hk, ← pFind_any c L hL]
  rcases asking_find c w (L.map pRow) 0 es.toList hes with ⟨h1, h2⟩ | ⟨j, h1⟩
  · rw [h1] at hfa
    rw [h2]
    simp [Instr.lookup, run_underlying Tryd.underlying63, MapKept.run_getObj_map hb, key_ok, hfa, hz]
    rfl
  · rw [h1] at hfa
    simp [Instr.lookup, run_underlying Tryd.underlying63, MapKept.run_getObj_map hb, key_ok, hfa]
    rfl

end Go.Proofs.YtkgnlamlmnhleaaDoor
