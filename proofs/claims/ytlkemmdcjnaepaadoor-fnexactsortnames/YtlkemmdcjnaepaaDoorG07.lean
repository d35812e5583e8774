/- Signs: impl.Parts at a syllable: its parts by three method values, read one behind the other. Signs: impl.partTable: the table that it makes, and how it is looked up. -/
import Derived.Test.YtlkemmdcjnaepaaDoorRows
import Derived.Test.YtlkemmdcjnaepaaDoorG00
import Derived.Test.YtlkemmdcjnaepaaDoorG01
import Derived.WalkKit
import Derived.WalkSpells
import Derived.WalkLawsBesides
import Derived.Deep.QuietTactic
import Derived.BigQuiet
import Derived.Carry
import Derived.Maps.Own
import Derived.Laws.StructEq
namespace Go.Proofs.YtlkemmdcjnaepaaDoor

section
open Go.RowKit

def leadP (a : Int) : Int := 4352 + a / 588
def vowP (a : Int) : Int := 4449 + a % 588 / 28
def tailP (a : Int) : Int := if a % 28 = 0 then 0 else 4519 + a % 28

set_option maxRecDepth 100000 in
theorem readLead_any (a : Int) (h0 : 0 ≤ a) (h1 : a < 11172) (w : World) :
    Calls Tryd.prog 116 #[.agg #[.int .i64 a]] w fun e w' => e = .returned (.int .i64 (leadP a)) ∧ Below w.heap.size w w' := by
  have HT : a.tdiv 588 = a / 588 := Int.tdiv_eq_ediv_of_nonneg h0
  have HR : Hid (leadP a = 4352 + a / 588) := rfl
  generalize leadP a = r at HR ⊢
  go_enter Tryd.func116, Tryd.ntmps116
  go_wp2
  go_ret
  exact ⟨ret_int (by rw [HR.out]), below_lit _ _⟩

set_option maxRecDepth 100000 in
theorem readVowel_any (a : Int) (h0 : 0 ≤ a) (w : World) :
    Calls Tryd.prog 117 #[.agg #[.int .i64 a]] w fun e w' => e = .returned (.int .i64 (vowP a)) ∧ Below w.heap.size w w' := by
  have HT : a.tmod 588 = a % 588 := Int.tmod_eq_emod_of_nonneg h0
  have HT2 : (a % 588).tdiv 28 = a % 588 / 28 := Int.tdiv_eq_ediv_of_nonneg (by omega)
  have HR : Hid (vowP a = 4449 + a % 588 / 28) := rfl
  generalize vowP a = r at HR ⊢
  go_enter Tryd.func117, Tryd.ntmps117
  go_wp2
  go_ret
  exact ⟨ret_int (by rw [HR.out]), below_lit _ _⟩

set_option maxRecDepth 100000 in
theorem readTail_any (a : Int) (h0 : 0 ≤ a) (w : World) :
    Calls Tryd.prog 118 #[.agg #[.int .i64 a]] w fun e w' => e = .returned (.int .i64 (tailP a)) ∧ Below w.heap.size w w' := by
  have HT : a.tmod 28 = a % 28 := Int.tmod_eq_emod_of_nonneg h0
  have HR : Hid (tailP a = if a % 28 = 0 then 0 else 4519 + a % 28) := rfl
  generalize tailP a = r at HR ⊢
  by_cases h : a % 28 = 0
  · go_enter Tryd.func118, Tryd.ntmps118
    go_wp2
    go_ret
    exact ⟨ret_int (by rw [HR.out, if_pos h]), below_lit _ _⟩
  · go_enter Tryd.func118, Tryd.ntmps118
    go_wp2
    go_ret
    exact ⟨ret_int (by rw [HR.out, if_neg h]), below_lit _ _⟩

def partsOf (l : List Int) : List Int := l.filter fun x => x != 0
theorem partsOf_take (l : List Int) (k : Nat) (h : k < l.length) : partsOf (l.take (k + 1)) = partsOf (l.take k) ++ (if l.getD k 0 = 0 then [] else [l.getD k 0]) := by
  have e : l.take (k + 1) = l.take k ++ [l.getD k 0] := by
    rw [List.take_add_one, List.getElem?_eq_getElem h]; simp [List.getD, h]
  rw [e]; unfold partsOf
  rw [List.filter_append]
  congr 1
  by_cases hz : l.getD k 0 = 0
  · rw [if_pos hz]; rw [hz]; rfl
  · rw [if_neg hz]; simpa using hz
theorem partsOf_len (l : List Int) (k : Nat) : (partsOf (l.take k)).length ≤ l.length := by
  unfold partsOf
  refine Nat.le_trans (List.length_filter_le _ _) ?_
  simp; omega

/-- the three ways to read a syllable lie at g -/
def SylWays (g : Nat) (a : Int) (w : World) : Prop :=
  g < w.heap.size ∧ w.cell? ⟨g, 0, none⟩ = some (.func (.func 116) #[.agg #[.int .i64 a]] #[]) ∧
  w.cell? ⟨g, 1, none⟩ = some (.func (.func 117) #[.agg #[.int .i64 a]] #[]) ∧
  w.cell? ⟨g, 2, none⟩ = some (.func (.func 118) #[.agg #[.int .i64 a]] #[])

theorem SylWays.below {g B : Nat} {a : Int} {w w' : World} (h : SylWays g a w) (hb : Below B w w') (hB : g < B) : SylWays g a w' :=
  ⟨Nat.lt_of_lt_of_le h.1 hb.size, (hb.cell hB).trans h.2.1, (hb.cell hB).trans h.2.2.1, (hb.cell hB).trans h.2.2.2⟩

theorem syl_new (w : World) (g : Nat) (hg : w.heap.size = g) (a : Int) (T : TypeId) :
    SylWays g a (w.alloc (.cells #[.func (.func 116) #[.agg #[.int .i64 a]] #[], .func (.func 117) #[.agg #[.int .i64 a]] #[], .func (.func 118) #[.agg #[.int .i64 a]] #[]] T)) := by
  subst hg
  refine ⟨by simp, ?_, ?_, ?_⟩ <;> (rw [World.cell?_alloc_mark]; rfl)

set_option maxRecDepth 100000 in
set_option maxHeartbeats 2000000 in
theorem readSyl_any (g : Nat) (a : Int) (h0 : 0 ≤ a) (h1 : a < 11172) (w : World) (hw : SylWays g a w) :
    Calls Tryd.prog 115 #[.slice (some ⟨g, 0, none⟩) 3 3] w fun e w' => ∃ v, e = .returned v ∧ IntRow w' w.heap.size v (partsOf [leadP a, vowP a, tailP a]) ∧ Below w.heap.size w w' := by
  have HL := fun w => readLead_any a h0 h1 w
  have HV := fun w => readVowel_any a h0 w
  have HT := fun w => readTail_any a h0 w
  have hp0 : leadP a ≠ 0 := by unfold leadP; omega
  have hp1 : vowP a ≠ 0 := by unfold vowP; omega
  generalize leadP a = p0 at *
  generalize vowP a = p1 at *
  generalize tailP a = p2 at *
  go_enter Tryd.func115, Tryd.ntmps115
  go_wp2
  go_loopw [3, 9] (fun v i wr => ∃ k : Nat, k ≤ 3 ∧ i = .int .i64 k ∧ IntRow wr w.heap.size v (partsOf ([p0, p1, p2].take k)) ∧ Below w.heap.size w wr) (fun _ i _ => 3 - (intOf i).toNat)
  case atStart => exact ⟨0, by omega, rfl, World.ownsRow_nil _ _ _ _, Below.refl _ _⟩
  case round =>
    obtain ⟨k, hk, rfl, hrow, hbel⟩ := hrel
    obtain ⟨hg, c0, c1, c2⟩ := hw.below hbel hw.1
    match k, hk with
    | 0, _ =>
      go_wp2_with (first | (go_at_call 116; refine (HL _).mono ?_; rintro e w1 ⟨rfl, hb1⟩; have hrow1 := hrow.below hb1; have hbel1 := hbel.trans (hb1.mono hbel.size)) | (at_builtin; refine append_int w1 rfl (.tmp 17) (.tmp 19) rfl w.heap.size _ _ p0 (by simp [partsOf]) hrow1 rfl rfl hbel1.size ?_; intro v' w2 hrow2 hbel2))
      go_roundw
      case rel => exact ⟨1, by omega, by go_num, by rw [partsOf_take _ 0 (by simp)]; simpa [hp0] using hrow2, hbel1.trans hbel2⟩
      case measure => simp [intOf]
    | 1, _ =>
      go_wp2_with (first | (go_at_call 117; refine (HV _).mono ?_; rintro e w1 ⟨rfl, hb1⟩; have hrow1 := hrow.below hb1; have hbel1 := hbel.trans (hb1.mono hbel.size)) | (at_builtin; refine append_int w1 rfl (.tmp 17) (.tmp 19) rfl w.heap.size _ _ p1 (by have := partsOf_len [p0, p1, p2] 1; simp at this ⊢; omega) hrow1 rfl rfl hbel1.size ?_; intro v' w2 hrow2 hbel2))
      go_roundw
      case rel => exact ⟨2, by omega, by go_num, by rw [partsOf_take _ 1 (by simp)]; simpa [hp1] using hrow2, hbel1.trans hbel2⟩
      case measure => simp [intOf]
    | 2, _ =>
      by_cases hz : p2 = 0
      · go_wp2_with (first | (go_at_call 118; refine (HT _).mono ?_; rintro e w1 ⟨rfl, hb1⟩; have hrow1 := hrow.below hb1; have hbel1 := hbel.trans (hb1.mono hbel.size)))
        go_roundw
        case rel => exact ⟨3, by omega, by go_num, by rw [partsOf_take _ 2 (by simp)]; simpa [hz] using hrow1, hbel1⟩
        case measure => simp [intOf]
      · go_wp2_with (first | (go_at_call 118; refine (HT _).mono ?_; rintro e w1 ⟨rfl, hb1⟩; have hrow1 := hrow.below hb1; have hbel1 := hbel.trans (hb1.mono hbel.size)) | (at_builtin; refine append_int w1 rfl (.tmp 17) (.tmp 19) rfl w.heap.size _ _ p2 (by have := partsOf_len [p0, p1, p2] 2; simp at this ⊢; omega) hrow1 rfl rfl hbel1.size ?_; intro v' w2 hrow2 hbel2))
        go_roundw
        case rel => exact ⟨3, by omega, by go_num, by rw [partsOf_take _ 2 (by simp)]; simpa [hz] using hrow2, hbel1.trans hbel2⟩
        case measure => simp [intOf]
    | 3, _ =>
      go_wp2
      go_ret
      exact ⟨_, rfl, hrow, hbel⟩


set_option maxRecDepth 100000 in
set_option maxHeartbeats 2000000 in
theorem partsOfH (p : Value) (c : Int) (hc : inB c 44032 55203 = true) (w : World) :
    Calls Tryd.prog 111 #[p, .int .i64 c] w fun e w' => ∃ v, e = .returned v ∧ IntRow w' w.heap.size v (partsOf [leadP (c - 44032), vowP (c - 44032), tailP (c - 44032)]) ∧ Below w.heap.size w w' := by
  have hb := inB_le hc
  have HS := fun g w' h => readSyl_any g (c - 44032) (by omega) (by omega) w' h
  generalize partsOf [leadP (c - 44032), vowP (c - 44032), tailP (c - 44032)] = l at HS ⊢
  have hmf : ∀ (fn : Fn) (first cap : Array Value) (w : World), (Instr.makeFunc fn first cap).run Tryd.prog w = .ok (.func fn first cap) w := fun _ _ _ _ => rfl
  go_enter Tryd.func111, Tryd.ntmps111
  go_wp2_with (go_at_call 99; refine (btw_any _ _ _ _).mono ?_; rintro e w' ⟨rfl, rfl⟩)
  refine (HS (w.heap.size + 1) _ (syl_new _ _ ?_ _ _)).mono ?_
  · rw [hs_alloc]
  rintro e w2 ⟨v, rfl, hrow, hb2⟩
  have hs1 := hb2.size
  rw [hs_alloc, hs_alloc] at hs1
  go_wp2
  go_ret
  exact ⟨v, rfl, hrow.mono (by rw [hs_alloc, hs_alloc]; omega), (((Below.refl w.heap.size w).alloc (Nat.le_refl _) _).alloc (by rw [hs_alloc]; omega) _).trans (hb2.mono (by rw [hs_alloc, hs_alloc]; omega))⟩
end

section
open Go.RowKit Go.ChangeMaps Go.MapKept

def pTab : List (Int × Int × Int) := [(192, 65, 768), (200, 69, 768), (204, 73, 768), (210, 79, 768), (217, 85, 768), (224, 97, 768), (232, 101, 768), (236, 105, 768), (242, 111, 768), (249, 117, 768), (193, 65, 769), (201, 69, 769), (205, 73, 769), (211, 79, 769), (218, 85, 769), (221, 89, 769), (225, 97, 769), (233, 101, 769), (237, 105, 769), (243, 111, 769), (250, 117, 769), (253, 121, 769), (194, 65, 770), (202, 69, 770), (206, 73, 770), (212, 79, 770), (219, 85, 770), (226, 97, 770), (234, 101, 770), (238, 105, 770), (244, 111, 770), (251, 117, 770), (195, 65, 771), (209, 78, 771), (213, 79, 771), (227, 97, 771), (241, 110, 771), (245, 111, 771), (196, 65, 776), (203, 69, 776), (207, 73, 776), (214, 79, 776), (220, 85, 776), (228, 97, 776), (235, 101, 776), (239, 105, 776), (246, 111, 776), (252, 117, 776), (255, 121, 776), (197, 65, 778), (229, 97, 778), (199, 67, 807), (231, 99, 807), (902, 913, 769), (904, 917, 769), (905, 919, 769), (906, 921, 769), (908, 927, 769), (910, 933, 769), (911, 937, 769), (940, 945, 769), (941, 949, 769), (942, 951, 769), (943, 953, 769), (972, 959, 769), (973, 965, 769), (974, 969, 769), (469, 220, 772), (470, 252, 772), (7840, 65, 803), (7841, 97, 803), (7852, 7840, 770), (7853, 7841, 770), (8486, 937, 0), (8491, 197, 0)]
def pKey (k : Int) : Value := .agg #[.int .i64 k]
def pVal (l m : Int) : Value := .agg #[.int .i64 l, .int .i64 m]
def pFind (c : Int) : List (Int × Int × Int) → Int × Int
  | [] => (0, 0)
  | e :: es => if c == e.1 then e.2 else pFind c es

set_option maxRecDepth 100000 in
theorem key_eq (a b : Int) (w : World) : (Op.equal 140 (pKey a) (pKey b)).run Tryd.prog w = .ok (a == b) w := by
  obtain ⟨f, hf, hn, ht, ho⟩ : ∃ f : Field, (Tryd.prog.fieldsOf 140).toList = [f] ∧ (f.name = "_") = False ∧ f.type = 3 ∧ f.offset = 0 := ⟨_, rfl, by simp, rfl, rfl⟩
  have h := run_equalIn_struct (P := Tryd.prog) w 9999 140 #[.int .i64 a] #[.int .i64 b] (by kernel_rfl) (by kernel_rfl)
  have hi := run_equalIn_int (P := Tryd.prog) (w := w) 9998 3 .i64 .i64 a b Tryd.underlying3
  show (Op.equalIn 10000 140 (.agg #[.int .i64 a]) (.agg #[.int .i64 b])).run Tryd.prog w = _
  rw [h, hf]
  unfold Op.eqFields
  simp [hn, ht, ho, part, Tryd.isAgg3, hi]
  by_cases hab : a = b
  · rw [if_pos hab, hab]; simp [Op.eqFields]
  · rw [if_neg hab]; simp [hab]
theorem key_ok (e : Bool) (a : Int) (w : World) : (Instr.checkKey e 10000 140 (pKey a)).run Tryd.prog w = .ok () w := by
  kernel_rfl

/-- nothing among es has the key c: the first place from i on -/
theorem asking_none (c : Int) (w : World) : ∀ (es : List MapEntry) (i : Nat), (∀ e ∈ es, ∃ k, e.key = pKey k ∧ c ≠ k) → (Instr.findAsking 140 (pKey c) es i).run Tryd.prog w = .ok none w
  | [], i, _ => rfl
  | e :: es, i, h => by
    obtain ⟨k, hk, hne⟩ := h e (by simp)
    have hb : (c == k) = false := by simpa using hne
    have ih := asking_none c w es (i + 1) (fun e' he' => h e' (by simp [he']))
    unfold Instr.findAsking
    simp [hk, key_eq, hb, ih]

theorem asking_find (c : Int) (w : World) : ∀ (L : List (Int × Int × Int)) (i : Nat) (es : List MapEntry), (es.map fun e => (e.key, e.val)) = (L.map fun e => (pKey e.1, pVal e.2.1 e.2.2)) →
    ((Instr.findAsking 140 (pKey c) es i).run Tryd.prog w = .ok none w ∧ pFind c L = (0, 0)) ∨
    (∃ j, (Instr.findAsking 140 (pKey c) es i).run Tryd.prog w = .ok (some (j, pVal (pFind c L).1 (pFind c L).2)) w)
  | [], i, [], h => .inl ⟨rfl, rfl⟩
  | [], i, e :: es, h => by simp at h
  | x :: L, i, [], h => by simp at h
  | x :: L, i, e :: es, h => by
    simp at h
    obtain ⟨⟨h1, h2⟩, h3⟩ := h
    have ih := asking_find c w L (i + 1) es (by simpa using h3)
    unfold Instr.findAsking pFind
    cases hb : c == x.1
    · simp [h1, key_eq, hb]
      simpa using ih
    · right
      exact ⟨i, by simp [h1, h2, key_eq, hb]⟩

theorem find_asking (c : Int) (w : World) (es : List MapEntry) (h : ∀ e ∈ es, ∃ k, e.key = pKey k) : (Instr.findKey 140 (pKey c) es).run Tryd.prog w = (Instr.findAsking 140 (pKey c) es 0).run Tryd.prog w := by
  have hu := run_underlying Tryd.underlying140 (w := w)
  unfold Instr.findKey
  cases es with
  | nil => simp [hu, Instr.findNow, Instr.findAsking]
  | cons e es =>
    obtain ⟨k, hk⟩ := h e (by simp)
    simp [hu, Instr.findNow, Instr.sameNow, hk, pKey]

def pRow (j : Nat) : Int × Int × Int := pTab.getD j (0, 0, 0)

theorem tab_keys {es : List MapEntry} {L : List (Int × Int × Int)} (h : (es.map fun e => (e.key, e.val)) = (L.map fun e => (pKey e.1, pVal e.2.1 e.2.2))) : ∀ e ∈ es, ∃ x ∈ L, e.key = pKey x.1 := by
  intro e he
  have : (e.key, e.val) ∈ (L.map fun e => (pKey e.1, pVal e.2.1 e.2.2)) := by rw [← h]; exact List.mem_map_of_mem he
  obtain ⟨x, hx, hxe⟩ := List.mem_map.1 this
  exact ⟨x, hx, (congrArg Prod.fst hxe).symm⟩

theorem pTab_apart : ∀ j, j < 75 → ∀ i, i < j → (pRow i).1 ≠ (pRow j).1 := by decide
theorem pRow_inj {i j : Nat} (hi : i < 75) (hj : j < 75) (h : (pRow i).1 = (pRow j).1) : i = j := by
  rcases Nat.lt_trichotomy i j with h1 | h1 | h1
  · exact absurd h (pTab_apart j hj i h1)
  · exact h1
  · exact absurd h.symm (pTab_apart i hi j h1)

theorem pFind_none (c : Int) : ∀ (L : List (Int × Int × Int)), (∀ e ∈ L, e.1 ≠ c) → pFind c L = (0, 0)
  | [], _ => rfl
  | e :: L, h => by
    have hb : (c == e.1) = false := by simpa using fun e' => h e (by simp) e'.symm
    unfold pFind; rw [hb]
    exact pFind_none c L (fun x hx => h x (by simp [hx]))
theorem pFind_row (j : Nat) (hj : j < 75) : ∀ (L : List Nat), (∀ i ∈ L, i < 75) → j ∈ L → pFind (pRow j).1 (L.map pRow) = (pRow j).2
  | [], _, h => by cases h
  | i :: L, hl, h => by
    show pFind (pRow j).1 (pRow i :: L.map pRow) = _
    unfold pFind
    by_cases hij : i = j
    · subst hij; simp
    · have hb : ((pRow j).1 == (pRow i).1) = false := by
        simpa using fun e => hij (pRow_inj (hl i (by simp)) hj e.symm)
      rw [hb]
      rcases List.mem_cons.1 h with h1 | h1
      · exact absurd h1.symm hij
      · exact pFind_row j hj L (fun x hx => hl x (by simp [hx])) h1

theorem pTab_range : pTab = (List.range 75).map pRow := by rfl

/-- whatever the order in which the rows went in -/
theorem pFind_any (c : Int) (L : List Nat) (hL : ∀ j, j ∈ L ↔ j < 75) : pFind c (L.map pRow) = pFind c pTab := by
  by_cases h : ∃ j, j < 75 ∧ (pRow j).1 = c
  · obtain ⟨j, hj, rfl⟩ := h
    rw [pTab_range, pFind_row j hj L (fun i hi => (hL i).1 hi) ((hL j).2 hj), pFind_row j hj _ (fun i hi => List.mem_range.1 hi) (List.mem_range.2 hj)]
  · rw [pTab_range, pFind_none c, pFind_none c]
    · intro e he hc
      obtain ⟨i, hi, rfl⟩ := List.mem_map.1 he
      exact h ⟨i, List.mem_range.1 hi, hc⟩
    · intro e he hc
      obtain ⟨i, hi, rfl⟩ := List.mem_map.1 he
      exact h ⟨i, (hL i).1 hi, hc⟩

/-- block g of w is a map of the rows L -/
def MapIs (g : Nat) (L : List Nat) (w : World) : Prop :=
  ∃ es clk, w.heap[g]? = some (.map es clk) ∧ (es.toList.map fun e => (e.key, e.val)) = ((L.map pRow).map fun e => (pKey e.1, pVal e.2.1 e.2.2)) ∧ Stamped es clk

theorem MapIs.made (w : World) : MapIs w.heap.size [] (w.alloc (.map #[] 0)) := ⟨#[], 0, by show (w.heap.push _)[w.heap.size]? = _; simp, rfl, stamped_empty 0⟩

theorem MapIs.insert {g : Nat} {L : List Nat} {w : World} (h : MapIs g L w) (hL : ∀ i ∈ L, i < 75) {j : Nat} (hj : j < 75) (hn : j ∉ L) :
    ∃ w', (Instr.mapUpdate 117 (.map (some g)) (pKey (pRow j).1) (pVal (pRow j).2.1 (pRow j).2.2)).run Tryd.prog w = .ok () w' ∧ MapIs g (L ++ [j]) w' ∧ w.grownBy w' (some g) := by
  obtain ⟨es, clk, hb, hes, hst⟩ := h
  have hks := tab_keys hes
  have hnone : (Instr.findKey 140 (pKey (pRow j).1) es.toList).run Tryd.prog w = .ok none w := by
    rw [find_asking _ w es.toList (fun e he => by obtain ⟨x, _, hx⟩ := hks e he; exact ⟨_, hx⟩)]
    refine asking_none _ w _ 0 fun e he => ?_
    obtain ⟨x, hx, hxe⟩ := hks e he
    obtain ⟨i, hi, rfl⟩ := List.mem_map.1 hx
    refine ⟨_, hxe, fun e' => hn ?_⟩
    rw [← pRow_inj (hL i hi) hj e'.symm]; exact hi
  have hrun : (Instr.mapUpdate 117 (.map (some g)) (pKey (pRow j).1) (pVal (pRow j).2.1 (pRow j).2.2)).run Tryd.prog w = .ok () (setBlock w g (.map (es.push ⟨pKey (pRow j).1, pVal (pRow j).2.1 (pRow j).2.2, clk⟩) (clk + 1))) := by
    simp [Instr.mapUpdate, run_underlying Tryd.underlying117, MapKept.run_getObj_map hb, key_ok, hnone, MapKept.run_setObj_map _ hb, Result.andThen, setBlock]
  have hkn : ∀ e ∈ es.toList, e.key ≠ pKey (pRow j).1 := fun e he hk => by
    obtain ⟨x, hx, hxe⟩ := hks e he
    obtain ⟨i, hi, rfl⟩ := List.mem_map.1 hx
    have : (pRow i).1 = (pRow j).1 := by
      have := hxe.symm.trans hk
      simpa [pKey] using this
    have e2 := pRow_inj (hL i hi) hj this
    exact hn (e2 ▸ hi)
  refine ⟨_, hrun, ⟨_, _, heap_setBlock_same hb _, ?_, stamped_push hst hkn⟩, ⟨rfl, rfl, rfl, by simp [setBlock], fun i _ hi => heap_setBlock_other hb _ (fun e => hi (by rw [e]))⟩⟩
  rw [List.map_append, List.map_append, ← hes]
  simp

theorem MapIs.lookup {g : Nat} {L : List Nat} {w : World} (h : MapIs g L w) (hL : ∀ j, j ∈ L ↔ j < 75) (c : Int) :
    (Instr.lookup 117 (.map (some g)) (.agg #[.int .i64 c]) false).run Tryd.prog w = .ok (.agg #[.int .i64 (pFind c pTab).1, .int .i64 (pFind c pTab).2]) w := by
  obtain ⟨es, clk, hb, hes, hst⟩ := h
  have hks := tab_keys hes
  have hk : (.agg #[.int .i64 c] : Value) = pKey c := rfl
  have hz : (zeroValue 134).run Tryd.prog w = .ok (pVal 0 0) w := by kernel_rfl
  have hfa := find_asking c w es.toList (fun e he => by obtain ⟨x, _, hx⟩ := hks e he; exact ⟨_, hx⟩)
  rw [hk, ← pFind_any c L hL]
  rcases asking_find c w (L.map pRow) 0 es.toList hes with ⟨h1, h2⟩ | ⟨j, h1⟩
  · rw [h1] at hfa
    rw [h2]
    simp [Instr.lookup, run_underlying Tryd.underlying117, MapKept.run_getObj_map hb, key_ok, hfa, hz]
    rfl
  · rw [h1] at hfa
    simp [Instr.lookup, run_underlying Tryd.underlying117, MapKept.run_getObj_map hb, key_ok, hfa]
    rfl
end

end Go.Proofs.YtlkemmdcjnaepaaDoor
