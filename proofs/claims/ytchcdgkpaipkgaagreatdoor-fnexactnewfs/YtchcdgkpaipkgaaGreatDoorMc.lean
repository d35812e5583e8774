/- Signs: impl.Parts at a syllable: its parts by three method values, read one behind the other. Signs: impl.partTable: the table that it makes, and how it is looked up. Signs: impl.partTable: seventy-five rows go into a new map, in whatever order the language takes: its contract. Signs: impl.Parts at every int: its contract. Signs: the source of parts: its table is made when a sign first needs it; impl.Parts at every int: its contract. Signs: impl.between, impl.Class, impl.FoldOf, impl.isSign: what they answer. -/
import Derived.Test.YtchcdgkpaipkgaaGreatDoorRows
import Derived.Test.YtchcdgkpaipkgaaGreatDoorMa
import Derived.Test.YtchcdgkpaipkgaaGreatDoorMbt
import Derived.Test.YtchcdgkpaipkgaaGreatDoorMb
import Derived.WalkKit
import Derived.WalkSpells
import Derived.WalkLawsBesides
import Derived.Deep.QuietTactic
import Derived.BigQuiet
import Derived.Carry
import Derived.Maps.Own
import Derived.Laws.StructEq
import Derived.Orders
namespace Go.Proofs.YtchcdgkpaipkgaaGreatDoor

section
open Go.RowKit

def leadP (a : Int) : Int := 4352 + a / 588
def vowP (a : Int) : Int := 4449 + a % 588 / 28
def tailP (a : Int) : Int := if a % 28 = 0 then 0 else 4519 + a % 28

set_option maxRecDepth 100000 in
theorem readLead_any (a : Int) (h0 : 0 ≤ a) (h1 : a < 11172) (w : World) :
    Calls Tryz.prog 93 #[.agg #[.int .i64 a]] w fun e w' => e = .returned (.int .i64 (leadP a)) ∧ Below w.heap.size w w' := by
  have HT : a.tdiv 588 = a / 588 := Int.tdiv_eq_ediv_of_nonneg h0
  have HR : Hid (leadP a = 4352 + a / 588) := rfl
  generalize leadP a = r at HR ⊢
  go_enter Tryz.func93, Tryz.ntmps93
  go_wp2
  go_ret
  exact ⟨ret_int (by rw [HR.out]), below_lit _ _⟩

set_option maxRecDepth 100000 in
theorem readVowel_any (a : Int) (h0 : 0 ≤ a) (w : World) :
    Calls Tryz.prog 94 #[.agg #[.int .i64 a]] w fun e w' => e = .returned (.int .i64 (vowP a)) ∧ Below w.heap.size w w' := by
  have HT : a.tmod 588 = a % 588 := Int.tmod_eq_emod_of_nonneg h0
  have HT2 : (a % 588).tdiv 28 = a % 588 / 28 := Int.tdiv_eq_ediv_of_nonneg (by omega)
  have HR : Hid (vowP a = 4449 + a % 588 / 28) := rfl
  generalize vowP a = r at HR ⊢
  go_enter Tryz.func94, Tryz.ntmps94
  go_wp2
  go_ret
  exact ⟨ret_int (by rw [HR.out]), below_lit _ _⟩

set_option maxRecDepth 100000 in
theorem readTail_any (a : Int) (h0 : 0 ≤ a) (w : World) :
    Calls Tryz.prog 95 #[.agg #[.int .i64 a]] w fun e w' => e = .returned (.int .i64 (tailP a)) ∧ Below w.heap.size w w' := by
  have HT : a.tmod 28 = a % 28 := Int.tmod_eq_emod_of_nonneg h0
  have HR : Hid (tailP a = if a % 28 = 0 then 0 else 4519 + a % 28) := rfl
  generalize tailP a = r at HR ⊢
  by_cases h : a % 28 = 0
  · go_enter Tryz.func95, Tryz.ntmps95
    go_wp2
    go_ret
    exact ⟨ret_int (by rw [HR.out, if_pos h]), below_lit _ _⟩
  · go_enter Tryz.func95, Tryz.ntmps95
    go_wp2
    go_ret
    exact ⟨ret_int (by rw [HR.out, if_neg h]), below_lit _ _⟩

def partsOf (l : List Int) : List Int := l.filter fun x => x != 0
theorem partsOf_take (l : List Int) (k : Nat) (h : k < l.length) : partsOf (l.take (k + 1)) = partsOf (l.take k) ++ (if l.getD k 0 = 0 then [] else [l.getD k 0]) := by
  have e : l.take (k + 1) = l.take k ++ [l.getD k 0] := by
    rw [List.take_add_one, List.getElem?_eq_getElem h]; simp [List.getD, h]
  rw [e]; unfold partsOf
  rw [List.filter_append]
  congr 1
  by_cases hz : l.getD k 0 = 0
  · rw [if_pos hz]; rw [hz]; rfl
  · rw [if_neg hz]; simpa using hz
theorem partsOf_len (l : List Int) (k : Nat) : (partsOf (l.take k)).length ≤ l.length := by
  unfold partsOf
  refine Nat.le_trans (List.length_filter_le _ _) ?_
  simp; omega

/-- the three ways to read a syllable lie at g -/
def SylWays (g : Nat) (a : Int) (w : World) : Prop :=
  g < w.heap.size ∧ w.cell? ⟨g, 0, none⟩ = some (.func (.func 93) #[.agg #[.int .i64 a]] #[]) ∧
  w.cell? ⟨g, 1, none⟩ = some (.func (.func 94) #[.agg #[.int .i64 a]] #[]) ∧
  w.cell? ⟨g, 2, none⟩ = some (.func (.func 95) #[.agg #[.int .i64 a]] #[])

theorem SylWays.below {g B : Nat} {a : Int} {w w' : World} (h : SylWays g a w) (hb : Below B w w') (hB : g < B) : SylWays g a w' :=
  ⟨Nat.lt_of_lt_of_le h.1 hb.size, (hb.cell hB).trans h.2.1, (hb.cell hB).trans h.2.2.1, (hb.cell hB).trans h.2.2.2⟩

theorem syl_new (w : World) (g : Nat) (hg : w.heap.size = g) (a : Int) (T : TypeId) :
    SylWays g a (w.alloc (.cells #[.func (.func 93) #[.agg #[.int .i64 a]] #[], .func (.func 94) #[.agg #[.int .i64 a]] #[], .func (.func 95) #[.agg #[.int .i64 a]] #[]] T)) := by
  subst hg
  refine ⟨by simp, ?_, ?_, ?_⟩ <;> (rw [World.cell?_alloc_mark]; rfl)

set_option maxRecDepth 100000 in
set_option maxHeartbeats 2000000 in
theorem readSyl_any (g : Nat) (a : Int) (h0 : 0 ≤ a) (h1 : a < 11172) (w : World) (hw : SylWays g a w) :
    Calls Tryz.prog 92 #[.slice (some ⟨g, 0, none⟩) 3 3] w fun e w' => ∃ v, e = .returned v ∧ IntRow w' w.heap.size v (partsOf [leadP a, vowP a, tailP a]) ∧ Below w.heap.size w w' := by
  have HL := fun w => readLead_any a h0 h1 w
  have HV := fun w => readVowel_any a h0 w
  have HT := fun w => readTail_any a h0 w
  have hp0 : leadP a ≠ 0 := by unfold leadP; omega
  have hp1 : vowP a ≠ 0 := by unfold vowP; omega
  generalize leadP a = p0 at *
  generalize vowP a = p1 at *
  generalize tailP a = p2 at *
  go_enter Tryz.func92, Tryz.ntmps92
  go_wp2
  go_loopw [3, 9] (fun v i wr => ∃ k : Nat, k ≤ 3 ∧ i = .int .i64 k ∧ IntRow wr w.heap.size v (partsOf ([p0, p1, p2].take k)) ∧ Below w.heap.size w wr) (fun _ i _ => 3 - (intOf i).toNat)
  case atStart => exact ⟨0, by omega, rfl, World.ownsRow_nil _ _ _ _, Below.refl _ _⟩
  case round =>
    obtain ⟨k, hk, rfl, hrow, hbel⟩ := hrel
    obtain ⟨hg, c0, c1, c2⟩ := hw.below hbel hw.1
    match k, hk with
    | 0, _ =>
      go_wp2_with (first | (go_at_call 93; refine (HL _).mono ?_; rintro e w1 ⟨rfl, hb1⟩; have hrow1 := hrow.below hb1; have hbel1 := hbel.trans (hb1.mono hbel.size)) | (at_builtin; refine append_int w1 rfl (.tmp 17) (.tmp 19) rfl w.heap.size _ _ p0 (by simp [partsOf]) hrow1 rfl rfl hbel1.size ?_; intro v' w2 hrow2 hbel2))
      go_roundw
      case rel => exact ⟨1, by omega, by go_num, by rw [partsOf_take _ 0 (by simp)]; simpa [hp0] using hrow2, hbel1.trans hbel2⟩
      case measure => simp [intOf]
    | 1, _ =>
      go_wp2_with (first | (go_at_call 94; refine (HV _).mono ?_; rintro e w1 ⟨rfl, hb1⟩; have hrow1 := hrow.below hb1; have hbel1 := hbel.trans (hb1.mono hbel.size)) | (at_builtin; refine append_int w1 rfl (.tmp 17) (.tmp 19) rfl w.heap.size _ _ p1 (by have := partsOf_len [p0, p1, p2] 1; simp at this ⊢; omega) hrow1 rfl rfl hbel1.size ?_; intro v' w2 hrow2 hbel2))
      go_roundw
      case rel => exact ⟨2, by omega, by go_num, by rw [partsOf_take _ 1 (by simp)]; simpa [hp1] using hrow2, hbel1.trans hbel2⟩
      case measure => simp [intOf]
    | 2, _ =>
      by_cases hz : p2 = 0
      · go_wp2_with (first | (go_at_call 95; refine (HT _).mono ?_; rintro e w1 ⟨rfl, hb1⟩; have hrow1 := hrow.below hb1; have hbel1 := hbel.trans (hb1.mono hbel.size)))
        go_roundw
        case rel => exact ⟨3, by omega, by go_num, by rw [partsOf_take _ 2 (by simp)]; simpa [hz] using hrow1, hbel1⟩
        case measure => simp [intOf]
      · go_wp2_with (first | (go_at_call 95; refine (HT _).mono ?_; rintro e w1 ⟨rfl, hb1⟩; have hrow1 := hrow.below hb1; have hbel1 := hbel.trans (hb1.mono hbel.size)) | (at_builtin; refine append_int w1 rfl (.tmp 17) (.tmp 19) rfl w.heap.size _ _ p2 (by have := partsOf_len [p0, p1, p2] 2; simp at this ⊢; omega) hrow1 rfl rfl hbel1.size ?_; intro v' w2 hrow2 hbel2))
        go_roundw
        case rel => exact ⟨3, by omega, by go_num, by rw [partsOf_take _ 2 (by simp)]; simpa [hz] using hrow2, hbel1.trans hbel2⟩
        case measure => simp [intOf]
    | 3, _ =>
      go_wp2
      go_ret
      exact ⟨_, rfl, hrow, hbel⟩


set_option maxRecDepth 100000 in
set_option maxHeartbeats 2000000 in
theorem partsOfH (p : Value) (c : Int) (hc : inB c 44032 55203 = true) (w : World) :
    Calls Tryz.prog 84 #[p, .int .i64 c] w fun e w' => ∃ v, e = .returned v ∧ IntRow w' w.heap.size v (partsOf [leadP (c - 44032), vowP (c - 44032), tailP (c - 44032)]) ∧ Below w.heap.size w w' := by
  have hb := inB_le hc
  have HS := fun g w' h => readSyl_any g (c - 44032) (by omega) (by omega) w' h
  generalize partsOf [leadP (c - 44032), vowP (c - 44032), tailP (c - 44032)] = l at HS ⊢
  have hmf : ∀ (fn : Fn) (first cap : Array Value) (w : World), (Instr.makeFunc fn first cap).run Tryz.prog w = .ok (.func fn first cap) w := fun _ _ _ _ => rfl
  go_enter Tryz.func84, Tryz.ntmps84
  go_wp2_with (go_at_call 54; refine (btw_any _ _ _ _).mono ?_; rintro e w' ⟨rfl, rfl⟩)
  refine (HS (w.heap.size + 1) _ (syl_new _ _ ?_ _ _)).mono ?_
  · rw [hs_alloc]
  rintro e w2 ⟨v, rfl, hrow, hb2⟩
  have hs1 := hb2.size
  rw [hs_alloc, hs_alloc] at hs1
  go_wp2
  go_ret
  exact ⟨v, rfl, hrow.mono (by rw [hs_alloc, hs_alloc]; omega), (((Below.refl w.heap.size w).alloc (Nat.le_refl _) _).alloc (by rw [hs_alloc]; omega) _).trans (hb2.mono (by rw [hs_alloc, hs_alloc]; omega))⟩
end

section
open Go.RowKit Go.ChangeMaps Go.MapKept

def pTab : List (Int × Int × Int) := [(192, 65, 768), (200, 69, 768), (204, 73, 768), (210, 79, 768), (217, 85, 768), (224, 97, 768), (232, 101, 768), (236, 105, 768), (242, 111, 768), (249, 117, 768), (193, 65, 769), (201, 69, 769), (205, 73, 769), (211, 79, 769), (218, 85, 769), (221, 89, 769), (225, 97, 769), (233, 101, 769), (237, 105, 769), (243, 111, 769), (250, 117, 769), (253, 121, 769), (194, 65, 770), (202, 69, 770), (206, 73, 770), (212, 79, 770), (219, 85, 770), (226, 97, 770), (234, 101, 770), (238, 105, 770), (244, 111, 770), (251, 117, 770), (195, 65, 771), (209, 78, 771), (213, 79, 771), (227, 97, 771), (241, 110, 771), (245, 111, 771), (196, 65, 776), (203, 69, 776), (207, 73, 776), (214, 79, 776), (220, 85, 776), (228, 97, 776), (235, 101, 776), (239, 105, 776), (246, 111, 776), (252, 117, 776), (255, 121, 776), (197, 65, 778), (229, 97, 778), (199, 67, 807), (231, 99, 807), (902, 913, 769), (904, 917, 769), (905, 919, 769), (906, 921, 769), (908, 927, 769), (910, 933, 769), (911, 937, 769), (940, 945, 769), (941, 949, 769), (942, 951, 769), (943, 953, 769), (972, 959, 769), (973, 965, 769), (974, 969, 769), (469, 220, 772), (470, 252, 772), (7840, 65, 803), (7841, 97, 803), (7852, 7840, 770), (7853, 7841, 770), (8486, 937, 0), (8491, 197, 0)]
def pKey (k : Int) : Value := .agg #[.int .i64 k]
def pVal (l m : Int) : Value := .agg #[.int .i64 l, .int .i64 m]
def pFind (c : Int) : List (Int × Int × Int) → Int × Int
  | [] => (0, 0)
  | e :: es => if c == e.1 then e.2 else pFind c es

set_option maxRecDepth 100000 in
theorem key_eq (a b : Int) (w : World) : (Op.equal 147 (pKey a) (pKey b)).run Tryz.prog w = .ok (a == b) w := by
  obtain ⟨f, hf, hn, ht, ho⟩ : ∃ f : Field, (Tryz.prog.fieldsOf 147).toList = [f] ∧ (f.name = "_") = False ∧ f.type = 3 ∧ f.offset = 0 := ⟨_, rfl, by simp, rfl, rfl⟩
  have h := run_equalIn_struct (P := Tryz.prog) w 9999 147 #[.int .i64 a] #[.int .i64 b] (by kernel_rfl) (by kernel_rfl)
  have hi := run_equalIn_int (P := Tryz.prog) (w := w) 9998 3 .i64 .i64 a b Tryz.underlying3
  show (Op.equalIn 10000 147 (.agg #[.int .i64 a]) (.agg #[.int .i64 b])).run Tryz.prog w = _
  rw [h, hf]
  unfold Op.eqFields
  simp [hn, ht, ho, part, Tryz.isAgg3, hi]
  by_cases hab : a = b
  · rw [if_pos hab, hab]; simp [Op.eqFields]
  · rw [if_neg hab]; simp [hab]
theorem key_ok (e : Bool) (a : Int) (w : World) : (Instr.checkKey e 10000 147 (pKey a)).run Tryz.prog w = .ok () w := by
  kernel_rfl

/-- nothing among es has the key c: the first place from i on -/
theorem asking_none (c : Int) (w : World) : ∀ (es : List MapEntry) (i : Nat), (∀ e ∈ es, ∃ k, e.key = pKey k ∧ c ≠ k) → (Instr.findAsking 147 (pKey c) es i).run Tryz.prog w = .ok none w
  | [], i, _ => rfl
  | e :: es, i, h => by
    obtain ⟨k, hk, hne⟩ := h e (by simp)
    have hb : (c == k) = false := by simpa using hne
    have ih := asking_none c w es (i + 1) (fun e' he' => h e' (by simp [he']))
    unfold Instr.findAsking
    simp [hk, key_eq, hb, ih]

theorem asking_find (c : Int) (w : World) : ∀ (L : List (Int × Int × Int)) (i : Nat) (es : List MapEntry), (es.map fun e => (e.key, e.val)) = (L.map fun e => (pKey e.1, pVal e.2.1 e.2.2)) →
    ((Instr.findAsking 147 (pKey c) es i).run Tryz.prog w = .ok none w ∧ pFind c L = (0, 0)) ∨
    (∃ j, (Instr.findAsking 147 (pKey c) es i).run Tryz.prog w = .ok (some (j, pVal (pFind c L).1 (pFind c L).2)) w)
  | [], i, [], h => .inl ⟨rfl, rfl⟩
  | [], i, e :: es, h => by simp at h
  | x :: L, i, [], h => by simp at h
  | x :: L, i, e :: es, h => by
    simp at h
    obtain ⟨⟨h1, h2⟩, h3⟩ := h
    have ih := asking_find c w L (i + 1) es (by simpa using h3)
    unfold Instr.findAsking pFind
    cases hb : c == x.1
    · simp [h1, key_eq, hb]
      simpa using ih
    · right
      exact ⟨i, by simp [h1, h2, key_eq, hb]⟩

theorem find_asking (c : Int) (w : World) (es : List MapEntry) (h : ∀ e ∈ es, ∃ k, e.key = pKey k) : (Instr.findKey 147 (pKey c) es).run Tryz.prog w = (Instr.findAsking 147 (pKey c) es 0).run Tryz.prog w := by
  have hu := run_underlying Tryz.underlying147 (w := w)
  unfold Instr.findKey
  cases es with
  | nil => simp [hu, Instr.findNow, Instr.findAsking]
  | cons e es =>
    obtain ⟨k, hk⟩ := h e (by simp)
    simp [hu, Instr.findNow, Instr.sameNow, hk, pKey]

def pRow (j : Nat) : Int × Int × Int := pTab.getD j (0, 0, 0)

theorem tab_keys {es : List MapEntry} {L : List (Int × Int × Int)} (h : (es.map fun e => (e.key, e.val)) = (L.map fun e => (pKey e.1, pVal e.2.1 e.2.2))) : ∀ e ∈ es, ∃ x ∈ L, e.key = pKey x.1 := by
  intro e he
  have : (e.key, e.val) ∈ (L.map fun e => (pKey e.1, pVal e.2.1 e.2.2)) := by rw [← h]; exact List.mem_map_of_mem he
  obtain ⟨x, hx, hxe⟩ := List.mem_map.1 this
  exact ⟨x, hx, (congrArg Prod.fst hxe).symm⟩

theorem pTab_apart : ∀ j, j < 75 → ∀ i, i < j → (pRow i).1 ≠ (pRow j).1 := by decide
theorem pRow_inj {i j : Nat} (hi : i < 75) (hj : j < 75) (h : (pRow i).1 = (pRow j).1) : i = j := by
  rcases Nat.lt_trichotomy i j with h1 | h1 | h1
  · exact absurd h (pTab_apart j hj i h1)
  · exact h1
  · exact absurd h.symm (pTab_apart i hi j h1)

theorem pFind_none (c : Int) : ∀ (L : List (Int × Int × Int)), (∀ e ∈ L, e.1 ≠ c) → pFind c L = (0, 0)
  | [], _ => rfl
  | e :: L, h => by
    have hb : (c == e.1) = false := by simpa using fun e' => h e (by simp) e'.symm
    unfold pFind; rw [hb]
    exact pFind_none c L (fun x hx => h x (by simp [hx]))
theorem pFind_row (j : Nat) (hj : j < 75) : ∀ (L : List Nat), (∀ i ∈ L, i < 75) → j ∈ L → pFind (pRow j).1 (L.map pRow) = (pRow j).2
  | [], _, h => by cases h
  | i :: L, hl, h => by
    show pFind (pRow j).1 (pRow i :: L.map pRow) = _
    unfold pFind
    by_cases hij : i = j
    · subst hij; simp
    · have hb : ((pRow j).1 == (pRow i).1) = false := by
        simpa using fun e => hij (pRow_inj (hl i (by simp)) hj e.symm)
      rw [hb]
      rcases List.mem_cons.1 h with h1 | h1
      · exact absurd h1.symm hij
      · exact pFind_row j hj L (fun x hx => hl x (by simp [hx])) h1

theorem pTab_range : pTab = (List.range 75).map pRow := by rfl

/-- whatever the order in which the rows went in -/
theorem pFind_any (c : Int) (L : List Nat) (hL : ∀ j, j ∈ L ↔ j < 75) : pFind c (L.map pRow) = pFind c pTab := by
  by_cases h : ∃ j, j < 75 ∧ (pRow j).1 = c
  · obtain ⟨j, hj, rfl⟩ := h
    rw [pTab_range, pFind_row j hj L (fun i hi => (hL i).1 hi) ((hL j).2 hj), pFind_row j hj _ (fun i hi => List.mem_range.1 hi) (List.mem_range.2 hj)]
  · rw [pTab_range, pFind_none c, pFind_none c]
    · intro e he hc
      obtain ⟨i, hi, rfl⟩ := List.mem_map.1 he
      exact h ⟨i, List.mem_range.1 hi, hc⟩
    · intro e he hc
      obtain ⟨i, hi, rfl⟩ := List.mem_map.1 he
      exact h ⟨i, (hL i).1 hi, hc⟩

/-- block g of w is a map of the rows L -/
def MapIs (g : Nat) (L : List Nat) (w : World) : Prop :=
  ∃ es clk, w.heap[g]? = some (.map es clk) ∧ (es.toList.map fun e => (e.key, e.val)) = ((L.map pRow).map fun e => (pKey e.1, pVal e.2.1 e.2.2))

theorem MapIs.made (w : World) : MapIs w.heap.size [] (w.alloc (.map #[] 0)) := ⟨#[], 0, by show (w.heap.push _)[w.heap.size]? = _; simp, rfl⟩

theorem MapIs.insert {g : Nat} {L : List Nat} {w : World} (h : MapIs g L w) (hL : ∀ i ∈ L, i < 75) {j : Nat} (hj : j < 75) (hn : j ∉ L) :
    ∃ w', (Instr.mapUpdate 112 (.map (some g)) (pKey (pRow j).1) (pVal (pRow j).2.1 (pRow j).2.2)).run Tryz.prog w = .ok () w' ∧ MapIs g (L ++ [j]) w' ∧ w.grownBy w' (some g) := by
  obtain ⟨es, clk, hb, hes⟩ := h
  have hks := tab_keys hes
  have hnone : (Instr.findKey 147 (pKey (pRow j).1) es.toList).run Tryz.prog w = .ok none w := by
    rw [find_asking _ w es.toList (fun e he => by obtain ⟨x, _, hx⟩ := hks e he; exact ⟨_, hx⟩)]
    refine asking_none _ w _ 0 fun e he => ?_
    obtain ⟨x, hx, hxe⟩ := hks e he
    obtain ⟨i, hi, rfl⟩ := List.mem_map.1 hx
    refine ⟨_, hxe, fun e' => hn ?_⟩
    rw [← pRow_inj (hL i hi) hj e'.symm]; exact hi
  have hrun : (Instr.mapUpdate 112 (.map (some g)) (pKey (pRow j).1) (pVal (pRow j).2.1 (pRow j).2.2)).run Tryz.prog w = .ok () (setBlock w g (.map (es.push ⟨pKey (pRow j).1, pVal (pRow j).2.1 (pRow j).2.2, clk⟩) (clk + 1))) := by
    simp [Instr.mapUpdate, run_underlying Tryz.underlying112, MapKept.run_getObj_map hb, key_ok, hnone, MapKept.run_setObj_map _ hb, Result.andThen, setBlock]
  refine ⟨_, hrun, ⟨_, _, heap_setBlock_same hb _, ?_⟩, ⟨rfl, rfl, rfl, by simp [setBlock], fun i _ hi => heap_setBlock_other hb _ (fun e => hi (by rw [e]))⟩⟩
  rw [List.map_append, List.map_append, ← hes]
  simp

theorem MapIs.lookup {g : Nat} {L : List Nat} {w : World} (h : MapIs g L w) (hL : ∀ j, j ∈ L ↔ j < 75) (c : Int) :
    (Instr.lookup 112 (.map (some g)) (.agg #[.int .i64 c]) false).run Tryz.prog w = .ok (.agg #[.int .i64 (pFind c pTab).1, .int .i64 (pFind c pTab).2]) w := by
  obtain ⟨es, clk, hb, hes⟩ := h
  have hks := tab_keys hes
  have hk : (.agg #[.int .i64 c] : Value) = pKey c := rfl
  have hz : (zeroValue 139).run Tryz.prog w = .ok (pVal 0 0) w := by kernel_rfl
  have hfa := find_asking c w es.toList (fun e he => by obtain ⟨x, _, hx⟩ := hks e he; exact ⟨_, hx⟩)
  rw [hk, ← pFind_any c L hL]
  rcases asking_find c w (L.map pRow) 0 es.toList hes with ⟨h1, h2⟩ | ⟨j, h1⟩
  · rw [h1] at hfa
    rw [h2]
    simp [Instr.lookup, run_underlying Tryz.underlying112, MapKept.run_getObj_map hb, key_ok, hfa, hz]
    rfl
  · rw [h1] at hfa
    simp [Instr.lookup, run_underlying Tryz.underlying112, MapKept.run_getObj_map hb, key_ok, hfa]
    rfl
end

section
open Go.RowKit

/-- a region whose operations come in any order, by what holds whichever have come -/
theorem wpAny_inv {P : Program} {ops : Array Oper} {Q : Exit → Act → World → Prop} (I : Array Bool → Act → World → Prop)
    (step : ∀ listed a w i, I listed a w → i ∈ Region.ready .any ops listed → wpOp P ops Q i (I (listed.setIfInBounds i true)) a w)
    (fin : ∀ listed a w, I listed a w → Region.ready .any ops listed = [] → Q .normal a w) :
    ∀ fuel listed a w, listed.toList.count false ≤ fuel → I listed a w → wpAny P .any ops Q fuel listed a w := by
  have mem : ∀ listed i, i ∈ Region.ready .any ops listed → listed.getD i true = false := fun listed i h => by
    unfold Region.ready at h
    simp only [List.mem_filter, Bool.and_eq_true, Bool.not_eq_true'] at h
    exact h.2.1
  intro fuel
  induction fuel with
  | zero =>
    intro listed a w hc hI
    have hr : Region.ready .any ops listed = [] := by
      cases hr : Region.ready .any ops listed with
      | nil => rfl
      | cons i is =>
        exfalso
        have h1 := mem listed i (by rw [hr]; simp)
        have h0 : listed.toList.count false = 0 := by omega
        rw [List.count_eq_zero] at h0
        apply h0
        rw [Array.getD_eq_getD_getElem?] at h1
        cases hg : listed[i]? with
        | none => rw [hg] at h1; simp at h1
        | some b =>
          rw [hg] at h1
          simp at h1
          subst h1
          exact Array.mem_toList_iff.2 (Array.mem_of_getElem? hg)
    exact ⟨hr, fin _ _ _ hI hr⟩
  | succ fuel ih =>
    intro listed a w hc hI
    refine ⟨fin _ _ _ hI, fun i hi => ?_⟩
    refine wpOp_mono (fun a' w' hI' => ih _ a' w' ?_ hI') (step _ _ _ i hI hi)
    have h1 := mem listed i hi
    rw [Array.getD_eq_getD_getElem?] at h1
    cases hg : listed[i]? with
    | none => rw [hg] at h1; simp at h1
    | some b =>
      rw [hg] at h1
      simp at h1
      subst h1
      obtain ⟨hlt, hge⟩ := Array.getElem?_eq_some_iff.1 hg
      have hpos : 0 < listed.toList.count false := List.count_pos_iff.2 (Array.mem_toList_iff.2 (Array.mem_of_getElem? hg))
      have : (listed.setIfInBounds i true).toList = listed.toList.set i true := by simp
      rw [this, List.count_set (by simpa using hlt)]
      have e1 : listed.toList[i]'(by simpa using hlt) = false := by simpa using hge
      rw [e1, if_pos (by rfl), if_neg (by decide)]
      omega

def need (i : Nat) : List Nat := if i = 0 then [] else if i = 226 then [0] else if i = 227 then [226] else if (i - 1) % 3 = 2 then [0, i - 2, i - 1] else []
def viewAt (i : Nat) : Option Tmp × Op :=
  if i = 0 then (some 1, .makeMap 112 none) else if i = 226 then (some 152, .move (.tmp 1)) else if i = 227 then (some 0, .assign (.tmp 152))
  else if (i - 1) % 3 = 0 then (some (2 + 2 * ((i - 1) / 3)), .build 147 #[(0, .const (.int .i64 (pRow ((i - 1) / 3)).1))])
  else if (i - 1) % 3 = 1 then (some (3 + 2 * ((i - 1) / 3)), .build 139 #[(0, .const (.int .i64 (pRow ((i - 1) / 3)).2.1)), (1, .const (.int .i64 (pRow ((i - 1) / 3)).2.2))])
  else (none, .insert 112 (.tmp 1) (.tmp (2 + 2 * ((i - 1) / 3))) (.tmp (3 + 2 * ((i - 1) / 3))))
def afterOk (ops : Array Oper) (i : Nat) : Bool :=
  match ops[i]? with
  | some o => o.guard.isNone && (o.after.all fun e => decide (e.on < i) && Region.binds .any e) && ((need i).all fun n => o.after.any fun e => e.on == n)
  | none => false

/-- the slot that the operation i fills, and with what -/
def tgt (g : Nat) (i : Nat) : Option (Nat × Value) :=
  if i = 0 then some (1, .map (some g)) else if i = 226 then some (152, .map (some g)) else if i = 227 then some (0, .map (some g))
  else if (i - 1) % 3 = 0 then some (2 + 2 * ((i - 1) / 3), pKey (pRow ((i - 1) / 3)).1)
  else if (i - 1) % 3 = 1 then some (3 + 2 * ((i - 1) / 3), pVal (pRow ((i - 1) / 3)).2.1 (pRow ((i - 1) / 3)).2.2)
  else none

theorem tgt_lt {g i d : Nat} {v : Value} (hi : i < 228) (h : tgt g i = some (d, v)) : d < 153 := by
  unfold tgt at h
  revert h
  (repeat' split) <;> simp <;> omega
theorem tgt_inj {g i i' d : Nat} {v v' : Value} (hi : i < 228) (hi' : i' < 228) (h : tgt g i = some (d, v)) (h' : tgt g i' = some (d, v')) : i = i' := by
  have e : ∀ {i d : Nat} {v : Value}, i < 228 → tgt g i = some (d, v) → (i = 0 ∧ d = 1) ∨ (i = 226 ∧ d = 152) ∨ (i = 227 ∧ d = 0) ∨ (i ≠ 0 ∧ i < 226 ∧ (i - 1) % 3 = 0 ∧ d = 2 + 2 * ((i - 1) / 3)) ∨ (i ≠ 0 ∧ i < 226 ∧ (i - 1) % 3 = 1 ∧ d = 3 + 2 * ((i - 1) / 3)) := by
    intro i d v hi h
    unfold tgt at h
    revert h
    (repeat' split) <;> simp <;> omega
  have h1 := e hi h
  have h2 := e hi' h'
  omega

structure TInv (w0 : World) (d0 : List Deferred) (listed : Array Bool) (a : Act) (w : World) : Prop where
  size : listed.size = 228
  tsz : a.tmps.size = 153
  defers : a.defers = d0
  bel : Below w0.heap.size w0 w
  sl : ∀ i d v, tgt w0.heap.size i = some (d, v) → listed.getD i false = true → a.tmps[d]? = some v
  pre : listed.getD 0 false = false → w.heap.size = w0.heap.size ∧ ∀ j, j < 75 → listed.getD (3 * j + 3) false = false
  tab : listed.getD 0 false = true → ∃ L : List Nat, MapIs w0.heap.size L w ∧ ∀ j, j ∈ L ↔ (j < 75 ∧ listed.getD (3 * j + 3) false = true)

theorem getD_set (l : Array Bool) (i k : Nat) (hi : i < l.size) : (l.setIfInBounds i true).getD k false = if i = k then true else l.getD k false := by
  rw [Array.getD_eq_getD_getElem?, Array.getElem?_setIfInBounds]
  split
  · simp [*]
  · rw [Array.getD_eq_getD_getElem?]

theorem put_get (a : Act) (d k : Nat) (v : Value) (hd : d < a.tmps.size) : (a.put (some d) v).tmps[k]? = if d = k then some v else a.tmps[k]? := by
  show (a.tmps.setIfInBounds d v)[k]? = _
  rw [Array.getElem?_setIfInBounds]
  split
  · simp [*]
  · rfl

theorem build_key (k : Int) (w : World) : (Instr.build 147 #[(0, .int .i64 k)]).run Tryz.prog w = .ok (pKey k) w := by kernel_rfl
theorem build_val (l m : Int) (w : World) : (Instr.build 139 #[(0, .int .i64 l), (1, .int .i64 m)]).run Tryz.prog w = .ok (pVal l m) w := by kernel_rfl

theorem eval_tmp (a : Act) (t : Nat) (v : Value) (h : a.tmps[t]? = some v) : a.eval (.tmp t) = v := by
  show a.tmps.getD t undef = v
  rw [Array.getD_eq_getD_getElem?, h]; rfl

theorem listed_lt {l : Array Bool} {i : Nat} (h : l.getD i false = true) : i < l.size := by
  rw [Array.getD_eq_getD_getElem?] at h
  cases hg : l[i]? with
  | none => rw [hg] at h; simp at h
  | some b => exact (Array.getElem?_eq_some_iff.1 hg).1

theorem TInv.slots {w0 w w' : World} {d0 : List Deferred} {listed : Array Bool} {a : Act} (hI : TInv w0 d0 listed a w) {i d : Nat} {v : Value} (hi : i < 228) (ht : tgt w0.heap.size i = some (d, v))
    (hb : Below w0.heap.size w0 w')
    (hpre : (listed.setIfInBounds i true).getD 0 false = false → w'.heap.size = w0.heap.size ∧ ∀ j, j < 75 → (listed.setIfInBounds i true).getD (3 * j + 3) false = false)
    (htab : (listed.setIfInBounds i true).getD 0 false = true → ∃ L : List Nat, MapIs w0.heap.size L w' ∧ ∀ j, j ∈ L ↔ (j < 75 ∧ (listed.setIfInBounds i true).getD (3 * j + 3) false = true)) :
    TInv w0 d0 (listed.setIfInBounds i true) (a.put (some d) v) w' := by
  have hil : i < listed.size := by rw [hI.size]; exact hi
  have hd : d < a.tmps.size := by rw [hI.tsz]; exact tgt_lt hi ht
  refine ⟨by simp [hI.size], ?_, hI.defers, hb, ?_, hpre, htab⟩
  · show (a.tmps.setIfInBounds d v).size = 153; simp [hI.tsz]
  · intro i' d' v' ht' hl'
    rw [getD_set listed i i' hil] at hl'
    rw [put_get a d d' v hd]
    by_cases hii : i = i'
    · subst hii
      rw [ht] at ht'
      cases ht'
      rw [if_pos rfl]
    · rw [if_neg hii] at hl'
      have hlt' : i' < 228 := by have := listed_lt hl'; rw [hI.size] at this; exact this
      rw [if_neg (fun e => hii (by subst e; exact tgt_inj hi hlt' ht ht'))]
      exact hI.sl i' d' v' ht' hl'

/-- an operation that fills a slot and leaves the world as it is -/
theorem TInv.fill {w0 w : World} {d0 : List Deferred} {listed : Array Bool} {a : Act} (hI : TInv w0 d0 listed a w) {i d : Nat} {v : Value} (hi : i < 228) (h0 : i ≠ 0) (h3 : ∀ j, j < 75 → i ≠ 3 * j + 3) (ht : tgt w0.heap.size i = some (d, v)) :
    TInv w0 d0 (listed.setIfInBounds i true) (a.put (some d) v) w := by
  have hil : i < listed.size := by rw [hI.size]; exact hi
  have hG := fun k => getD_set listed i k hil
  refine hI.slots hi ht hI.bel ?_ ?_
  · intro h
    rw [hG, if_neg h0] at h
    refine ⟨(hI.pre h).1, fun j hj => ?_⟩
    rw [hG, if_neg (h3 j hj)]
    exact (hI.pre h).2 j hj
  · intro h
    rw [hG, if_neg h0] at h
    obtain ⟨L, hM, hL⟩ := hI.tab h
    refine ⟨L, hM, fun j => ?_⟩
    rw [hL j]
    constructor
    · rintro ⟨hj, h'⟩
      exact ⟨hj, by rw [hG, if_neg (h3 j hj)]; exact h'⟩
    · rintro ⟨hj, h'⟩
      rw [hG, if_neg (h3 j hj)] at h'
      exact ⟨hj, h'⟩

set_option maxHeartbeats 2000000 in
theorem tab_step (ops : Array Oper) (Q : Exit → Act → World → Prop) (w0 : World) (d0 : List Deferred) (hs : ops.size = 228)
    (hv : ∀ i, i < 228 → ∃ o, ops[i]? = some o ∧ (o.dst, o.op) = viewAt i) (ha : ∀ i, i < 228 → afterOk ops i = true)
    (listed : Array Bool) (a : Act) (w : World) (i : Nat) (hI : TInv w0 d0 listed a w) (hi : i ∈ Region.ready .any ops listed) :
    wpOp Tryz.prog ops Q i (TInv w0 d0 (listed.setIfInBounds i true)) a w := by
  have hi' := hi
  unfold Region.ready at hi'
  simp only [List.mem_filter, List.mem_range, Bool.and_eq_true, Bool.not_eq_true'] at hi'
  obtain ⟨hlt, hnl, haf⟩ := hi'
  rw [hs] at hlt
  obtain ⟨o, ho, hview⟩ := hv i hlt
  have hok := ha i hlt
  unfold afterOk at hok
  rw [ho] at hok haf
  simp only [Bool.and_eq_true] at hok
  obtain ⟨⟨hg, hall⟩, hneed⟩ := hok
  have hg : o.guard = none := by simpa using hg
  have hil : i < listed.size := by rw [hI.size]; exact hlt
  have hnl' : listed.getD i false = false := by
    rw [Array.getD_eq_getD_getElem?] at hnl ⊢
    rw [Array.getElem?_eq_getElem hil] at hnl ⊢
    exact hnl
  have hN : ∀ n ∈ need i, listed.getD n false = true := by
    intro n hn
    have h1 := List.all_eq_true.1 hneed n hn
    obtain ⟨e, he, hen⟩ := Array.any_eq_true'.1 h1
    have h2 := Array.all_eq_true'.1 hall e he
    simp only [Option.map_some, Option.getD_some] at haf
    have h3 := Array.all_eq_true'.1 haf e he
    simp only [Bool.and_eq_true] at h2
    rw [h2.2] at h3
    have : e.on = n := by simpa using hen
    rw [← this]
    simpa using h3
  have hG := fun k => getD_set listed i k hil
  have hw : Region.wanted o (yielded ops a.tmps) = true := by unfold Region.wanted; rw [hg]
  unfold wpOp
  rw [ho]
  simp only [hw, if_true]
  left
  unfold Oper.wp
  have hd : o.dst = (viewAt i).1 := by rw [← hview]
  have hop : o.op = (viewAt i).2 := by rw [← hview]
  clear hview haf hall hneed
  by_cases h0 : i = 0
  · subst h0
    have hd : o.dst = some 1 := hd
    have hop : o.op = .makeMap 112 none := hop
    have hp := hI.pre hnl'
    have hmm := @run_makeMap Tryz.prog
    simp [execOp, hop, hmm, hd, Result.andThen, Oper.upon_value]
    rw [hp.1]
    have hM := MapIs.made w
    rw [hp.1] at hM
    refine hI.slots hlt rfl (hI.bel.alloc (by omega) _) ?_ ?_
    · intro h; rw [hG, if_pos rfl] at h; cases h
    · intro _
      refine ⟨[], hM, fun j => ?_⟩
      constructor
      · intro h; cases h
      · rintro ⟨hj, h'⟩
        rw [hG, if_neg (by omega), hp.2 j hj] at h'
        cases h'
  · by_cases h226 : i = 226
    · subst h226
      have hd : o.dst = some 152 := hd
      have hop : o.op = .move (.tmp 1) := hop
      have hs1 := hI.sl 0 1 _ rfl (hN 0 (by simp [need]))
      simp [execOp, hop, hd, Oper.upon_value, eval_tmp a 1 _ hs1]
      exact hI.fill hlt (by omega) (fun j hj => by omega) rfl
    · by_cases h227 : i = 227
      · subst h227
        have hd : o.dst = some 0 := hd
        have hop : o.op = .assign (.tmp 152) := hop
        have hs1 := hI.sl 226 152 _ rfl (hN 226 (by simp [need]))
        simp [execOp, hop, hd, Oper.upon_value, eval_tmp a 152 _ hs1]
        exact hI.fill hlt (by omega) (fun j hj => by omega) rfl
      · by_cases hr0 : (i - 1) % 3 = 0
        · have ev : viewAt i = (some (2 + 2 * ((i - 1) / 3)), .build 147 #[(0, .const (.int .i64 (pRow ((i - 1) / 3)).1))]) := by
            unfold viewAt; rw [if_neg h0, if_neg h226, if_neg h227, if_pos hr0]
          have et : tgt w0.heap.size i = some (2 + 2 * ((i - 1) / 3), pKey (pRow ((i - 1) / 3)).1) := by
            unfold tgt; rw [if_neg h0, if_neg h226, if_neg h227, if_pos hr0]
          rw [ev] at hd hop
          simp [execOp, hop, hd, Oper.upon_value, Act.eval, build_key, Result.andThen]
          exact hI.fill hlt h0 (fun j hj => by omega) et
        · by_cases hr1 : (i - 1) % 3 = 1
          · have ev : viewAt i = (some (3 + 2 * ((i - 1) / 3)), .build 139 #[(0, .const (.int .i64 (pRow ((i - 1) / 3)).2.1)), (1, .const (.int .i64 (pRow ((i - 1) / 3)).2.2))]) := by
              unfold viewAt; rw [if_neg h0, if_neg h226, if_neg h227, if_neg hr0, if_pos hr1]
            have et : tgt w0.heap.size i = some (3 + 2 * ((i - 1) / 3), pVal (pRow ((i - 1) / 3)).2.1 (pRow ((i - 1) / 3)).2.2) := by
              unfold tgt; rw [if_neg h0, if_neg h226, if_neg h227, if_neg hr0, if_pos hr1]
            rw [ev] at hd hop
            simp [execOp, hop, hd, Oper.upon_value, Act.eval, build_val, Result.andThen]
            exact hI.fill hlt h0 (fun j hj => by omega) et
          · obtain ⟨j, rfl⟩ : ∃ j, i = 3 * j + 3 := ⟨(i - 1) / 3, by omega⟩
            have hj : j < 75 := by omega
            have ej : (3 * j + 3 - 1) / 3 = j := by omega
            have ev : viewAt (3 * j + 3) = (none, .insert 112 (.tmp 1) (.tmp (2 + 2 * j)) (.tmp (3 + 2 * j))) := by
              unfold viewAt; rw [if_neg h0, if_neg h226, if_neg h227, if_neg hr0, if_neg hr1, ej]
            rw [ev] at hd hop
            have hne : need (3 * j + 3) = [0, 3 * j + 1, 3 * j + 2] := by
              unfold need; rw [if_neg h0, if_neg h226, if_neg h227, if_pos (by omega)]; simp
            rw [hne] at hN
            have l0 := hN 0 (by simp)
            have s0 := hI.sl 0 1 _ rfl l0
            have s1 := hI.sl (3 * j + 1) (2 + 2 * j) (pKey (pRow j).1) (by
              unfold tgt; rw [if_neg (by omega), if_neg (by omega), if_neg (by omega), if_pos (by omega), show (3 * j + 1 - 1) / 3 = j by omega]) (hN _ (by simp))
            have s2 := hI.sl (3 * j + 2) (3 + 2 * j) (pVal (pRow j).2.1 (pRow j).2.2) (by
              unfold tgt; rw [if_neg (by omega), if_neg (by omega), if_neg (by omega), if_neg (by omega), if_pos (by omega), show (3 * j + 2 - 1) / 3 = j by omega]) (hN _ (by simp))
            obtain ⟨L, hM, hL⟩ := hI.tab l0
            obtain ⟨w', hrun, hM', hgr⟩ := hM.insert (fun x hx => ((hL x).1 hx).1) hj (fun hx => by have := ((hL j).1 hx).2; rw [hnl'] at this; cases this)
            simp [execOp, hop, hd, eval_tmp a _ _ s0, eval_tmp a _ _ s1, eval_tmp a _ _ s2, hrun, Oper.upon_skip, Result.andThen, Act.put]
            refine ⟨by simp [hI.size], hI.tsz, hI.defers, hI.bel.grown hgr hI.bel.size (fun k hk => by cases hk; exact Nat.le_refl _), ?_, ?_, ?_⟩
            · intro i' d' v' ht' hl'
              rw [hG] at hl'
              by_cases hii : 3 * j + 3 = i'
              · subst hii
                unfold tgt at ht'
                rw [if_neg h0, if_neg h226, if_neg h227, if_neg hr0, if_neg hr1] at ht'
                cases ht'
              · rw [if_neg hii] at hl'
                exact hI.sl i' d' v' ht' hl'
            · intro h; rw [hG, if_neg h0, l0] at h; cases h
            · intro _
              refine ⟨L ++ [j], hM', fun x => ?_⟩
              rw [hG]
              simp only [List.mem_append, List.mem_singleton, hL x]
              constructor
              · rintro (⟨hx, h'⟩ | rfl)
                · refine ⟨hx, ?_⟩
                  split
                  · rfl
                  · exact h'
                · exact ⟨hj, by rw [if_pos rfl]⟩
              · rintro ⟨hx, h'⟩
                by_cases hxj : x = j
                · exact .inr hxj
                · rw [if_neg (by omega)] at h'
                  exact .inl ⟨hx, h'⟩

theorem tab_all (ops : Array Oper) (w0 : World) (d0 : List Deferred) (hs : ops.size = 228)
    (hv : ∀ i, i < 228 → ∃ o, ops[i]? = some o ∧ (o.dst, o.op) = viewAt i) (ha : ∀ i, i < 228 → afterOk ops i = true)
    (listed : Array Bool) (a : Act) (w : World) (hI : TInv w0 d0 listed a w) (hr : Region.ready .any ops listed = []) : ∀ i, i < 228 → listed.getD i false = true := by
  intro i
  induction i using Nat.strongRecOn with
  | _ i ih =>
    intro hlt
    cases hl : listed.getD i false with
    | true => rfl
    | false =>
      exfalso
      have hil : i < listed.size := by rw [hI.size]; exact hlt
      have hnl : listed.getD i true = false := by
        rw [Array.getD_eq_getD_getElem?] at hl ⊢
        rw [Array.getElem?_eq_getElem hil] at hl ⊢
        exact hl
      obtain ⟨o, ho, _⟩ := hv i hlt
      have hok := ha i hlt
      unfold afterOk at hok
      rw [ho] at hok
      simp only [Bool.and_eq_true] at hok
      have hm : i ∈ Region.ready .any ops listed := by
        unfold Region.ready
        simp only [List.mem_filter, List.mem_range, Bool.and_eq_true, Bool.not_eq_true']
        refine ⟨by omega, hnl, ?_⟩
        rw [ho]
        simp only [Option.map_some, Option.getD_some]
        refine Array.all_eq_true'.2 fun e he => ?_
        have h2 := Array.all_eq_true'.1 hok.1.2 e he
        simp only [Bool.and_eq_true, decide_eq_true_eq] at h2
        rw [ih e.on h2.1 (by omega)]
        simp
      rw [hr] at hm
      cases hm

theorem tab_region (id : Nat) (ops : Array Oper) (Q : Exit → Act → World → Prop) (a : Act) (w : World) (hview : (ops.toList.map fun o => (o.dst, o.op)) = (List.range 228).map viewAt) (haft : ((List.range 228).all (afterOk ops)) = true) (ht : a.tmps.size = 153)
    (hK : ∀ a' w', a'.tmps[0]? = some (.map (some w.heap.size)) → a'.defers = a.defers → a'.tmps.size = 153 → (∃ L : List Nat, MapIs w.heap.size L w' ∧ ∀ j, j ∈ L ↔ j < 75) → Below w.heap.size w w' → Q .normal a' w') :
    (Code.region id ops true).wp Tryz.prog Q a w := by
  have hs : ops.size = 228 := by have := congrArg List.length hview; simpa using this
  have hv : ∀ i, i < 228 → ∃ o, ops[i]? = some o ∧ (o.dst, o.op) = viewAt i := fun i hi => by
    have h := congrArg (fun l => l[i]?) hview
    simp [hi] at h
    obtain ⟨o, ho, hvw⟩ := h
    exact ⟨o, ho, hvw⟩
  have ha : ∀ i, i < 228 → afterOk ops i = true := fun i hi => List.all_eq_true.1 haft i (List.mem_range.2 hi)
  refine wp_region_any (by kernel_rfl) (wpAny_inv (TInv w a.defers) ?_ ?_ _ _ _ _ ?_ ?_)
  · exact fun listed a' w' i hI hi => tab_step ops Q w a.defers hs hv ha listed a' w' i hI hi
  · intro listed a' w' hI hr
    have hall := tab_all ops w a.defers hs hv ha listed a' w' hI hr
    refine hK a' w' (hI.sl 227 0 _ rfl (hall 227 (by decide))) hI.defers hI.tsz ?_ hI.bel
    obtain ⟨L, hM, hL⟩ := hI.tab (hall 0 (by decide))
    refine ⟨L, hM, fun j => ?_⟩
    rw [hL j]
    exact ⟨fun h => h.1, fun h => ⟨h, hall _ (by omega)⟩⟩
  · exact Nat.le_trans List.count_le_length (by rw [Array.length_toList, Array.size_replicate]; exact Nat.le_refl _)
  · have hf : ∀ k, (Array.replicate ops.size false).getD k false = false := fun k => by
      rw [Array.getD_eq_getD_getElem?, Array.getElem?_replicate]
      split <;> rfl
    refine ⟨by simp [hs], ht, rfl, (Below.refl _ _).drew, ?_, ?_, ?_⟩
    · intro i d v _ h; rw [hf] at h; cases h
    · intro _; exact ⟨rfl, fun j _ => hf _⟩
    · intro h; rw [hf] at h; cases h

set_option maxRecDepth 100000 in
set_option maxHeartbeats 4000000 in
theorem partTable_any (w : World) :
    Calls Tryz.prog 101 #[] w fun e w' => e = .returned (.map (some w.heap.size)) ∧ (∃ L : List Nat, MapIs w.heap.size L w' ∧ ∀ j, j ∈ L ↔ j < 75) ∧ Below w.heap.size w w' := by
  go_enter Tryz.func101, Tryz.ntmps101
  go_wp2
  refine tab_region _ _ _ _ _ (by kernel_rfl) (by kernel_rfl) (by rfl) ?_
  intro a' w' h0 hd hsz hM hb
  rename_i K hk
  refine hk a' w' (wp_ret ?_)
  have hres : a'.tmps.getD 0 undef = .map (some w.heap.size) := by rw [Array.getD_eq_getD_getElem?, h0]; rfl
  refine bodyPost_ret (fn := Tryz.f101) ((results_tmp rfl a'.tmps Tryz.prog w').trans (by rw [hres])) hd ⟨rfl, hM, hb⟩
end

section
open Go.RowKit

set_option maxRecDepth 100000 in
theorem readLetter_any (l m : Int) (w : World) :
    Calls Tryz.prog 97 #[.agg #[.int .i64 l, .int .i64 m]] w fun e w' => e = .returned (.int .i64 l) ∧ Below w.heap.size w w' := by
  go_enter Tryz.func97, Tryz.ntmps97
  go_wp2
  go_ret
  exact ⟨rfl, below_lit _ _⟩
set_option maxRecDepth 100000 in
theorem readMark_any (l m : Int) (w : World) :
    Calls Tryz.prog 98 #[.agg #[.int .i64 l, .int .i64 m]] w fun e w' => e = .returned (.int .i64 m) ∧ Below w.heap.size w w' := by
  go_enter Tryz.func98, Tryz.ntmps98
  go_wp2
  go_ret
  exact ⟨rfl, below_lit _ _⟩

/-- the two ways to read a row lie at g -/
def RowWays (g : Nat) (l m : Int) (w : World) : Prop :=
  g < w.heap.size ∧ w.cell? ⟨g, 0, none⟩ = some (.func (.func 97) #[.agg #[.int .i64 l, .int .i64 m]] #[]) ∧
  w.cell? ⟨g, 1, none⟩ = some (.func (.func 98) #[.agg #[.int .i64 l, .int .i64 m]] #[])
theorem RowWays.below {g B : Nat} {l m : Int} {w w' : World} (h : RowWays g l m w) (hb : Below B w w') (hB : g < B) : RowWays g l m w' :=
  ⟨Nat.lt_of_lt_of_le h.1 hb.size, (hb.cell hB).trans h.2.1, (hb.cell hB).trans h.2.2⟩
theorem row_new (w : World) (g : Nat) (hg : w.heap.size = g) (l m : Int) (T : TypeId) :
    RowWays g l m (w.alloc (.cells #[.func (.func 97) #[.agg #[.int .i64 l, .int .i64 m]] #[], .func (.func 98) #[.agg #[.int .i64 l, .int .i64 m]] #[]] T)) := by
  subst hg
  refine ⟨by simp, ?_, ?_⟩ <;> (rw [World.cell?_alloc_mark]; rfl)

set_option maxRecDepth 100000 in
set_option maxHeartbeats 2000000 in
theorem readRow_any (g : Nat) (p0 p1 : Int) (w : World) (hw : RowWays g p0 p1 w) :
    Calls Tryz.prog 92 #[.slice (some ⟨g, 0, none⟩) 2 2] w fun e w' => ∃ v, e = .returned v ∧ IntRow w' w.heap.size v (partsOf [p0, p1]) ∧ Below w.heap.size w w' := by
  have HL := fun w => readLetter_any p0 p1 w
  have HV := fun w => readMark_any p0 p1 w
  go_enter Tryz.func92, Tryz.ntmps92
  go_wp2
  go_loopw [3, 9] (fun v i wr => ∃ k : Nat, k ≤ 2 ∧ i = .int .i64 k ∧ IntRow wr w.heap.size v (partsOf ([p0, p1].take k)) ∧ Below w.heap.size w wr) (fun _ i _ => 2 - (intOf i).toNat)
  case atStart => exact ⟨0, by omega, rfl, World.ownsRow_nil _ _ _ _, Below.refl _ _⟩
  case round =>
    obtain ⟨k, hk, rfl, hrow, hbel⟩ := hrel
    obtain ⟨hg, c0, c1⟩ := hw.below hbel hw.1
    match k, hk with
    | 0, _ =>
      by_cases hz : p0 = 0
      · subst hz
        go_wp2_with (first | (go_at_call 97; refine (HL _).mono ?_; rintro e w1 ⟨rfl, hb1⟩; have hrow1 := hrow.below hb1; have hbel1 := hbel.trans (hb1.mono hbel.size)))
        go_roundw
        case rel => exact ⟨1, by omega, by go_num, by rw [partsOf_take _ 0 (by simp)]; simpa using hrow1, hbel1⟩
        case measure => simp [intOf]
      · go_wp2_with (first | (go_at_call 97; refine (HL _).mono ?_; rintro e w1 ⟨rfl, hb1⟩; have hrow1 := hrow.below hb1; have hbel1 := hbel.trans (hb1.mono hbel.size)) | (at_builtin; refine append_int w1 rfl (.tmp 17) (.tmp 19) rfl w.heap.size _ _ p0 (by simp [partsOf]) hrow1 rfl rfl hbel1.size ?_; intro v' w2 hrow2 hbel2))
        go_roundw
        case rel => exact ⟨1, by omega, by go_num, by rw [partsOf_take _ 0 (by simp)]; simpa [hz] using hrow2, hbel1.trans hbel2⟩
        case measure => simp [intOf]
    | 1, _ =>
      by_cases hz : p1 = 0
      · subst hz
        go_wp2_with (first | (go_at_call 98; refine (HV _).mono ?_; rintro e w1 ⟨rfl, hb1⟩; have hrow1 := hrow.below hb1; have hbel1 := hbel.trans (hb1.mono hbel.size)))
        go_roundw
        case rel => exact ⟨2, by omega, by go_num, by rw [partsOf_take _ 1 (by simp)]; simpa using hrow1, hbel1⟩
        case measure => simp [intOf]
      · go_wp2_with (first | (go_at_call 98; refine (HV _).mono ?_; rintro e w1 ⟨rfl, hb1⟩; have hrow1 := hrow.below hb1; have hbel1 := hbel.trans (hb1.mono hbel.size)) | (at_builtin; refine append_int w1 rfl (.tmp 17) (.tmp 19) rfl w.heap.size _ _ p1 (by have := partsOf_len [p0, p1] 1; simp at this ⊢; omega) hrow1 rfl rfl hbel1.size ?_; intro v' w2 hrow2 hbel2))
        go_roundw
        case rel => exact ⟨2, by omega, by go_num, by rw [partsOf_take _ 1 (by simp)]; simpa [hz] using hrow2, hbel1.trans hbel2⟩
        case measure => simp [intOf]
    | 2, _ =>
      go_wp2
      go_ret
      exact ⟨_, rfl, hrow, hbel⟩

/-! what the table and the syllables say, against the chapter's own way -/
def keysAll : List Int := pTab.map (·.1)
theorem rowN_none (c : Int) (l : List Int) (s : ByteArray) (m : Int) (h : c ∉ l) : rowN c l s m = [] := by
  have key : ∀ n, n ≤ l.length → firstNE (rowF c l s m) n = [] := by
    intro n
    induction n with
    | zero => intro _; rfl
    | succ n ih =>
      intro hn
      unfold firstNE
      rw [if_pos (ih (by omega))]
      unfold rowF
      rw [if_neg]
      intro e
      apply h
      rw [← e]
      simp [List.getD, show n < l.length by omega]
  exact key _ (Nat.le_refl _)
theorem firstNE_none (f : Nat → List Int) : ∀ n, (∀ t, t < n → f t = []) → firstNE f n = []
  | 0, _ => rfl
  | n + 1, h => by
    unfold firstNE
    rw [if_pos (firstNE_none f n fun t ht => h t (by omega))]
    exact h n (by omega)
theorem prR_keys : ∀ t, t < 8 → ∀ x ∈ prR t, x ∈ keysAll := by decide
theorem grkL_keys : ∀ x ∈ grkL, x ∈ keysAll := by decide

theorem partsN_rest (c : Int) (h : c ∉ keysAll) : partsN c = if inB c 44032 55203 then hanN c else [] := by
  unfold partsN
  rw [if_pos (firstNE_none (tabF c) 8 fun t ht => rowN_none c _ _ _ fun hc => h (prR_keys t ht c hc))]
  rw [if_pos (firstNE_none (grkF c) 14 fun t ht => by
    unfold grkF
    rw [if_neg]
    intro e
    apply h
    apply grkL_keys
    rw [← e]
    have : t < grkL.length := ht
    simp [List.getD, this])]
  unfold tailN
  have hk : ∀ x ∈ [469, 470, 7852, 7853, 8486, 8491], (c == x) = false := fun x hx => by
    have : x ∈ keysAll := (by decide : ∀ x ∈ [469, 470, 7852, 7853, 8486, 8491], x ∈ keysAll) x hx
    rw [beq_eq_false_iff_ne]
    intro e
    exact h (e ▸ this)
  rw [hk 469 (by simp), hk 470 (by simp), hk 7852 (by simp), hk 7853 (by simp), hk 8486 (by simp), hk 8491 (by simp)]
  rfl

theorem partsN_keys : ∀ j, j < 75 → partsN (pRow j).1 = partsOf [(pRow j).2.1, (pRow j).2.2] := by decide

theorem han_parts (c : Int) (h0 : 44032 ≤ c) : partsOf [leadP (c - 44032), vowP (c - 44032), tailP (c - 44032)] = hanN c := by
  have h1 : leadP (c - 44032) ≠ 0 := by unfold leadP; omega
  have h2 : vowP (c - 44032) ≠ 0 := by unfold vowP; omega
  unfold hanN
  by_cases h : (c - 44032) % 28 = 0
  · rw [if_neg (by omega)]
    have h3 : tailP (c - 44032) = 0 := by unfold tailP; rw [if_pos h]
    simp [partsOf, h1, h2, h3]
    exact ⟨rfl, rfl⟩
  · rw [if_pos (by omega)]
    have h3 : tailP (c - 44032) = 4519 + (c - 44032) % 28 := by unfold tailP; rw [if_neg h]
    have h4 : tailP (c - 44032) ≠ 0 := by omega
    simp [partsOf, h1, h2, h4]
    exact ⟨rfl, rfl, h3⟩

theorem keys_bd : ∀ x ∈ keysAll, 192 ≤ x ∧ x ≤ 8491 := by decide

theorem partsN_tabl (c : Int) (hc : inB c 192 8491 = true) : partsN c = partsOf [(pFind c pTab).1, (pFind c pTab).2] := by
  have hb := inB_le hc
  by_cases h : c ∈ keysAll
  · obtain ⟨x, hx, rfl⟩ := List.mem_map.1 h
    rw [pTab_range] at hx
    obtain ⟨j, hj, rfl⟩ := List.mem_map.1 hx
    have hj' := List.mem_range.1 hj
    rw [pTab_range, pFind_row j hj' _ (fun i hi => List.mem_range.1 hi) hj]
    exact partsN_keys j hj'
  · rw [partsN_rest c h, if_neg (by simp [inB]; omega), pFind_none c]
    · rfl
    · intro e he hec
      exact h (List.mem_map.2 ⟨e, he, hec⟩)

theorem partsN_out (c : Int) (h1 : inB c 192 8491 = false) (h2 : inB c 44032 55203 = false) : partsN c = [] := by
  rw [partsN_rest c (fun hc => by have := keys_bd c hc; rw [inB_mk this.1 this.2] at h1; cases h1), h2]
  rfl
end

section
open Go.RowKit

/-- the source of parts lies at B: it has no table yet, or the whole one -/
def SrcAt (B : Nat) (w : World) : Prop :=
  ∃ mo, w.heap[B]? = some (.cells #[.map mo] 114 (0, 0)) ∧ (mo = none ∨ ∃ g L, mo = some g ∧ MapIs g L w ∧ ∀ j, j ∈ L ↔ j < 75)
theorem MapIs.lt {g : Nat} {L : List Nat} {w : World} (h : MapIs g L w) : g < w.heap.size := by
  obtain ⟨es, clk, hb, _⟩ := h
  exact lt_of_block hb
theorem MapIs.kept {g : Nat} {L : List Nat} {w w' : World} (h : MapIs g L w) (e : w'.heap[g]? = w.heap[g]?) : MapIs g L w' := by
  obtain ⟨es, clk, hb, hes⟩ := h
  exact ⟨es, clk, e.trans hb, hes⟩
theorem SrcAt.below {B : Nat} {w w' : World} (h : SrcAt B w) (b : Below w.heap.size w w') : SrcAt B w' := by
  obtain ⟨mo, hb, hm⟩ := h
  refine ⟨mo, (b.block B (lt_of_block hb)).trans hb, ?_⟩
  rcases hm with h | ⟨g, L, h1, h2, h3⟩
  · exact .inl h
  · exact .inr ⟨g, L, h1, h2.kept (b.block g h2.lt), h3⟩
theorem SrcAt.lt {B : Nat} {w : World} (h : SrcAt B w) : B < w.heap.size := by
  obtain ⟨mo, hb, _⟩ := h
  exact lt_of_block hb

/-- the row is laid in its own place, and answered -/
theorem rowOf_end (B : Nat) (w w2 : World) (p0 p1 : Int) (hlt : B < w.heap.size) (hR : w2.heap[w.heap.size]? = some (.cells #[.int .i64 0, .int .i64 0] 139 (0, 0))) (hs : SrcAt B w2) (hg : w.grownBy w2 (some B)) :
    ((w2.setCell ⟨w.heap.size, 0, none⟩ (.int .i64 p0)).setCell ⟨w.heap.size, 1, none⟩ (.int .i64 p1)).heap[w.heap.size]? = some (.cells #[.int .i64 p0, .int .i64 p1] 139 (0, 0)) ∧
    SrcAt B ((w2.setCell ⟨w.heap.size, 0, none⟩ (.int .i64 p0)).setCell ⟨w.heap.size, 1, none⟩ (.int .i64 p1)) ∧ w.grownBy ((w2.setCell ⟨w.heap.size, 0, none⟩ (.int .i64 p0)).setCell ⟨w.heap.size, 1, none⟩ (.int .i64 p1)) (some B) := by
  have hk : ∀ k, k ≠ w.heap.size → ((w2.setCell ⟨w.heap.size, 0, none⟩ (.int .i64 p0)).setCell ⟨w.heap.size, 1, none⟩ (.int .i64 p1)).heap[k]? = w2.heap[k]? := fun k h =>
    (Below.heap_setCell _ _ _ _ h).trans (Below.heap_setCell _ _ _ _ h)
  obtain ⟨mo, hb, hm⟩ := hs
  refine ⟨heap_setCell_same _ _ 1 _ _ _ (heap_setCell_same _ _ 0 _ _ _ hR), ⟨mo, (hk B (by omega)).trans hb, ?_⟩, ⟨hg.os, hg.tape, hg.output, by simpa [World.setCell] using hg.size, fun k h1 h2 => (hk k (by omega)).trans (hg.block k h1 h2)⟩⟩
  rcases hm with h | ⟨g, L, h1, h2, h3⟩
  · exact .inl h
  · refine .inr ⟨g, L, h1, h2.kept (hk g ?_), h3⟩
    intro e
    obtain ⟨es, clk, hmb, _⟩ := h2
    rw [e, hR] at hmb
    cases hmb

set_option maxRecDepth 100000 in
set_option maxHeartbeats 2000000 in
theorem rowOf_any (B : Nat) (c p0 p1 : Int) (h0 : Hid ((pFind c pTab).1 = p0)) (h1 : Hid ((pFind c pTab).2 = p1)) (w : World) (hs : SrcAt B w) :
    Calls Tryz.prog 96 #[.pointer (some ⟨B, 0, none⟩), .int .i64 c] w fun e w' => e = .returned (.agg #[.int .i64 p0, .int .i64 p1]) ∧ SrcAt B w' ∧ w.grownBy w' (some B) := by
  have HT : ∀ g L w' (hM : MapIs g L w') (hL : ∀ j, j ∈ L ↔ j < 75), (Instr.lookup 112 (.map (some g)) (.agg #[.int .i64 c]) false).run Tryz.prog w' = .ok (.agg #[.int .i64 p0, .int .i64 p1]) w' := fun g L w' hM hL => by
    rw [← h0.out, ← h1.out]; exact hM.lookup hL c
  clear h0 h1
  obtain ⟨mo, hB, hm⟩ := hs
  have hlt := lt_of_block hB
  have HA : ∀ o, (w.alloc o).heap[B]? = some (.cells #[.map mo] 114 (0, 0)) := fun o => (Below.heap_alloc _ _ _ hlt).trans hB
  have hc0 : ∀ o, (w.alloc o).cell? ⟨B, 0, none⟩ = some (.map mo) := fun o => cell_of_row _ B 0 _ _ (0, 0) (HA o)
  have hE0 : ∀ w, Sem.run Tryz.prog (binOp BinOp.eql 112 (.map none) (.map none)) w = .ok (.bool true) w := fun w => by kernel_rfl
  have hE1 : ∀ g w, Sem.run Tryz.prog (binOp BinOp.eql 112 (.map (some g)) (.map none)) w = .ok (.bool false) w := fun g w => by kernel_rfl
  rcases hm with rfl | ⟨g, L, rfl, hM, hL⟩
  · go_enter Tryz.func96, Tryz.ntmps96
    go_wp2_with fail
    refine (partTable_any _).mono ?_
    rintro e w1 ⟨rfl, ⟨L, hM, hL⟩, hb1⟩
    rw [hs_alloc] at hM hb1 ⊢
    have hB1 : w1.heap[B]? = some (.cells #[.map none] 114 (0, 0)) := (hb1.block B (by omega)).trans (HA _)
    have hR1 : w1.heap[w.heap.size]? = some (.cells #[.int .i64 0, .int .i64 0] 139 (0, 0)) := (hb1.block _ (by omega)).trans (by show (w.heap.push _)[w.heap.size]? = _; simp)
    have hs1 := hb1.size
    rw [hs_alloc] at hs1
    have hg1 : w.grownBy w1 (some B) := ⟨hb1.os, hb1.tape, hb1.output, by omega, fun k hk _ => (hb1.block k (by omega)).trans (Below.heap_alloc _ _ _ hk)⟩
    have hM2 : MapIs (w.heap.size + 1) L (w1.setCell ⟨B, 0, none⟩ (.map (some (w.heap.size + 1)))) := hM.kept (Below.heap_setCell _ _ _ _ (by show w.heap.size + 1 ≠ B; omega))
    have hB2 : (w1.setCell ⟨B, 0, none⟩ (.map (some (w.heap.size + 1)))).heap[B]? = some (.cells #[.map (some (w.heap.size + 1))] 114 (0, 0)) := heap_setCell_same w1 B 0 _ _ _ hB1
    have hR2 : (w1.setCell ⟨B, 0, none⟩ (.map (some (w.heap.size + 1)))).heap[w.heap.size]? = some (.cells #[.int .i64 0, .int .i64 0] 139 (0, 0)) := (Below.heap_setCell _ _ _ _ (by show w.heap.size ≠ B; omega)).trans hR1
    have hg2 : w.grownBy (w1.setCell ⟨B, 0, none⟩ (.map (some (w.heap.size + 1)))) (some B) := gbi_trans hg1 (gbi_set w1 B 0 _)
    have c1 := cell_of_row w1 B 0 _ _ (0, 0) hB1
    have f1 := frozen_of_row w1 B 0 _ _ hB1
    have hlk := HT _ _ _ hM2 hL
    have c2 := cell_of_row _ B 0 _ _ (0, 0) hB2
    obtain ⟨w2, HW2⟩ : ∃ w2, Hid (w1.setCell ⟨B, 0, none⟩ (.map (some (w.heap.size + 1))) = w2) := ⟨_, rfl⟩
    have hst : ∀ v, v = Value.map (some (w.heap.size + 1)) → w1.setCell ⟨B, 0, none⟩ v = w2 := fun v hv => by rw [hv]; exact HW2.out
    have hst := hst _ rfl
    rw [HW2.out] at hM2 hB2 hR2 hg2 hlk c2
    have d0 := cell_of_row w2 _ 0 _ _ (0, 0) hR2
    have d1 := cell_of_row w2 _ 1 _ _ (0, 0) hR2
    have g0 := frozen_of_row w2 _ 0 _ _ hR2
    have g1 := frozen_of_row w2 _ 1 _ _ hR2
    have HS : Hid (SrcAt B w2) := ⟨_, hB2, .inr ⟨_, L, rfl, hM2, hL⟩⟩
    have HG : Hid (w.grownBy w2 (some B)) := hg2
    have HR : Hid (w2.heap[w.heap.size]? = _) := hR2
    clear hM hM2 hB1 hB2 hR1 hR2 hg1 hg2 hb1 HT hc0 HA hB
    go_wp2
    obtain ⟨he, hs3, hg3⟩ := rowOf_end B w w2 p0 p1 hlt HR.out HS.out HG.out
    (try simp only [Exit.inBlock, Exit.then])
    exact bodyPost_ret (results_cell_row rfl _ _ w.heap.size 139 #[.int .i64 p0, .int .i64 p1] (0, 0) _ rfl he Tryz.underlying139 rfl (by kernel_rfl)) rfl ⟨rfl, hs3, hg3⟩
  · go_enter Tryz.func96, Tryz.ntmps96
    have hM1 : ∀ o, MapIs g L (w.alloc o) := fun o => hM.kept (Below.heap_alloc _ _ _ hM.lt)
    have hlk := fun o => HT g L _ (hM1 o) hL
    have HS : Hid (∀ o, SrcAt B (w.alloc o)) := fun o => ⟨_, HA o, .inr ⟨_, L, rfl, hM1 o, hL⟩⟩
    clear hM1 hM HT hB
    go_wp2
    (try simp only [Exit.inBlock, Exit.then])
    exact bodyPost_ret (results_cell_row rfl _ _ w.heap.size 139 #[.int .i64 p0, .int .i64 p1] (0, 0) _ rfl (heap_alloc_new _ _) Tryz.underlying139 rfl (by kernel_rfl)) rfl ⟨rfl, HS.out _, ⟨rfl, rfl, rfl, by simp, fun k hk _ => Below.heap_alloc _ _ _ hk⟩⟩

set_option maxRecDepth 100000 in
set_option maxHeartbeats 2000000 in
theorem partsOf_any (B : Nat) (c : Int) (w : World) (hs : SrcAt B w) :
    Calls Tryz.prog 84 #[.pointer (some ⟨B, 0, none⟩), .int .i64 c] w fun e w' => ∃ v, e = .returned v ∧ IntRow w' w.heap.size v (partsN c) ∧ SrcAt B w' ∧ w.grownBy w' (some B) := by
  have hlt := hs.lt
  cases h1 : inB c 44032 55203
  · cases h2 : inB c 192 8491
    · have HR : Hid (partsN c = []) := partsN_out c h2 h1
      generalize partsN c = l at HR ⊢
      go_enter Tryz.func84, Tryz.ntmps84
      go_wp2_with (go_at_call 54; refine (btw_any _ _ _ _).mono ?_; rintro e w' ⟨rfl, rfl⟩)
      go_ret
      rw [HR.out]
      exact ⟨_, rfl, World.ownsRow_nil _ _ _ _, hs, ⟨rfl, rfl, rfl, Nat.le_refl _, fun _ _ _ => rfl⟩⟩
    · have HR : Hid (partsN c = partsOf [(pFind c pTab).1, (pFind c pTab).2]) := partsN_tabl c h2
      obtain ⟨p0, H0⟩ : ∃ p0, Hid ((pFind c pTab).1 = p0) := ⟨_, rfl⟩
      obtain ⟨p1, H1⟩ : ∃ p1, Hid ((pFind c pTab).2 = p1) := ⟨_, rfl⟩
      have HRow := rowOf_any B c p0 p1 H0 H1 w hs
      rw [H0.out, H1.out] at HR
      have HS := fun g w' h => readRow_any g p0 p1 w' h
      generalize partsOf [p0, p1] = q at HR HS
      rw [HR.out]
      clear HR H0 H1
      have hmf : ∀ (fn : Fn) (first cap : Array Value) (w : World), (Instr.makeFunc fn first cap).run Tryz.prog w = .ok (.func fn first cap) w := fun _ _ _ _ => rfl
      go_enter Tryz.func84, Tryz.ntmps84
      go_wp2_with (first | (go_at_call 54; refine (btw_any _ _ _ _).mono ?_; rintro e w' ⟨rfl, rfl⟩) | (go_at_call 96; refine HRow.mono ?_; rintro e w1 ⟨rfl, hs1, hg1⟩))
      refine (HS (w1.heap.size + 1) _ (row_new _ _ ?_ _ _ _)).mono ?_
      · rw [hs_alloc]
      rintro e w2 ⟨v, rfl, hrow, hb2⟩
      have hz := hg1.size
      have hb3 : Below w1.heap.size w1 w2 := (((Below.refl w1.heap.size w1).alloc (Nat.le_refl _) _).alloc (by rw [hs_alloc]; omega) _).trans (hb2.mono (by rw [hs_alloc, hs_alloc]; omega))
      have hs2 := hs1.below hb3
      go_wp2
      go_ret
      exact ⟨v, rfl, hrow.mono (by rw [hs_alloc, hs_alloc]; omega), hs2, ⟨hb3.os.trans hg1.os, hb3.tape.trans hg1.tape, hb3.output.trans hg1.output, Nat.le_trans hg1.size hb3.size, fun k hk hn => (hb3.block k (by omega)).trans (hg1.block k hk hn)⟩⟩
  · have hb := inB_le h1
    have HR : Hid (partsN c = partsOf [leadP (c - 44032), vowP (c - 44032), tailP (c - 44032)]) := by
      show _ = _
      rw [partsN_rest c (fun hc => by have := keys_bd c hc; omega), h1, han_parts c hb.1]; rfl
    rw [HR.out]
    refine (partsOfH _ c h1 w).mono ?_
    rintro e w' ⟨v, rfl, hrow, hb⟩
    exact ⟨v, rfl, hrow, hs.below hb, ⟨hb.os, hb.tape, hb.output, hb.size, fun k hk _ => hb.block k hk⟩⟩

/-- a new source -/
theorem src_new (w : World) : SrcAt w.heap.size (w.alloc (.cells #[.map none] 114)) :=
  ⟨none, by show (w.heap.push _)[w.heap.size]? = _; simp, .inl rfl⟩
end

section
open Go.RowKit

theorem isSign_any (c : Int) (w : World) :
    Calls Tryz.prog 74 #[.int .i64 c] w fun e w' => e = .returned (.bool (sgnB c)) ∧ w = w' := by
  have HR : Hid (sgnB c = (inB c 0 1114111 && !inB c 55296 57343)) := rfl
  cases h1 : inB c 0 1114111
  · go_enter Tryz.func74, Tryz.ntmps74
    go_wp2_with (go_at_call 54; refine (btw_any _ _ _ _).mono ?_; rintro e w' ⟨rfl, rfl⟩)
    go_ret
    exact ⟨by rw [HR.out, h1]; rfl, rfl⟩
  · go_enter Tryz.func74, Tryz.ntmps74
    go_wp2_with (go_at_call 54; refine (btw_any _ _ _ _).mono ?_; rintro e w' ⟨rfl, rfl⟩)
    go_ret
    exact ⟨by rw [HR.out, h1]; simp, rfl⟩

set_option maxRecDepth 100000 in
theorem iClass (c : Int) (w : World) :
    Calls Tryz.prog 85 #[.int .i64 c] w fun e w' => e = .returned (.int .i64 (clsN c)) ∧ Below w.heap.size w w' := by
  by_cases h : c ∈ [768, 769, 770, 771, 772, 776, 778, 803, 807]
  · simp at h
    rcases h with rfl | rfl | rfl | rfl | rfl | rfl | rfl | rfl | rfl <;>
    · go_enter Tryz.func85, Tryz.ntmps85
      go_wp2
      go_ret
      exact ⟨rfl, Below.refl _ _⟩
  · have HR : Hid (clsN c = 0) := by
      show clsN c = 0
      simp at h
      simp [clsN, amongB, clsL, h]
    simp at h
    obtain ⟨h1, h2, h3, h4, h5, h6, h7, h8, h9⟩ := h
    generalize clsN c = r at HR ⊢
    go_enter Tryz.func85, Tryz.ntmps85
    go_wp2
    go_ret
    exact ⟨ret_int HR.out.symm, Below.refl _ _⟩

theorem foldN_up (c : Int) (h : upB c = true) : foldN c = [c + 32] := by unfold foldN; rw [h]; rfl
theorem upB_among (c : Int) (h : c = 198 ∨ c = 208 ∨ c = 216 ∨ c = 222) : upB c = true := by
  rcases h with rfl | rfl | rfl | rfl <;> rfl

set_option maxRecDepth 100000 in
set_option maxHeartbeats 1000000 in
theorem iFoldOf (c : Int) (w : World) :
    Calls Tryz.prog 78 #[.int .i64 c] w fun e w' => ∃ v, e = .returned v ∧ IntRow w' w.heap.size v (foldN c) ∧ Below w.heap.size w w' := by
  by_cases h : c ∈ [198, 208, 216, 222, 223, 962]
  · simp at h
    rcases h with rfl | rfl | rfl | rfl | rfl | rfl <;>
    · go_enter Tryz.func78, Tryz.ntmps78
      go_wp2_with (go_at_call 54; refine (btw_any _ _ _ _).mono ?_; rintro e w' ⟨rfl, rfl⟩)
      go_ret
      first
        | (refine ⟨.slice (some ⟨w.heap.size, 0, none⟩) 1 1, rfl, ret_lit _ w _ _ 1 _ ?_ ?_ ?_ ?_ ?_⟩ <;> first | rfl | decide | exact Below.refl _ _)
        | (refine ⟨.slice (some ⟨w.heap.size, 0, none⟩) 2 2, rfl, ret_lit _ w _ _ 2 _ ?_ ?_ ?_ ?_ ?_⟩ <;> first | rfl | decide | exact Below.refl _ _)
  · simp at h
    obtain ⟨h1, h2, h3, h4, h5, h6⟩ := h
    have HU : Hid (upB c = (inB c 65 90 || inB c 913 929 || inB c 931 937 || inB c 1040 1071)) := by
      show upB c = _
      unfold upB
      rw [show amongB c foldL = false by simp [amongB, foldL, h1, h2, h3, h4]]
      simp
    have HB := upB_le c
    have HF : Hid (foldN c = if upB c then [c + 32] else [c]) := by
      show foldN c = _
      unfold foldN
      rw [if_neg h5, if_neg h6]
    generalize upB c = u at HU HB HF
    generalize foldN c = r at HF ⊢
    cases u
    · have HF' : Hid (r = [c]) := HF
      have hu : inB c 65 90 = false ∧ inB c 913 929 = false ∧ inB c 931 937 = false ∧ inB c 1040 1071 = false := by
        have := HU.out
        revert this
        cases inB c 65 90 <;> cases inB c 913 929 <;> cases inB c 931 937 <;> cases inB c 1040 1071 <;> simp
      obtain ⟨u1, u2, u3, u4⟩ := hu
      clear HF HB HU
      go_enter Tryz.func78, Tryz.ntmps78
      go_wp2_with (go_at_call 54; refine (btw_any _ _ _ _).mono ?_; rintro e w' ⟨rfl, rfl⟩)
      go_ret
      rw [HF'.out]
      refine ⟨.slice (some ⟨w.heap.size, 0, none⟩) 1 1, rfl, ret_lit _ w _ _ 1 _ ?_ ?_ ?_ ?_ ?_⟩ <;> first | rfl | decide | exact Below.refl _ _ | simp
    · have HF' : Hid (r = [c + 32]) := HF
      have hb := HB rfl
      clear HF HB
      cases u1 : inB c 65 90
      · cases u2 : inB c 913 929
        · cases u3 : inB c 931 937
          · have u4 : inB c 1040 1071 = true := by have := HU.out; rw [u1, u2, u3] at this; simpa using this.symm
            clear HU
            go_enter Tryz.func78, Tryz.ntmps78
            go_wp2_with (go_at_call 54; refine (btw_any _ _ _ _).mono ?_; rintro e w' ⟨rfl, rfl⟩)
            go_ret
            rw [HF'.out]
            refine ⟨.slice (some ⟨w.heap.size, 0, none⟩) 1 1, rfl, ret_lit _ w _ _ 1 _ ?_ ?_ ?_ ?_ ?_⟩ <;> first | rfl | decide | exact Below.refl _ _ | simp
          · clear HU
            go_enter Tryz.func78, Tryz.ntmps78
            go_wp2_with (go_at_call 54; refine (btw_any _ _ _ _).mono ?_; rintro e w' ⟨rfl, rfl⟩)
            go_ret
            rw [HF'.out]
            refine ⟨.slice (some ⟨w.heap.size, 0, none⟩) 1 1, rfl, ret_lit _ w _ _ 1 _ ?_ ?_ ?_ ?_ ?_⟩ <;> first | rfl | decide | exact Below.refl _ _ | simp
        · clear HU
          go_enter Tryz.func78, Tryz.ntmps78
          go_wp2_with (go_at_call 54; refine (btw_any _ _ _ _).mono ?_; rintro e w' ⟨rfl, rfl⟩)
          go_ret
          rw [HF'.out]
          refine ⟨.slice (some ⟨w.heap.size, 0, none⟩) 1 1, rfl, ret_lit _ w _ _ 1 _ ?_ ?_ ?_ ?_ ?_⟩ <;> first | rfl | decide | exact Below.refl _ _ | simp
      · clear HU
        go_enter Tryz.func78, Tryz.ntmps78
        go_wp2_with (go_at_call 54; refine (btw_any _ _ _ _).mono ?_; rintro e w' ⟨rfl, rfl⟩)
        go_ret
        rw [HF'.out]
        refine ⟨.slice (some ⟨w.heap.size, 0, none⟩) 1 1, rfl, ret_lit _ w _ _ 1 _ ?_ ?_ ?_ ?_ ?_⟩ <;> first | rfl | decide | exact Below.refl _ _ | simp
end

end Go.Proofs.YtchcdgkpaipkgaaGreatDoor
