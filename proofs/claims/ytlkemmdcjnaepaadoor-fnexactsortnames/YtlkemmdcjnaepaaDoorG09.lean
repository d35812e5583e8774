/- Signs: impl.Parts at every int: its contract. Names: a row behind a row; spec.l4Take, spec.Fold: what they answer. Signs: impl.between, impl.Class, impl.FoldOf: what they answer. -/
import Derived.Test.YtlkemmdcjnaepaaDoorRows
import Derived.Test.YtlkemmdcjnaepaaDoorG06
import Derived.Test.YtlkemmdcjnaepaaDoorG01
import Derived.Test.YtlkemmdcjnaepaaDoorG07
import Derived.Test.YtlkemmdcjnaepaaDoorG08
import Derived.Test.YtlkemmdcjnaepaaDoorG00
import Derived.Test.YtlkemmdcjnaepaaDoorG05
import Derived.WalkKit
import Derived.WalkSpells
import Derived.WalkLawsBesides
namespace Go.Proofs.YtlkemmdcjnaepaaDoor

section
open Go.RowKit

set_option maxRecDepth 100000 in
theorem readLetter_any (l m : Int) (w : World) :
    Calls Tryd.prog 120 #[.agg #[.int .i64 l, .int .i64 m]] w fun e w' => e = .returned (.int .i64 l) ∧ Below w.heap.size w w' := by
  go_enter Tryd.func120, Tryd.ntmps120
  go_wp2
  go_ret
  exact ⟨rfl, below_lit _ _⟩
set_option maxRecDepth 100000 in
theorem readMark_any (l m : Int) (w : World) :
    Calls Tryd.prog 121 #[.agg #[.int .i64 l, .int .i64 m]] w fun e w' => e = .returned (.int .i64 m) ∧ Below w.heap.size w w' := by
  go_enter Tryd.func121, Tryd.ntmps121
  go_wp2
  go_ret
  exact ⟨rfl, below_lit _ _⟩

/-- the two ways to read a row lie at g -/
def RowWays (g : Nat) (l m : Int) (w : World) : Prop :=
  g < w.heap.size ∧ w.cell? ⟨g, 0, none⟩ = some (.func (.func 120) #[.agg #[.int .i64 l, .int .i64 m]] #[]) ∧
  w.cell? ⟨g, 1, none⟩ = some (.func (.func 121) #[.agg #[.int .i64 l, .int .i64 m]] #[])
theorem RowWays.below {g B : Nat} {l m : Int} {w w' : World} (h : RowWays g l m w) (hb : Below B w w') (hB : g < B) : RowWays g l m w' :=
  ⟨Nat.lt_of_lt_of_le h.1 hb.size, (hb.cell hB).trans h.2.1, (hb.cell hB).trans h.2.2⟩
theorem row_new (w : World) (g : Nat) (hg : w.heap.size = g) (l m : Int) (T : TypeId) :
    RowWays g l m (w.alloc (.cells #[.func (.func 120) #[.agg #[.int .i64 l, .int .i64 m]] #[], .func (.func 121) #[.agg #[.int .i64 l, .int .i64 m]] #[]] T)) := by
  subst hg
  refine ⟨by simp, ?_, ?_⟩ <;> (rw [World.cell?_alloc_mark]; rfl)

set_option maxRecDepth 100000 in
set_option maxHeartbeats 2000000 in
theorem readRow_any (g : Nat) (p0 p1 : Int) (w : World) (hw : RowWays g p0 p1 w) :
    Calls Tryd.prog 115 #[.slice (some ⟨g, 0, none⟩) 2 2] w fun e w' => ∃ v, e = .returned v ∧ IntRow w' w.heap.size v (partsOf [p0, p1]) ∧ Below w.heap.size w w' := by
  have HL := fun w => readLetter_any p0 p1 w
  have HV := fun w => readMark_any p0 p1 w
  go_enter Tryd.func115, Tryd.ntmps115
  go_wp2
  go_loopw [3, 9] (fun v i wr => ∃ k : Nat, k ≤ 2 ∧ i = .int .i64 k ∧ IntRow wr w.heap.size v (partsOf ([p0, p1].take k)) ∧ Below w.heap.size w wr) (fun _ i _ => 2 - (intOf i).toNat)
  case atStart => exact ⟨0, by omega, rfl, World.ownsRow_nil _ _ _ _, Below.refl _ _⟩
  case round =>
    obtain ⟨k, hk, rfl, hrow, hbel⟩ := hrel
    obtain ⟨hg, c0, c1⟩ := hw.below hbel hw.1
    match k, hk with
    | 0, _ =>
      by_cases hz : p0 = 0
      · subst hz
        go_wp2_with (first | (go_at_call 120; refine (HL _).mono ?_; rintro e w1 ⟨rfl, hb1⟩; have hrow1 := hrow.below hb1; have hbel1 := hbel.trans (hb1.mono hbel.size)))
        go_roundw
        case rel => exact ⟨1, by omega, by go_num, by rw [partsOf_take _ 0 (by simp)]; simpa using hrow1, hbel1⟩
        case measure => simp [intOf]
      · go_wp2_with (first | (go_at_call 120; refine (HL _).mono ?_; rintro e w1 ⟨rfl, hb1⟩; have hrow1 := hrow.below hb1; have hbel1 := hbel.trans (hb1.mono hbel.size)) | (at_builtin; refine append_int w1 rfl (.tmp 17) (.tmp 19) rfl w.heap.size _ _ p0 (by simp [partsOf]) hrow1 rfl rfl hbel1.size ?_; intro v' w2 hrow2 hbel2))
        go_roundw
        case rel => exact ⟨1, by omega, by go_num, by rw [partsOf_take _ 0 (by simp)]; simpa [hz] using hrow2, hbel1.trans hbel2⟩
        case measure => simp [intOf]
    | 1, _ =>
      by_cases hz : p1 = 0
      · subst hz
        go_wp2_with (first | (go_at_call 121; refine (HV _).mono ?_; rintro e w1 ⟨rfl, hb1⟩; have hrow1 := hrow.below hb1; have hbel1 := hbel.trans (hb1.mono hbel.size)))
        go_roundw
        case rel => exact ⟨2, by omega, by go_num, by rw [partsOf_take _ 1 (by simp)]; simpa using hrow1, hbel1⟩
        case measure => simp [intOf]
      · go_wp2_with (first | (go_at_call 121; refine (HV _).mono ?_; rintro e w1 ⟨rfl, hb1⟩; have hrow1 := hrow.below hb1; have hbel1 := hbel.trans (hb1.mono hbel.size)) | (at_builtin; refine append_int w1 rfl (.tmp 17) (.tmp 19) rfl w.heap.size _ _ p1 (by have := partsOf_len [p0, p1] 1; simp at this ⊢; omega) hrow1 rfl rfl hbel1.size ?_; intro v' w2 hrow2 hbel2))
        go_roundw
        case rel => exact ⟨2, by omega, by go_num, by rw [partsOf_take _ 1 (by simp)]; simpa [hz] using hrow2, hbel1.trans hbel2⟩
        case measure => simp [intOf]
    | 2, _ =>
      go_wp2
      go_ret
      exact ⟨_, rfl, hrow, hbel⟩

/-! what the table and the syllables say, against the chapter's own way -/
def keysAll : List Int := pTab.map (·.1)
theorem rowN_none (c : Int) (l : List Int) (s : ByteArray) (m : Int) (h : c ∉ l) : rowN c l s m = [] := by
  have key : ∀ n, n ≤ l.length → firstNE (rowF c l s m) n = [] := by
    intro n
    induction n with
    | zero => intro _; rfl
    | succ n ih =>
      intro hn
      unfold firstNE
      rw [if_pos (ih (by omega))]
      unfold rowF
      rw [if_neg]
      intro e
      apply h
      rw [← e]
      simp [List.getD, show n < l.length by omega]
  exact key _ (Nat.le_refl _)
theorem firstNE_none (f : Nat → List Int) : ∀ n, (∀ t, t < n → f t = []) → firstNE f n = []
  | 0, _ => rfl
  | n + 1, h => by
    unfold firstNE
    rw [if_pos (firstNE_none f n fun t ht => h t (by omega))]
    exact h n (by omega)
theorem prR_keys : ∀ t, t < 8 → ∀ x ∈ prR t, x ∈ keysAll := by decide
theorem grkL_keys : ∀ x ∈ grkL, x ∈ keysAll := by decide

theorem partsN_rest (c : Int) (h : c ∉ keysAll) : partsN c = if inB c 44032 55203 then hanN c else [] := by
  unfold partsN
  rw [if_pos (firstNE_none (tabF c) 8 fun t ht => rowN_none c _ _ _ fun hc => h (prR_keys t ht c hc))]
  rw [if_pos (firstNE_none (grkF c) 14 fun t ht => by
    unfold grkF
    rw [if_neg]
    intro e
    apply h
    apply grkL_keys
    rw [← e]
    have : t < grkL.length := ht
    simp [List.getD, this])]
  unfold tailN
  have hk : ∀ x ∈ [469, 470, 7852, 7853, 8486, 8491], (c == x) = false := fun x hx => by
    have : x ∈ keysAll := (by decide : ∀ x ∈ [469, 470, 7852, 7853, 8486, 8491], x ∈ keysAll) x hx
    rw [beq_eq_false_iff_ne]
    intro e
    exact h (e ▸ this)
  rw [hk 469 (by simp), hk 470 (by simp), hk 7852 (by simp), hk 7853 (by simp), hk 8486 (by simp), hk 8491 (by simp)]
  rfl

theorem partsN_keys : ∀ j, j < 75 → partsN (pRow j).1 = partsOf [(pRow j).2.1, (pRow j).2.2] := by decide

theorem han_parts (c : Int) (h0 : 44032 ≤ c) : partsOf [leadP (c - 44032), vowP (c - 44032), tailP (c - 44032)] = hanN c := by
  have h1 : leadP (c - 44032) ≠ 0 := by unfold leadP; omega
  have h2 : vowP (c - 44032) ≠ 0 := by unfold vowP; omega
  unfold hanN
  by_cases h : (c - 44032) % 28 = 0
  · rw [if_neg (by omega)]
    have h3 : tailP (c - 44032) = 0 := by unfold tailP; rw [if_pos h]
    simp [partsOf, h1, h2, h3]
    exact ⟨rfl, rfl⟩
  · rw [if_pos (by omega)]
    have h3 : tailP (c - 44032) = 4519 + (c - 44032) % 28 := by unfold tailP; rw [if_neg h]
    have h4 : tailP (c - 44032) ≠ 0 := by omega
    simp [partsOf, h1, h2, h4]
    exact ⟨rfl, rfl, h3⟩

theorem keys_bd : ∀ x ∈ keysAll, 192 ≤ x ∧ x ≤ 8491 := by decide

theorem partsN_tabl (c : Int) (hc : inB c 192 8491 = true) : partsN c = partsOf [(pFind c pTab).1, (pFind c pTab).2] := by
  have hb := inB_le hc
  by_cases h : c ∈ keysAll
  · obtain ⟨x, hx, rfl⟩ := List.mem_map.1 h
    rw [pTab_range] at hx
    obtain ⟨j, hj, rfl⟩ := List.mem_map.1 hx
    have hj' := List.mem_range.1 hj
    rw [pTab_range, pFind_row j hj' _ (fun i hi => List.mem_range.1 hi) hj]
    exact partsN_keys j hj'
  · rw [partsN_rest c h, if_neg (by simp [inB]; omega), pFind_none c]
    · rfl
    · intro e he hec
      exact h (List.mem_map.2 ⟨e, he, hec⟩)

theorem partsN_out (c : Int) (h1 : inB c 192 8491 = false) (h2 : inB c 44032 55203 = false) : partsN c = [] := by
  rw [partsN_rest c (fun hc => by have := keys_bd c hc; rw [inB_mk this.1 this.2] at h1; cases h1), h2]
  rfl
end

section
open Go.RowKit

/-- 'append(out, x...)', out a row of the call's own, x a row of integers that is not empty -/
theorem append_ints (w : World) {ops : Array Oper} {rest : List Oper} {o : Oper} {a : Act} {Q : Exit → Act → World → Prop} (hgd : o.guard = none) (s x : Operand)
    (ho : o.op = .call { callee := .builtin .append, args := #[s, x], argTypes := #[39, 39] }) (base : Nat)
    (v u : Value) (l m : List Int) (hm : m ≠ []) (hl : l.length + m.length ≤ 1099511627776) (hown : IntRow w base v l) (hu : IntsAt w u m) (hs : a.eval s = v) (hx : a.eval x = u)
    (hbase : base ≤ w.heap.size)
    (h : ∀ v' w', IntRow w' base v' (l ++ m) → Below base w w' → wpList Tryd.prog ops Q rest (a.put o.dst v') w') :
    wpList Tryd.prog ops Q (o :: rest) a w := by
  obtain ⟨i0, hi, hz0, hz1, hz2⟩ := info_parts Tryd.infoInt
  obtain ⟨ad, cap, rfl, hc⟩ := hu
  have hpos : 0 < m.length := List.length_pos_iff.2 hm
  obtain ⟨b, off, rfl, hb, _⟩ := hc 0 hpos
  have hcl : ∀ j y, (intsV m)[j]? = some y → w.cell? ((⟨b, off, none⟩ : Addr).add j) = some y := by
    intro j y hy
    have hj : j < m.length := by
      have := (List.getElem?_eq_some_iff.1 hy).1
      simpa [intsV] using this
    obtain ⟨b1, off1, e, _, hcj⟩ := hc j hj
    cases e
    rw [Addr.add_lit, hcj, ← hy, intsV_get m j hj]
  have hlen : (intsV m).length = m.length := by simp [intsV]
  refine wpList_append_own _ hgd s x 39 ho base 3 i0 (.int .i64 0) 1 8 Tryd.underlying39 hi hz0 hz1 hz2 rfl (by decide) v l.length (intsV l) hs hown ⟨b, off, none⟩ m.length cap (intsV m) hx (by rw [hlen]; omega) hcl ?_ (by unfold maxLen; omega) (by omega) hbase ?_
  · intro y hy
    simp only [intsV] at hy
    obtain ⟨z, _, rfl⟩ := List.mem_map.1 hy
    rfl
  · intro v' w' hown' hgrow _
    refine h v' w' ?_ ?_
    · unfold IntRow
      rw [intsV_append, List.length_append]
      exact hown'
    · refine (Below.refl base w).grown hgrow hbase ?_
      intro k hk
      exact (World.ownsRow.lt hown k hk).1

/-- what is left of c, taken apart: of its parts, by tk -/
def takeBy (tk : Int → List Int) (c : Int) : List Int := if partsN c = [] then [c] else (partsN c).flatMap tk

def TakeSays (c : Int) (l : List Int) : Prop :=
  ∀ w, Calls Tryd.prog 86 #[.int .i64 c] w fun e w' => ∃ v, e = .returned v ∧ IntRow w' w.heap.size v l ∧ Below w.heap.size w w'

theorem flatMap_take (l : List Int) (tk : Int → List Int) (k : Nat) (h : k < l.length) : (l.take (k + 1)).flatMap tk = (l.take k).flatMap tk ++ tk (l.getD k 0) := by
  have e : l.take (k + 1) = l.take k ++ [l.getD k 0] := by
    rw [List.take_add_one, List.getElem?_eq_getElem h]; simp [List.getD, h]
  rw [e, List.flatMap_append]
  simp

/-! signs that are taken apart, and what they come to -/
theorem partsN_cases (c : Int) : (∃ j, j < 75 ∧ c = (pRow j).1) ∨ (44032 ≤ c ∧ c ≤ 55203 ∧ partsN c = hanN c) ∨ partsN c = [] := by
  by_cases h : c ∈ keysAll
  · left
    obtain ⟨x, hx, rfl⟩ := List.mem_map.1 h
    rw [pTab_range] at hx
    obtain ⟨j, hj, rfl⟩ := List.mem_map.1 hx
    exact ⟨j, List.mem_range.1 hj, rfl⟩
  · right
    cases h2 : inB c 44032 55203
    · right; rw [partsN_rest c h, h2]; rfl
    · left
      have hb := inB_le h2
      exact ⟨hb.1, hb.2, by rw [partsN_rest c h, h2]; rfl⟩
theorem keys_gap : ∀ x ∈ keysAll, x < 4352 ∨ 4546 < x := by decide
theorem partsN_jamo (d : Int) (h0 : 4352 ≤ d) (h1 : d ≤ 4546) : partsN d = [] := by
  rw [partsN_rest d (fun hd => by have := keys_gap d hd; omega), if_neg (by simp [inB]; omega)]
theorem hanN_bd (c d : Int) (h0 : 44032 ≤ c) (h1 : c ≤ 55203) (hd : d ∈ hanN c) : 4352 ≤ d ∧ d ≤ 4546 := by
  unfold hanN at hd
  split at hd
  · simp at hd; omega
  · simp at hd; omega
set_option maxRecDepth 100000 in
theorem rows_two : ∀ j, j < 75 → ∀ d ∈ partsN (pRow j).1, ∀ e ∈ partsN d, partsN e = [] := by decide
/-- parts of parts of parts there are none -/
theorem parts_two (c d e : Int) (hd : d ∈ partsN c) (he : e ∈ partsN d) : partsN e = [] := by
  rcases partsN_cases c with ⟨j, hj, rfl⟩ | ⟨h0, h1, hh⟩ | h
  · exact rows_two j hj d hd e he
  · rw [hh] at hd
    have hb := hanN_bd c d h0 h1 hd
    rw [partsN_jamo d hb.1 hb.2] at he
    cases he
  · rw [h] at hd; cases hd

def take1 (c : Int) : List Int := takeBy (fun d => [d]) c
def takeN (c : Int) : List Int := takeBy take1 c
theorem take1_leaf (c : Int) (h : partsN c = []) : take1 c = [c] := by unfold take1 takeBy; rw [if_pos h]
theorem takeN_leaf (c : Int) (h : partsN c = []) : takeN c = [c] := by unfold takeN takeBy; rw [if_pos h]
theorem partsN_le (a0 : Int) : (partsN a0).length ≤ 3 := by
  have hp : ∀ l : List Int, (partsOf l).length ≤ l.length := fun l => List.length_filter_le _ _
  cases h1 : inB a0 44032 55203
  · cases h2 : inB a0 192 8491
    · rw [partsN_out a0 h2 h1]; simp
    · rw [partsN_tabl a0 h2]; exact Nat.le_trans (hp _) (by simp)
  · have hb := inB_le h1
    rw [partsN_rest a0 (fun hc => by have := keys_bd a0 hc; omega), h1, if_pos rfl, ← han_parts a0 hb.1]; exact Nat.le_trans (hp _) (by simp)
theorem take1_le (c : Int) : take1 c ≠ [] ∧ (take1 c).length ≤ 3 := by
  unfold take1 takeBy
  split
  · simp
  · rename_i hne
    have e : (partsN c).flatMap (fun d => [d]) = partsN c := by simp
    rw [e]
    exact ⟨hne, partsN_le c⟩
theorem take1_ne (c : Int) : take1 c ≠ [] ∧ (take1 c).length ≤ 9 := ⟨(take1_le c).1, Nat.le_trans (take1_le c).2 (by decide)⟩
theorem takeN_ne (c : Int) : takeN c ≠ [] ∧ (takeN c).length ≤ 9 := by
  unfold takeN takeBy
  split
  · simp
  · rename_i hne
    constructor
    · intro hf
      cases hl : partsN c with
      | nil => exact hne hl
      | cons d ds =>
        rw [hl] at hf
        simp only [List.flatMap_cons, List.append_eq_nil_iff] at hf
        exact (take1_le d).1 hf.1
    · have hb : ∀ l : List Int, (l.flatMap take1).length ≤ 3 * l.length := fun l => by
        induction l with
        | nil => simp
        | cons d ds ih => simp only [List.flatMap_cons, List.length_append, List.length_cons]; have := (take1_le d).2; omega
      have := hb (partsN c)
      have := partsN_le c
      omega
end

section
open Go.RowKit

set_option maxRecDepth 100000 in
theorem iClass (c : Int) (w : World) :
    Calls Tryd.prog 90 #[.int .i64 c] w fun e w' => e = .returned (.int .i64 (clsN c)) ∧ Below w.heap.size w w' := by
  by_cases h : c ∈ [768, 769, 770, 771, 772, 776, 778, 803, 807]
  · simp at h
    rcases h with rfl | rfl | rfl | rfl | rfl | rfl | rfl | rfl | rfl <;>
    · go_enter Tryd.func90, Tryd.ntmps90
      go_wp2
      go_ret
      exact ⟨rfl, Below.refl _ _⟩
  · have HR : Hid (clsN c = 0) := by
      show clsN c = 0
      simp at h
      simp [clsN, amongB, clsL, h]
    simp at h
    obtain ⟨h1, h2, h3, h4, h5, h6, h7, h8, h9⟩ := h
    generalize clsN c = r at HR ⊢
    go_enter Tryd.func90, Tryd.ntmps90
    go_wp2
    go_ret
    exact ⟨ret_int HR.out.symm, Below.refl _ _⟩

theorem foldN_up (c : Int) (h : upB c = true) : foldN c = [c + 32] := by unfold foldN; rw [h]; rfl
theorem upB_among (c : Int) (h : c = 198 ∨ c = 208 ∨ c = 216 ∨ c = 222) : upB c = true := by
  rcases h with rfl | rfl | rfl | rfl <;> rfl

set_option maxRecDepth 100000 in
set_option maxHeartbeats 1000000 in
theorem iFoldOf (c : Int) (w : World) :
    Calls Tryd.prog 103 #[.int .i64 c] w fun e w' => ∃ v, e = .returned v ∧ IntRow w' w.heap.size v (foldN c) ∧ Below w.heap.size w w' := by
  by_cases h : c ∈ [198, 208, 216, 222, 223, 962]
  · simp at h
    rcases h with rfl | rfl | rfl | rfl | rfl | rfl <;>
    · go_enter Tryd.func103, Tryd.ntmps103
      go_wp2_with (go_at_call 99; refine (btw_any _ _ _ _).mono ?_; rintro e w' ⟨rfl, rfl⟩)
      go_ret
      first
        | (refine ⟨.slice (some ⟨w.heap.size, 0, none⟩) 1 1, rfl, ret_lit _ w _ _ 1 _ ?_ ?_ ?_ ?_ ?_⟩ <;> first | rfl | decide | exact Below.refl _ _)
        | (refine ⟨.slice (some ⟨w.heap.size, 0, none⟩) 2 2, rfl, ret_lit _ w _ _ 2 _ ?_ ?_ ?_ ?_ ?_⟩ <;> first | rfl | decide | exact Below.refl _ _)
  · simp at h
    obtain ⟨h1, h2, h3, h4, h5, h6⟩ := h
    have HU : Hid (upB c = (inB c 65 90 || inB c 913 929 || inB c 931 937 || inB c 1040 1071)) := by
      show upB c = _
      unfold upB
      rw [show amongB c foldL = false by simp [amongB, foldL, h1, h2, h3, h4]]
      simp
    have HB := upB_le c
    have HF : Hid (foldN c = if upB c then [c + 32] else [c]) := by
      show foldN c = _
      unfold foldN
      rw [if_neg h5, if_neg h6]
    generalize upB c = u at HU HB HF
    generalize foldN c = r at HF ⊢
    cases u
    · have HF' : Hid (r = [c]) := HF
      have hu : inB c 65 90 = false ∧ inB c 913 929 = false ∧ inB c 931 937 = false ∧ inB c 1040 1071 = false := by
        have := HU.out
        revert this
        cases inB c 65 90 <;> cases inB c 913 929 <;> cases inB c 931 937 <;> cases inB c 1040 1071 <;> simp
      obtain ⟨u1, u2, u3, u4⟩ := hu
      clear HF HB HU
      go_enter Tryd.func103, Tryd.ntmps103
      go_wp2_with (go_at_call 99; refine (btw_any _ _ _ _).mono ?_; rintro e w' ⟨rfl, rfl⟩)
      go_ret
      rw [HF'.out]
      refine ⟨.slice (some ⟨w.heap.size, 0, none⟩) 1 1, rfl, ret_lit _ w _ _ 1 _ ?_ ?_ ?_ ?_ ?_⟩ <;> first | rfl | decide | exact Below.refl _ _ | simp
    · have HF' : Hid (r = [c + 32]) := HF
      have hb := HB rfl
      clear HF HB
      cases u1 : inB c 65 90
      · cases u2 : inB c 913 929
        · cases u3 : inB c 931 937
          · have u4 : inB c 1040 1071 = true := by have := HU.out; rw [u1, u2, u3] at this; simpa using this.symm
            clear HU
            go_enter Tryd.func103, Tryd.ntmps103
            go_wp2_with (go_at_call 99; refine (btw_any _ _ _ _).mono ?_; rintro e w' ⟨rfl, rfl⟩)
            go_ret
            rw [HF'.out]
            refine ⟨.slice (some ⟨w.heap.size, 0, none⟩) 1 1, rfl, ret_lit _ w _ _ 1 _ ?_ ?_ ?_ ?_ ?_⟩ <;> first | rfl | decide | exact Below.refl _ _ | simp
          · clear HU
            go_enter Tryd.func103, Tryd.ntmps103
            go_wp2_with (go_at_call 99; refine (btw_any _ _ _ _).mono ?_; rintro e w' ⟨rfl, rfl⟩)
            go_ret
            rw [HF'.out]
            refine ⟨.slice (some ⟨w.heap.size, 0, none⟩) 1 1, rfl, ret_lit _ w _ _ 1 _ ?_ ?_ ?_ ?_ ?_⟩ <;> first | rfl | decide | exact Below.refl _ _ | simp
        · clear HU
          go_enter Tryd.func103, Tryd.ntmps103
          go_wp2_with (go_at_call 99; refine (btw_any _ _ _ _).mono ?_; rintro e w' ⟨rfl, rfl⟩)
          go_ret
          rw [HF'.out]
          refine ⟨.slice (some ⟨w.heap.size, 0, none⟩) 1 1, rfl, ret_lit _ w _ _ 1 _ ?_ ?_ ?_ ?_ ?_⟩ <;> first | rfl | decide | exact Below.refl _ _ | simp
      · clear HU
        go_enter Tryd.func103, Tryd.ntmps103
        go_wp2_with (go_at_call 99; refine (btw_any _ _ _ _).mono ?_; rintro e w' ⟨rfl, rfl⟩)
        go_ret
        rw [HF'.out]
        refine ⟨.slice (some ⟨w.heap.size, 0, none⟩) 1 1, rfl, ret_lit _ w _ _ 1 _ ?_ ?_ ?_ ?_ ?_⟩ <;> first | rfl | decide | exact Below.refl _ _ | simp
end

end Go.Proofs.YtlkemmdcjnaepaaDoor
