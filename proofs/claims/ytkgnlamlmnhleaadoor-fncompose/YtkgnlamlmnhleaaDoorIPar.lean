/- Signs: impl.Parts at every int: its contract. -/
import Derived.Test.YtkgnlamlmnhleaaDoorRows
import Derived.Test.YtkgnlamlmnhleaaDoorPrt3
import Derived.Test.YtkgnlamlmnhleaaDoorIBtw
import Derived.Test.YtkgnlamlmnhleaaDoorIPrt
import Derived.Test.YtkgnlamlmnhleaaDoorITab
namespace Go.Proofs.YtkgnlamlmnhleaaDoor
open Go.RowKit

set_option maxRecDepth 100000 in
theorem readLetter_any (l m : Int) (w : World) :
    Calls Tryd.prog 56 #[.agg #[.int .i64 l, .int .i64 m]] w fun e w' => e = .returned (.int .i64 l) ∧ Below w.heap.size w w' := by
  go_enter Tryd.func56, Tryd.ntmps56
  go_wp2
  go_ret
  exact ⟨rfl, below_lit _ _⟩
set_option maxRecDepth 100000 in
theorem readMark_any (l m : Int) (w : World) :
    Calls Tryd.prog 57 #[.agg #[.int .i64 l, .int .i64 m]] w fun e w' => e = .returned (.int .i64 m) ∧ Below w.heap.size w w' := by
  go_enter Tryd.func57, Tryd.ntmps57
  go_wp2
  go_ret
  exact ⟨rfl, below_lit _ _⟩

/-- the two ways to read a row lie at g -/
def RowWays (g : Nat) (l m : Int) (w : World) : Prop :=
  g < w.heap.size ∧ w.cell? ⟨g, 0, none⟩ = some (.func (.func 56) #[.agg #[.int .i64 l, .int .i64 m]] #[]) ∧
  w.cell? ⟨g, 1, none⟩ = some (.func (.func 57) #[.agg #[.int .i64 l, .int .i64 m]] #[])
theorem RowWays.below {g B : Nat} {l m : Int} {w w' : World} (h : RowWays g l m w) (hb : Below B w w') (hB : g < B) : RowWays g l m w' :=
  ⟨Nat.lt_of_lt_of_le h.1 hb.size, (hb.cell hB).trans h.2.1, (hb.cell hB).trans h.2.2⟩
theorem row_new (w : World) (g : Nat) (hg : w.heap.size = g) (l m : Int) (T : TypeId) :
    RowWays g l m (w.alloc (.cells #[.func (.func 56) #[.agg #[.int .i64 l, .int .i64 m]] #[], .func (.func 57) #[.agg #[.int .i64 l, .int .i64 m]] #[]] T)) := by
  subst hg
  refine ⟨by simp, ?_, ?_⟩ <;> (rw [World.cell?_alloc_mark]; rfl)

set_option maxRecDepth 100000 in
set_option maxHeartbeats 2000000 in
theorem readRow_any (g : Nat) (p0 p1 : Int) (w : World) (hw : RowWays g p0 p1 w) :
    Calls Tryd.prog 52 #[.slice (some ⟨g, 0, none⟩) 2 2] w fun e w' => ∃ v, e = .returned v ∧ IntRow w' w.heap.size v (partsOf [p0, p1]) ∧ Below w.heap.size w w' := by
  have HL := fun w => readLetter_any p0 p1 w
  have HV := fun w => readMark_any p0 p1 w
  go_enter Tryd.func52, Tryd.ntmps52
  go_wp2
  go_loopw [3, 9] (fun v i wr => ∃ k : Nat, k ≤ 2 ∧ i = .int .i64 k ∧ IntRow wr w.heap.size v (partsOf ([p0, p1].take k)) ∧ Below w.heap.size w wr) (fun _ i _ => 2 - (intOf i).toNat)
  case atStart => exact ⟨0, by omega, rfl, World.ownsRow_nil _ _ _ _, Below.refl _ _⟩
  case round =>
    obtain ⟨k, hk, rfl, hrow, hbel⟩ := hrel
    obtain ⟨hg, c0, c1⟩ := hw.below hbel hw.1
    match k, hk with
    | 0, _ =>
      by_cases hz : p0 = 0
      · subst hz
        go_wp2_with (first | (go_at_call 56; refine (HL _).mono ?_; rintro e w1 ⟨rfl, hb1⟩; have hrow1 := hrow.below hb1; have hbel1 := hbel.trans (hb1.mono hbel.size)))
        go_roundw
        case rel => exact ⟨1, by omega, by go_num, by rw [partsOf_take _ 0 (by simp)]; simpa using hrow1, hbel1⟩
        case measure => simp [intOf]
      · go_wp2_with (first | (go_at_call 56; refine (HL _).mono ?_; rintro e w1 ⟨rfl, hb1⟩; have hrow1 := hrow.below hb1; have hbel1 := hbel.trans (hb1.mono hbel.size)) | (at_builtin; refine append_int w1 rfl (.tmp 17) (.tmp 19) rfl w.heap.size _ _ p0 (by simp [partsOf]) hrow1 rfl rfl hbel1.size ?_; intro v' w2 hrow2 hbel2))
        go_roundw
        case rel => exact ⟨1, by omega, by go_num, by rw [partsOf_take _ 0 (by simp)]; simpa [hz] using hrow2, hbel1.trans hbel2⟩
        case measure => simp [intOf]
    | 1, _ =>
      by_cases hz : p1 = 0
      · subst hz
        go_wp2_with (first | (go_at_call 57; refine (HV _).mono ?_; rintro e w1 ⟨rfl, hb1⟩; have hrow1 := hrow.below hb1; have hbel1 := hbel.trans (hb1.mono hbel.size)))
        go_roundw
        case rel => exact ⟨2, by omega, by go_num, by rw [partsOf_take _ 1 (by simp)]; simpa using hrow1, hbel1⟩
        case measure => simp [intOf]
      · go_wp2_with (first | (go_at_call 57; refine (HV _).mono ?_; rintro e w1 ⟨rfl, hb1⟩; have hrow1 := hrow.below hb1; have hbel1 := hbel.trans (hb1.mono hbel.size)) | (at_builtin; refine append_int w1 rfl (.tmp 17) (.tmp 19) rfl w.heap.size _ _ p1 (by have := partsOf_len [p0, p1] 1; simp at this ⊢; omega) hrow1 rfl rfl hbel1.size ?_; intro v' w2 hrow2 hbel2))
        go_roundw
        case rel => exact ⟨2, by omega, by go_num, by rw [partsOf_take _ 1 (by simp)]; simpa [hz] using hrow2, hbel1.trans hbel2⟩
        case measure => simp [intOf]
    | 2, _ =>
      go_wp2
      go_ret
      exact ⟨_, rfl, hrow, hbel⟩

/-! what the table and the syllables say, against the chapter's own way -/
def keysAll : List Int := pTab.map (·.1)
theorem rowN_none (c : Int) (l : List Int) (s : ByteArray) (m : Int) (h : c ∉ l) : rowN c l s m = [] := by
  have key : ∀ n, n ≤ l.length → firstNE (rowF c l s m) n = [] := by
    intro n
    induction n with
    | zero => intro _; rfl
    | succ n ih =>
      intro hn
      unfold firstNE
      rw [if_pos (ih (by omega))]
      unfold rowF
      rw [if_neg]
      intro e
      apply h
      rw [← e]
      simp [List.getD, show n < l.length by omega]
  exact key _ (Nat.le_refl _)
theorem firstNE_none (f : Nat → List Int) : ∀ n, (∀ t, t < n → f t = []) → firstNE f n = []
  | 0, _ => rfl
  | n + 1, h => by
    unfold firstNE
    rw [if_pos (firstNE_none f n fun t ht => h t (by omega))]
    exact h n (by omega)
theorem prR_keys : ∀ t, t < 8 → ∀ x ∈ prR t, x ∈ keysAll := by decide
theorem grkL_keys : ∀ x ∈ grkL, x ∈ keysAll := by decide

theorem partsN_rest (c : Int) (h : c ∉ keysAll) : partsN c = if inB c 44032 55203 then hanN c else [] := by
  unfold partsN
  rw [if_pos (firstNE_none (tabF c) 8 fun t ht => rowN_none c _ _ _ fun hc => h (prR_keys t ht c hc))]
  rw [if_pos (firstNE_none (grkF c) 14 fun t ht => by
    unfold grkF
    rw [if_neg]
    intro e
    apply h
    apply grkL_keys
    rw [← e]
    have : t < grkL.length := ht
    simp [List.getD, this])]
  unfold tailN
  have hk : ∀ x ∈ [469, 470, 7852, 7853, 8486, 8491], (c == x) = false := fun x hx => by
    have : x ∈ keysAll := (by decide : ∀ x ∈ [469, 470, 7852, 7853, 8486, 8491], x ∈ keysAll) x hx
    rw [beq_eq_false_iff_ne]
    intro e
    exact h (e ▸ this)
  rw [hk 469 (by simp), hk 470 (by simp), hk 7852 (by simp), hk 7853 (by simp), hk 8486 (by simp), hk 8491 (by simp)]
  rfl

theorem partsN_keys : ∀ j, j < 75 → partsN (pRow j).1 = partsOf [(pRow j).2.1, (pRow j).2.2] := by decide

theorem han_parts (c : Int) (h0 : 44032 ≤ c) : partsOf [leadP (c - 44032), vowP (c - 44032), tailP (c - 44032)] = hanN c := by
  have h1 : leadP (c - 44032) ≠ 0 := by unfold leadP; omega
  have h2 : vowP (c - 44032) ≠ 0 := by unfold vowP; omega
  unfold hanN
  by_cases h : (c - 44032) % 28 = 0
  · rw [if_neg (by omega)]
    have h3 : tailP (c - 44032) = 0 := by unfold tailP; rw [if_pos h]
    simp [partsOf, h1, h2, h3]
    exact ⟨rfl, rfl⟩
  · rw [if_pos (by omega)]
    have h3 : tailP (c - 44032) = 4519 + (c - 44032) % 28 := by unfold tailP; rw [if_neg h]
    have h4 : tailP (c - 44032) ≠ 0 := by omega
    simp [partsOf, h1, h2, h4]
    exact ⟨rfl, rfl, h3⟩

theorem keys_bd : ∀ x ∈ keysAll, 192 ≤ x ∧ x ≤ 8491 := by decide

theorem partsN_tabl (c : Int) (hc : inB c 192 8491 = true) : partsN c = partsOf [(pFind c pTab).1, (pFind c pTab).2] := by
  have hb := inB_le hc
  by_cases h : c ∈ keysAll
  · obtain ⟨x, hx, rfl⟩ := List.mem_map.1 h
    rw [pTab_range] at hx
    obtain ⟨j, hj, rfl⟩ := List.mem_map.1 hx
    have hj' := List.mem_range.1 hj
    rw [pTab_range, pFind_row j hj' _ (fun i hi => List.mem_range.1 hi) hj]
    exact partsN_keys j hj'
  · rw [partsN_rest c h, if_neg (by simp [inB]; omega), pFind_none c]
    · rfl
    · intro e he hec
      exact h (List.mem_map.2 ⟨e, he, hec⟩)

theorem partsN_out (c : Int) (h1 : inB c 192 8491 = false) (h2 : inB c 44032 55203 = false) : partsN c = [] := by
  rw [partsN_rest c (fun hc => by have := keys_bd c hc; rw [inB_mk this.1 this.2] at h1; cases h1), h2]
  rfl

end Go.Proofs.YtkgnlamlmnhleaaDoor
