/- Names: a row behind a row; spec.l4Take, spec.Fold: what they answer. -/
import Derived.Test.YtkgnlamlmnhleaaDoorRows
import Derived.Test.YtkgnlamlmnhleaaDoorSgn
import Derived.Test.YtkgnlamlmnhleaaDoorPrt3
import Derived.Test.YtkgnlamlmnhleaaDoorIPar
namespace Go.Proofs.YtkgnlamlmnhleaaDoor
open Go.RowKit

/-- 'append(out, x...)', out a row of the call's own, x a row of integers that is not empty -/
theorem append_ints (w : World) {ops : Array Oper} {rest : List Oper} {o : Oper} {a : Act} {Q : Exit → Act → World → Prop} (hgd : o.guard = none) (s x : Operand)
    (ho : o.op = .call { callee := .builtin .append, args := #[s, x], argTypes := #[24, 24] }) (base : Nat)
    (v u : Value) (l m : List Int) (hm : m ≠ []) (hl : l.length + m.length ≤ 1099511627776) (hown : IntRow w base v l) (hu : IntsAt w u m) (hs : a.eval s = v) (hx : a.eval x = u)
    (hbase : base ≤ w.heap.size)
    (h : ∀ v' w', IntRow w' base v' (l ++ m) → Below base w w' → wpList Tryd.prog ops Q rest (a.put o.dst v') w') :
    wpList Tryd.prog ops Q (o :: rest) a w := by
  obtain ⟨i0, hi, hz0, hz1, hz2⟩ := info_parts Tryd.infoInt
  obtain ⟨ad, cap, rfl, hc⟩ := hu
  have hpos : 0 < m.length := List.length_pos_iff.2 hm
  obtain ⟨b, off, rfl, hb, _⟩ := hc 0 hpos
  have hcl : ∀ j y, (intsV m)[j]? = some y → w.cell? ((⟨b, off, none⟩ : Addr).add j) = some y := by
    intro j y hy
    have hj : j < m.length := by
      have := (List.getElem?_eq_some_iff.1 hy).1
      simpa [intsV] using this
    obtain ⟨b1, off1, e, _, hcj⟩ := hc j hj
    cases e
    rw [Addr.add_lit, hcj, ← hy, intsV_get m j hj]
  have hlen : (intsV m).length = m.length := by simp [intsV]
  refine wpList_append_own _ hgd s x 24 ho base 3 i0 (.int .i64 0) 1 8 Tryd.underlying24 hi hz0 hz1 hz2 rfl (by decide) v l.length (intsV l) hs hown ⟨b, off, none⟩ m.length cap (intsV m) hx (by rw [hlen]; omega) hcl ?_ (by unfold maxLen; omega) (by omega) hbase ?_
  · intro y hy
    simp only [intsV] at hy
    obtain ⟨z, _, rfl⟩ := List.mem_map.1 hy
    rfl
  · intro v' w' hown' hgrow _
    refine h v' w' ?_ ?_
    · unfold IntRow
      rw [intsV_append, List.length_append]
      exact hown'
    · refine (Below.refl base w).grown hgrow hbase ?_
      intro k hk
      exact (World.ownsRow.lt hown k hk).1

/-- what is left of c, taken apart: of its parts, by tk -/
def takeBy (tk : Int → List Int) (c : Int) : List Int := if partsN c = [] then [c] else (partsN c).flatMap tk

def TakeSays (c : Int) (l : List Int) : Prop :=
  ∀ w, Calls Tryd.prog 25 #[.int .i64 c] w fun e w' => ∃ v, e = .returned v ∧ IntRow w' w.heap.size v l ∧ Below w.heap.size w w'

theorem flatMap_take (l : List Int) (tk : Int → List Int) (k : Nat) (h : k < l.length) : (l.take (k + 1)).flatMap tk = (l.take k).flatMap tk ++ tk (l.getD k 0) := by
  have e : l.take (k + 1) = l.take k ++ [l.getD k 0] := by
    rw [List.take_add_one, List.getElem?_eq_getElem h]; simp [List.getD, h]
  rw [e, List.flatMap_append]
  simp

/-! signs that are taken apart, and what they come to -/
theorem partsN_cases (c : Int) : (∃ j, j < 75 ∧ c = (pRow j).1) ∨ (44032 ≤ c ∧ c ≤ 55203 ∧ partsN c = hanN c) ∨ partsN c = [] := by
  by_cases h : c ∈ keysAll
  · left
    obtain ⟨x, hx, rfl⟩ := List.mem_map.1 h
    rw [pTab_range] at hx
    obtain ⟨j, hj, rfl⟩ := List.mem_map.1 hx
    exact ⟨j, List.mem_range.1 hj, rfl⟩
  · right
    cases h2 : inB c 44032 55203
    · right; rw [partsN_rest c h, h2]; rfl
    · left
      have hb := inB_le h2
      exact ⟨hb.1, hb.2, by rw [partsN_rest c h, h2]; rfl⟩
theorem keys_gap : ∀ x ∈ keysAll, x < 4352 ∨ 4546 < x := by decide
theorem partsN_jamo (d : Int) (h0 : 4352 ≤ d) (h1 : d ≤ 4546) : partsN d = [] := by
  rw [partsN_rest d (fun hd => by have := keys_gap d hd; omega), if_neg (by simp [inB]; omega)]
theorem hanN_bd (c d : Int) (h0 : 44032 ≤ c) (h1 : c ≤ 55203) (hd : d ∈ hanN c) : 4352 ≤ d ∧ d ≤ 4546 := by
  unfold hanN at hd
  split at hd
  · simp at hd; omega
  · simp at hd; omega
set_option maxRecDepth 100000 in
theorem rows_two : ∀ j, j < 75 → ∀ d ∈ partsN (pRow j).1, ∀ e ∈ partsN d, partsN e = [] := by decide
/-- parts of parts of parts there are none -/
theorem parts_two (c d e : Int) (hd : d ∈ partsN c) (he : e ∈ partsN d) : partsN e = [] := by
  rcases partsN_cases c with ⟨j, hj, rfl⟩ | ⟨h0, h1, hh⟩ | h
  · exact rows_two j hj d hd e he
  · rw [hh] at hd
    have hb := hanN_bd c d h0 h1 hd
    rw [partsN_jamo d hb.1 hb.2] at he
    cases he
  · rw [h] at hd; cases hd

def take1 (c : Int) : List Int := takeBy (fun d => [d]) c
def takeN (c : Int) : List Int := takeBy take1 c
theorem take1_leaf (c : Int) (h : partsN c = []) : take1 c = [c] := by unfold take1 takeBy; rw [if_pos h]
theorem takeN_leaf (c : Int) (h : partsN c = []) : takeN c = [c] := by unfold takeN takeBy; rw [if_pos h]
theorem partsN_le (a0 : Int) : (partsN a0).length ≤ 3 := by
  have hp : ∀ l : List Int, (partsOf l).length ≤ l.length := fun l => List.length_filter_le _ _
  cases h1 : inB a0 44032 55203
  · cases h2 : inB a0 192 8491
    · rw [partsN_out a0 h2 h1]; simp
    · rw [partsN_tabl a0 h2]; exact Nat.le_trans (hp _) (by simp)
  · have hb := inB_le h1
    rw [partsN_rest a0 (fun hc => by have := keys_bd a0 hc; omega), h1, if_pos rfl, ← han_parts a0 hb.1]; exact Nat.le_trans (hp _) (by simp)
theorem take1_le (c : Int) : take1 c ≠ [] ∧ (take1 c).length ≤ 3 := by
  unfold take1 takeBy
  split
  · simp
  · rename_i hne
    have e : (partsN c).flatMap (fun d => [d]) = partsN c := by simp
    rw [e]
    exact ⟨hne, partsN_le c⟩
theorem take1_ne (c : Int) : take1 c ≠ [] ∧ (take1 c).length ≤ 9 := ⟨(take1_le c).1, Nat.le_trans (take1_le c).2 (by decide)⟩
theorem takeN_ne (c : Int) : takeN c ≠ [] ∧ (takeN c).length ≤ 9 := by
  unfold takeN takeBy
  split
  · simp
  · rename_i hne
    constructor
    · intro hf
      cases hl : partsN c with
      | nil => exact hne hl
      | cons d ds =>
        rw [hl] at hf
        simp only [List.flatMap_cons, List.append_eq_nil_iff] at hf
        exact (take1_le d).1 hf.1
    · have hb : ∀ l : List Int, (l.flatMap take1).length ≤ 3 * l.length := fun l => by
        induction l with
        | nil => simp
        | cons d ds ih => simp only [List.flatMap_cons, List.length_append, List.length_cons]; have := (take1_le d).2; omega
      have := hb (partsN c)
      have := partsN_le c
      omega

end Go.Proofs.YtkgnlamlmnhleaaDoor
