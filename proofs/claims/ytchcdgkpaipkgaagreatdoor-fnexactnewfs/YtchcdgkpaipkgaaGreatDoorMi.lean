/- Names: a row behind a row; spec.l4Take, spec.Fold: what they answer. Names: taken apart, folded, and both: what they come to. No word of the program. Names: spec.l4Take and spec.Fold: their contracts. Names: spec.Fold: its contract. Names: spec.Apart: its contract. -/
import Derived.Test.YtchcdgkpaipkgaaGreatDoorRows
import Derived.Test.YtchcdgkpaipkgaaGreatDoorMa
import Derived.Test.YtchcdgkpaipkgaaGreatDoorMb
import Derived.Test.YtchcdgkpaipkgaaGreatDoorMc
import Derived.Test.YtchcdgkpaipkgaaGreatDoorMd
import Derived.Lib.QuietBelow
import Derived.BigQuiet
namespace Go.Proofs.YtchcdgkpaipkgaaGreatDoor

section
open Go.RowKit

/-- 'append(out, x...)', out a row of the call's own, x a row of integers that is not empty -/
theorem append_ints (w : World) {ops : Array Oper} {rest : List Oper} {o : Oper} {a : Act} {Q : Exit → Act → World → Prop} (hgd : o.guard = none) (s x : Operand)
    (ho : o.op = .call { callee := .builtin .append, args := #[s, x], argTypes := #[94, 94] }) (base : Nat)
    (v u : Value) (l m : List Int) (hm : m ≠ []) (hl : l.length + m.length ≤ 1099511627776) (hown : IntRow w base v l) (hu : IntsAt w u m) (hs : a.eval s = v) (hx : a.eval x = u)
    (hbase : base ≤ w.heap.size)
    (h : ∀ v' w', IntRow w' base v' (l ++ m) → Below base w w' → wpList Tryz.prog ops Q rest (a.put o.dst v') w') :
    wpList Tryz.prog ops Q (o :: rest) a w := by
  obtain ⟨i0, hi, hz0, hz1, hz2⟩ := info_parts Tryz.infoInt
  obtain ⟨ad, cap, rfl, hc⟩ := hu
  have hpos : 0 < m.length := List.length_pos_iff.2 hm
  obtain ⟨b, off, rfl, hb, _⟩ := hc 0 hpos
  have hcl : ∀ j y, (intsV m)[j]? = some y → w.cell? ((⟨b, off, none⟩ : Addr).add j) = some y := by
    intro j y hy
    have hj : j < m.length := by
      have := (List.getElem?_eq_some_iff.1 hy).1
      simpa [intsV] using this
    obtain ⟨b1, off1, e, _, hcj⟩ := hc j hj
    cases e
    rw [Addr.add_lit, hcj, ← hy, intsV_get m j hj]
  have hlen : (intsV m).length = m.length := by simp [intsV]
  refine wpList_append_own _ hgd s x 94 ho base 3 i0 (.int .i64 0) 1 8 Tryz.underlying94 hi hz0 hz1 hz2 rfl (by decide) v l.length (intsV l) hs hown ⟨b, off, none⟩ m.length cap (intsV m) hx (by rw [hlen]; omega) hcl ?_ (by unfold maxLen; omega) (by omega) hbase ?_
  · intro y hy
    simp only [intsV] at hy
    obtain ⟨z, _, rfl⟩ := List.mem_map.1 hy
    rfl
  · intro v' w' hown' hgrow _
    refine h v' w' ?_ ?_
    · unfold IntRow
      rw [intsV_append, List.length_append]
      exact hown'
    · refine (Below.refl base w).grown hgrow hbase ?_
      intro k hk
      exact (World.ownsRow.lt hown k hk).1

/-- what is left of c, taken apart: of its parts, by tk -/
def takeBy (tk : Int → List Int) (c : Int) : List Int := if partsN c = [] then [c] else (partsN c).flatMap tk


theorem flatMap_take (l : List Int) (tk : Int → List Int) (k : Nat) (h : k < l.length) : (l.take (k + 1)).flatMap tk = (l.take k).flatMap tk ++ tk (l.getD k 0) := by
  have e : l.take (k + 1) = l.take k ++ [l.getD k 0] := by
    rw [List.take_add_one, List.getElem?_eq_getElem h]; simp [List.getD, h]
  rw [e, List.flatMap_append]
  simp

/-! signs that are taken apart, and what they come to -/
theorem partsN_cases (c : Int) : (∃ j, j < 75 ∧ c = (pRow j).1) ∨ (44032 ≤ c ∧ c ≤ 55203 ∧ partsN c = hanN c) ∨ partsN c = [] := by
  by_cases h : c ∈ keysAll
  · left
    obtain ⟨x, hx, rfl⟩ := List.mem_map.1 h
    rw [pTab_range] at hx
    obtain ⟨j, hj, rfl⟩ := List.mem_map.1 hx
    exact ⟨j, List.mem_range.1 hj, rfl⟩
  · right
    cases h2 : inB c 44032 55203
    · right; rw [partsN_rest c h, h2]; rfl
    · left
      have hb := inB_le h2
      exact ⟨hb.1, hb.2, by rw [partsN_rest c h, h2]; rfl⟩
theorem keys_gap : ∀ x ∈ keysAll, x < 4352 ∨ 4546 < x := by decide
theorem partsN_jamo (d : Int) (h0 : 4352 ≤ d) (h1 : d ≤ 4546) : partsN d = [] := by
  rw [partsN_rest d (fun hd => by have := keys_gap d hd; omega), if_neg (by simp [inB]; omega)]
theorem hanN_bd (c d : Int) (h0 : 44032 ≤ c) (h1 : c ≤ 55203) (hd : d ∈ hanN c) : 4352 ≤ d ∧ d ≤ 4546 := by
  unfold hanN at hd
  split at hd
  · simp at hd; omega
  · simp at hd; omega
set_option maxRecDepth 100000 in
theorem rows_two : ∀ j, j < 75 → ∀ d ∈ partsN (pRow j).1, ∀ e ∈ partsN d, partsN e = [] := by decide
/-- parts of parts of parts there are none -/
theorem parts_two (c d e : Int) (hd : d ∈ partsN c) (he : e ∈ partsN d) : partsN e = [] := by
  rcases partsN_cases c with ⟨j, hj, rfl⟩ | ⟨h0, h1, hh⟩ | h
  · exact rows_two j hj d hd e he
  · rw [hh] at hd
    have hb := hanN_bd c d h0 h1 hd
    rw [partsN_jamo d hb.1 hb.2] at he
    cases he
  · rw [h] at hd; cases hd

def take1 (c : Int) : List Int := takeBy (fun d => [d]) c
def takeN (c : Int) : List Int := takeBy take1 c
theorem take1_leaf (c : Int) (h : partsN c = []) : take1 c = [c] := by unfold take1 takeBy; rw [if_pos h]
theorem takeN_leaf (c : Int) (h : partsN c = []) : takeN c = [c] := by unfold takeN takeBy; rw [if_pos h]
theorem partsN_le (a0 : Int) : (partsN a0).length ≤ 3 := by
  have hp : ∀ l : List Int, (partsOf l).length ≤ l.length := fun l => List.length_filter_le _ _
  cases h1 : inB a0 44032 55203
  · cases h2 : inB a0 192 8491
    · rw [partsN_out a0 h2 h1]; simp
    · rw [partsN_tabl a0 h2]; exact Nat.le_trans (hp _) (by simp)
  · have hb := inB_le h1
    rw [partsN_rest a0 (fun hc => by have := keys_bd a0 hc; omega), h1, if_pos rfl, ← han_parts a0 hb.1]; exact Nat.le_trans (hp _) (by simp)
theorem take1_le (c : Int) : take1 c ≠ [] ∧ (take1 c).length ≤ 3 := by
  unfold take1 takeBy
  split
  · simp
  · rename_i hne
    have e : (partsN c).flatMap (fun d => [d]) = partsN c := by simp
    rw [e]
    exact ⟨hne, partsN_le c⟩
theorem take1_ne (c : Int) : take1 c ≠ [] ∧ (take1 c).length ≤ 9 := ⟨(take1_le c).1, Nat.le_trans (take1_le c).2 (by decide)⟩
theorem takeN_ne (c : Int) : takeN c ≠ [] ∧ (takeN c).length ≤ 9 := by
  unfold takeN takeBy
  split
  · simp
  · rename_i hne
    constructor
    · intro hf
      cases hl : partsN c with
      | nil => exact hne hl
      | cons d ds =>
        rw [hl] at hf
        simp only [List.flatMap_cons, List.append_eq_nil_iff] at hf
        exact (take1_le d).1 hf.1
    · have hb : ∀ l : List Int, (l.flatMap take1).length ≤ 3 * l.length := fun l => by
        induction l with
        | nil => simp
        | cons d ds ih => simp only [List.flatMap_cons, List.length_append, List.length_cons]; have := (take1_le d).2; omega
      have := hb (partsN c)
      have := partsN_le c
      omega
end

section
def apartN (l : List Int) : List Int := srtN (l.flatMap takeN)
def foldsN (l : List Int) : List Int := l.flatMap foldN
def keyL (l : List Int) : List Int := apartN (foldsN (apartN l))

theorem take1_leaves (c d : Int) (h : ∀ e ∈ partsN c, partsN e = []) (hd : d ∈ take1 c) : partsN d = [] := by
  unfold take1 takeBy at hd
  split at hd
  · rename_i hp
    simp at hd; rw [hd]; exact hp
  · simp at hd; exact h d hd
theorem takeN_leaves (c d : Int) (hd : d ∈ takeN c) : partsN d = [] := by
  unfold takeN takeBy at hd
  split at hd
  · rename_i hp
    simp at hd; rw [hd]; exact hp
  · obtain ⟨e, he, hde⟩ := List.mem_flatMap.1 hd
    exact take1_leaves e d (fun x hx => parts_two c e x he hx) hde
theorem apartN_mem (l : List Int) (y : Int) : y ∈ apartN l ↔ ∃ c ∈ l, y ∈ takeN c := by
  unfold apartN srtN
  rw [List.mem_reverse, srtR_mem]
  simp
theorem apart_leaves (l : List Int) (y : Int) (h : y ∈ apartN l) : partsN y = [] := by
  obtain ⟨c, _, hy⟩ := (apartN_mem l y).1 h
  exact takeN_leaves c y hy
theorem flat_leaves (l : List Int) (h : ∀ y ∈ l, partsN y = []) : l.flatMap takeN = l := by
  induction l with
  | nil => rfl
  | cons y l ih =>
    rw [List.flatMap_cons, takeN_leaf y (h y (by simp)), ih (fun z hz => h z (by simp [hz]))]
    rfl
theorem apart_of_leaves (l : List Int) (h : ∀ y ∈ l, partsN y = []) : apartN l = srtN l := by
  unfold apartN; rw [flat_leaves l h]
theorem apart_idem (l : List Int) : apartN (apartN l) = apartN l := by
  rw [apart_of_leaves _ (apart_leaves l)]
  exact srtN_idem _
theorem apart_parts (a b : List Int) : apartN (apartN a ++ apartN b) = apartN (a ++ b) := by
  rw [apart_of_leaves _ (fun y hy => by
    rcases List.mem_append.1 hy with h | h
    · exact apart_leaves a y h
    · exact apart_leaves b y h)]
  unfold apartN
  rw [srtN_parts, List.flatMap_append]

theorem up_ranges : (∀ k : Nat, k < 26 → partsN (97 + (k : Int)) = [] ∧ foldN (97 + (k : Int)) = [97 + (k : Int)]) ∧ (∀ k : Nat, k < 17 → partsN (945 + (k : Int)) = [] ∧ foldN (945 + (k : Int)) = [945 + (k : Int)]) ∧
    (∀ k : Nat, k < 7 → partsN (963 + (k : Int)) = [] ∧ foldN (963 + (k : Int)) = [963 + (k : Int)]) ∧ (∀ k : Nat, k < 32 → partsN (1072 + (k : Int)) = [] ∧ foldN (1072 + (k : Int)) = [1072 + (k : Int)]) := by decide
theorem up_ones : ∀ y ∈ [230, 240, 248, 254, 115, 963], partsN y = [] ∧ foldN y = [y] := by decide

/-- what is folded is folded -/
theorem fold_fix (x y : Int) (hx : partsN x = []) (hy : y ∈ foldN x) : partsN y = [] ∧ foldN y = [y] := by
  obtain ⟨r1, r2, r3, r4⟩ := up_ranges
  by_cases hu : upB x = true
  · rw [foldN_up x hu] at hy
    simp only [List.mem_singleton] at hy
    subst hy
    simp only [upB, inB, amongB, foldL, Bool.or_eq_true, Bool.and_eq_true, decide_eq_true_eq, List.contains_cons, List.contains_nil, Bool.or_false, beq_iff_eq] at hu
    rcases hu with (((h | h) | h) | h) | h | h | h | h
    · have := r1 (x - 65).toNat (by omega)
      rwa [show (97 : Int) + ((x - 65).toNat : Int) = x + 32 by omega] at this
    · have := r2 (x - 913).toNat (by omega)
      rwa [show (945 : Int) + ((x - 913).toNat : Int) = x + 32 by omega] at this
    · have := r3 (x - 931).toNat (by omega)
      rwa [show (963 : Int) + ((x - 931).toNat : Int) = x + 32 by omega] at this
    · have := r4 (x - 1040).toNat (by omega)
      rwa [show (1072 : Int) + ((x - 1040).toNat : Int) = x + 32 by omega] at this
    · subst h; exact up_ones 230 (by decide)
    · subst h; exact up_ones 240 (by decide)
    · subst h; exact up_ones 248 (by decide)
    · subst h; exact up_ones 254 (by decide)
  · unfold foldN at hy
    rw [if_neg hu] at hy
    by_cases h1 : x = 223
    · rw [if_pos h1] at hy
      simp at hy
      subst hy; exact up_ones 115 (by decide)
    · rw [if_neg h1] at hy
      by_cases h2 : x = 962
      · rw [if_pos h2] at hy
        simp at hy
        subst hy; exact up_ones 963 (by decide)
      · rw [if_neg h2] at hy
        simp at hy
        subst hy
        refine ⟨hx, ?_⟩
        unfold foldN
        rw [if_neg hu, if_neg h1, if_neg h2]

theorem folds_fix (l : List Int) (h : ∀ y ∈ l, foldN y = [y]) : foldsN l = l := by
  unfold foldsN
  induction l with
  | nil => rfl
  | cons y l ih => rw [List.flatMap_cons, h y (by simp), ih (fun z hz => h z (by simp [hz]))]; rfl
theorem folds_mem (l : List Int) (y : Int) (hl : ∀ x ∈ l, partsN x = []) (hy : y ∈ foldsN l) : partsN y = [] ∧ foldN y = [y] := by
  obtain ⟨x, hx, hyx⟩ := List.mem_flatMap.1 hy
  exact fold_fix x y (hl x hx) hyx
/-- each sign of a key has no parts and is folded -/
theorem key_mem (l : List Int) (y : Int) (hy : y ∈ keyL l) : partsN y = [] ∧ foldN y = [y] := by
  obtain ⟨c, hc, hyc⟩ := (apartN_mem _ y).1 hy
  have hf := folds_mem (apartN l) c (apart_leaves l) hc
  rw [takeN_leaf c hf.1] at hyc
  simp at hyc
  subst hyc
  exact hf

theorem key_apart (l : List Int) : keyL (apartN l) = keyL l := by unfold keyL; rw [apart_idem]
theorem key_of_fixed (m : List Int) (h : ∀ y ∈ m, partsN y = [] ∧ foldN y = [y]) : keyL m = apartN m := by
  have e : foldsN (apartN m) = apartN m := folds_fix _ fun y hy => by
    obtain ⟨c, hc, hyc⟩ := (apartN_mem m y).1 hy
    rw [takeN_leaf c (h c hc).1] at hyc
    simp at hyc
    subst hyc
    exact (h _ hc).2
  unfold keyL
  rw [e, apart_idem]
theorem key_fold (l : List Int) : keyL (foldsN (apartN l)) = keyL l := key_of_fixed _ fun y hy => folds_mem _ y (apart_leaves l) hy
theorem key_key (l : List Int) : keyL (keyL l) = keyL l := by
  rw [key_of_fixed _ (key_mem l)]
  unfold keyL
  exact apart_idem _
end

section
open Go.RowKit
end

section
open Go.RowKit

theorem foldN_ne (c : Int) : foldN c ≠ [] ∧ (foldN c).length ≤ 2 := by
  unfold foldN
  repeat' split
  all_goals simp
theorem flat_len (f : Int → List Int) (b : Nat) (h : ∀ c, (f c).length ≤ b) (l : List Int) : (l.flatMap f).length ≤ b * l.length := by
  induction l with
  | nil => simp
  | cons c l ih =>
    rw [List.flatMap_cons, List.length_append, List.length_cons, Nat.mul_add]
    have := h c
    omega
end

section
open Go.RowKit Go.Sort

/-- two neighbours of a row change places -/
theorem row_swap {w : World} {base g cap n : Nat} {p : List Int} {z x : Int} {r : List Int} (h : w.ownsRow base 3 1 (.slice (some ⟨g, 0, none⟩) n cap) n (intsV (p ++ z :: x :: r))) :
    ((w.setCell ⟨g, p.length + 1, none⟩ (.int .i64 z)).setCell ⟨g, p.length, none⟩ (.int .i64 x)).ownsRow base 3 1 (.slice (some ⟨g, 0, none⟩) n cap) n (intsV (p ++ x :: z :: r)) := by
  have h1 := (h.stored (p.length + 1) (.int .i64 z)).1
  have h2 := (h1.stored p.length (.int .i64 x)).1
  have e : ((intsV (p ++ z :: x :: r)).set (p.length + 1) (.int .i64 z)).set p.length (.int .i64 x) = intsV (p ++ x :: z :: r) := by
    simp [intsV]
  rwa [e] at h2

theorem World.ownsRow.below' {w w' : World} {base : Nat} {v : Value} {n : Nat} {xs : List Value} (h : w.ownsRow base 3 1 v n xs) (b : Below w.heap.size w w') : w'.ownsRow base 3 1 v n xs := by
  rcases h.2 with ⟨rfl, h0⟩ | ⟨g, cap, cur, rfl, hg, hh, hnc, hcp, hcs, ht⟩
  · exact ⟨h.1, .inl ⟨rfl, h0⟩⟩
  · exact ⟨h.1, .inr ⟨g, cap, cur, rfl, hg, (b.block g (lt_of_block hh)).trans hh, hnc, hcp, hcs, ht⟩⟩

theorem srt_start (T : List Int) : (srtR [] (T.take 1)).reverse ++ T.drop 1 = T := by
  cases T with
  | nil => rfl
  | cons x T => rfl
theorem srt_next (T : List Int) (i : Nat) (h : i < T.length) : srtR [] (T.take (i + 1)) = insR (T.getD i 0) (srtR [] (T.take i)) := by
  have e : T.take (i + 1) = T.take i ++ [T.getD i 0] := by
    rw [List.take_add_one, List.getElem?_eq_getElem h]; simp [List.getD, h]
  rw [e, srtR_append]; rfl
theorem drop_next (T : List Int) (i : Nat) (h : i < T.length) : T.drop i = T.getD i 0 :: T.drop (i + 1) := by
  rw [List.drop_eq_getElem_cons h]; simp [List.getD, h]
end

end Go.Proofs.YtchcdgkpaipkgaaGreatDoor
