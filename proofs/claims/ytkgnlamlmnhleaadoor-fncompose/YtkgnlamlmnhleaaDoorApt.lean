/- Names: taken apart, folded, and both: what they come to. No word of the program. -/
import Derived.Test.YtkgnlamlmnhleaaDoorRows
import Derived.Test.YtkgnlamlmnhleaaDoorSgn
import Derived.Test.YtkgnlamlmnhleaaDoorTak
import Derived.Test.YtkgnlamlmnhleaaDoorICls
import Derived.Test.YtkgnlamlmnhleaaDoorSrt
namespace Go.Proofs.YtkgnlamlmnhleaaDoor

def apartN (l : List Int) : List Int := srtN (l.flatMap takeN)
def foldsN (l : List Int) : List Int := l.flatMap foldN
def keyL (l : List Int) : List Int := apartN (foldsN (apartN l))

theorem take1_leaves (c d : Int) (h : ∀ e ∈ partsN c, partsN e = []) (hd : d ∈ take1 c) : partsN d = [] := by
  unfold take1 takeBy at hd
  split at hd
  · rename_i hp
    simp at hd; rw [hd]; exact hp
  · simp at hd; exact h d hd
theorem takeN_leaves (c d : Int) (hd : d ∈ takeN c) : partsN d = [] := by
  unfold takeN takeBy at hd
  split at hd
  · rename_i hp
    simp at hd; rw [hd]; exact hp
  · obtain ⟨e, he, hde⟩ := List.mem_flatMap.1 hd
    exact take1_leaves e d (fun x hx => parts_two c e x he hx) hde
theorem apartN_mem (l : List Int) (y : Int) : y ∈ apartN l ↔ ∃ c ∈ l, y ∈ takeN c := by
  unfold apartN srtN
  rw [List.mem_reverse, srtR_mem]
  simp
theorem apart_leaves (l : List Int) (y : Int) (h : y ∈ apartN l) : partsN y = [] := by
  obtain ⟨c, _, hy⟩ := (apartN_mem l y).1 h
  exact takeN_leaves c y hy
theorem flat_leaves (l : List Int) (h : ∀ y ∈ l, partsN y = []) : l.flatMap takeN = l := by
  induction l with
  | nil => rfl
  | cons y l ih =>
    rw [List.flatMap_cons, takeN_leaf y (h y (by simp)), ih (fun z hz => h z (by simp [hz]))]
    rfl
theorem apart_of_leaves (l : List Int) (h : ∀ y ∈ l, partsN y = []) : apartN l = srtN l := by
  unfold apartN; rw [flat_leaves l h]
theorem apart_idem (l : List Int) : apartN (apartN l) = apartN l := by
  rw [apart_of_leaves _ (apart_leaves l)]
  exact srtN_idem _
theorem apart_parts (a b : List Int) : apartN (apartN a ++ apartN b) = apartN (a ++ b) := by
  rw [apart_of_leaves _ (fun y hy => by
    rcases List.mem_append.1 hy with h | h
    · exact apart_leaves a y h
    · exact apart_leaves b y h)]
  unfold apartN
  rw [srtN_parts, List.flatMap_append]

theorem up_ranges : (∀ k : Nat, k < 26 → partsN (97 + (k : Int)) = [] ∧ foldN (97 + (k : Int)) = [97 + (k : Int)]) ∧ (∀ k : Nat, k < 17 → partsN (945 + (k : Int)) = [] ∧ foldN (945 + (k : Int)) = [945 + (k : Int)]) ∧
    (∀ k : Nat, k < 7 → partsN (963 + (k : Int)) = [] ∧ foldN (963 + (k : Int)) = [963 + (k : Int)]) ∧ (∀ k : Nat, k < 32 → partsN (1072 + (k : Int)) = [] ∧ foldN (1072 + (k : Int)) = [1072 + (k : Int)]) := by decide
theorem up_ones : ∀ y ∈ [230, 240, 248, 254, 115, 963], partsN y = [] ∧ foldN y = [y] := by decide

/-- what is folded is folded -/
theorem fold_fix (x y : Int) (hx : partsN x = []) (hy : y ∈ foldN x) : partsN y = [] ∧ foldN y = [y] := by
  obtain ⟨r1, r2, r3, r4⟩ := up_ranges
  by_cases hu : upB x = true
  · rw [foldN_up x hu] at hy
    simp only [List.mem_singleton] at hy
    subst hy
    simp only [upB, inB, amongB, foldL, Bool.or_eq_true, Bool.and_eq_true, decide_eq_true_eq, List.contains_cons, List.contains_nil, Bool.or_false, beq_iff_eq] at hu
    rcases hu with (((h | h) | h) | h) | h | h | h | h
    · have := r1 (x - 65).toNat (by omega)
      rwa [show (97 : Int) + ((x - 65).toNat : Int) = x + 32 by omega] at this
    · have := r2 (x - 913).toNat (by omega)
      rwa [show (945 : Int) + ((x - 913).toNat : Int) = x + 32 by omega] at this
    · have := r3 (x - 931).toNat (by omega)
      rwa [show (963 : Int) + ((x - 931).toNat : Int) = x + 32 by omega] at this
    · have := r4 (x - 1040).toNat (by omega)
      rwa [show (1072 : Int) + ((x - 1040).toNat : Int) = x + 32 by omega] at this
    · subst h; exact up_ones 230 (by decide)
    · subst h; exact up_ones 240 (by decide)
    · subst h; exact up_ones 248 (by decide)
    · subst h; exact up_ones 254 (by decide)
  · unfold foldN at hy
    rw [if_neg hu] at hy
    by_cases h1 : x = 223
    · rw [if_pos h1] at hy
      simp at hy
      subst hy; exact up_ones 115 (by decide)
    · rw [if_neg h1] at hy
      by_cases h2 : x = 962
      · rw [if_pos h2] at hy
        simp at hy
        subst hy; exact up_ones 963 (by decide)
      · rw [if_neg h2] at hy
        simp at hy
        subst hy
        refine ⟨hx, ?_⟩
        unfold foldN
        rw [if_neg hu, if_neg h1, if_neg h2]

theorem folds_fix (l : List Int) (h : ∀ y ∈ l, foldN y = [y]) : foldsN l = l := by
  unfold foldsN
  induction l with
  | nil => rfl
  | cons y l ih => rw [List.flatMap_cons, h y (by simp), ih (fun z hz => h z (by simp [hz]))]; rfl
theorem folds_mem (l : List Int) (y : Int) (hl : ∀ x ∈ l, partsN x = []) (hy : y ∈ foldsN l) : partsN y = [] ∧ foldN y = [y] := by
  obtain ⟨x, hx, hyx⟩ := List.mem_flatMap.1 hy
  exact fold_fix x y (hl x hx) hyx
/-- each sign of a key has no parts and is folded -/
theorem key_mem (l : List Int) (y : Int) (hy : y ∈ keyL l) : partsN y = [] ∧ foldN y = [y] := by
  obtain ⟨c, hc, hyc⟩ := (apartN_mem _ y).1 hy
  have hf := folds_mem (apartN l) c (apart_leaves l) hc
  rw [takeN_leaf c hf.1] at hyc
  simp at hyc
  subst hyc
  exact hf

theorem key_apart (l : List Int) : keyL (apartN l) = keyL l := by unfold keyL; rw [apart_idem]
theorem key_of_fixed (m : List Int) (h : ∀ y ∈ m, partsN y = [] ∧ foldN y = [y]) : keyL m = apartN m := by
  have e : foldsN (apartN m) = apartN m := folds_fix _ fun y hy => by
    obtain ⟨c, hc, hyc⟩ := (apartN_mem m y).1 hy
    rw [takeN_leaf c (h c hc).1] at hyc
    simp at hyc
    subst hyc
    exact (h _ hc).2
  unfold keyL
  rw [e, apart_idem]
theorem key_fold (l : List Int) : keyL (foldsN (apartN l)) = keyL l := key_of_fixed _ fun y hy => folds_mem _ y (apart_leaves l) hy
theorem key_key (l : List Int) : keyL (keyL l) = keyL l := by
  rw [key_of_fixed _ (key_mem l)]
  unfold keyL
  exact apart_idem _

end Go.Proofs.YtkgnlamlmnhleaaDoor
