/- Names: marks between two letters, put in order by themselves: what that comes to. No word of the program. -/
import Derived.Test.YtkgnlamlmnhleaaDoorRows
import Derived.Test.YtkgnlamlmnhleaaDoorSrt
import Derived.Test.YtkgnlamlmnhleaaDoorStb
namespace Go.Proofs.YtkgnlamlmnhleaaDoor

def markB (c : Int) : Prop := 0 < clsN c
/-- nothing goes past the end of what stands there -/
def shutR : List Int → Prop
  | [] => True
  | z :: _ => ¬ markB z

theorem insR_over (x : Int) (r : List Int) (hr : shutR r) : ∀ s, insR x (s ++ r) = insR x s ++ r
  | [] => by
    cases r with
    | nil => rfl
    | cons z p =>
      have : ¬ past x z := by
        have hz : ¬ 0 < clsN z := hr
        unfold past; omega
      show insR x (z :: p) = [x] ++ z :: p
      rw [insR_neg this]; rfl
  | z :: s => by
    by_cases hp : past x z
    · show insR x (z :: (s ++ r)) = _
      rw [insR_pos hp, insR_pos hp, insR_over x r hr s]; rfl
    · show insR x (z :: (s ++ r)) = _
      rw [insR_neg hp, insR_neg hp]; rfl
theorem srtR_over (r : List Int) (hr : shutR r) : ∀ (M s : List Int), srtR (s ++ r) M = srtR s M ++ r
  | [], s => rfl
  | x :: M, s => by
    show srtR (insR x (s ++ r)) M = srtR (insR x s) M ++ r
    rw [insR_over x r hr s, srtR_over r hr M]
theorem srtN_over (A M : List Int) (hA : shutR (srtR [] A)) : srtN (A ++ M) = srtN A ++ srtN M := by
  unfold srtN
  rw [srtR_append]
  have := srtR_over (srtR [] A) hA M []
  rw [List.nil_append] at this
  rw [this, List.reverse_append]
theorem srtR_letter (A : List Int) (c : Int) (hc : ¬ markB c) : srtR [] (A ++ [c]) = c :: srtR [] A := by
  rw [srtR_append]
  show insR c (srtR [] A) = _
  cases h : srtR [] A with
  | nil => rfl
  | cons z p =>
    rw [insR_neg]
    intro hp
    exact hc hp.1
theorem srtN_letter (A : List Int) (c : Int) (hc : ¬ markB c) : srtN (A ++ [c]) = srtN A ++ [c] := by
  unfold srtN
  rw [srtR_letter A c hc]; simp
theorem shut_letter (A : List Int) (c : Int) (hc : ¬ markB c) : shutR (srtR [] (A ++ [c])) := by
  rw [srtR_letter A c hc]; exact hc

theorem insR_filter (x k : Int) : ∀ r, (insR x r).filter (fun y => clsN y == k) = (x :: r).filter (fun y => clsN y == k)
  | [] => rfl
  | z :: p => by
    by_cases hp : past x z
    · rw [insR_pos hp]
      have ih := insR_filter x k p
      have hlt : clsN x < clsN z := hp.2
      by_cases hx : clsN x = k
      · have hz : ¬ clsN z = k := by omega
        rw [List.filter_cons_of_neg (by simpa using hz), ih, List.filter_cons_of_pos (by simpa using hx), List.filter_cons_of_pos (by simpa using hx), List.filter_cons_of_neg (by simpa using hz)]
      · rw [List.filter_cons_of_neg (a := x) (by simpa using hx)] at ih ⊢
        rw [List.filter_cons, List.filter_cons, ih]
    · rw [insR_neg hp]
theorem srtR_filter (k : Int) : ∀ (M r : List Int), (srtR r M).filter (fun y => clsN y == k) = (M.reverse ++ r).filter (fun y => clsN y == k)
  | [], r => rfl
  | x :: M, r => by
    show (srtR (insR x r) M).filter _ = _
    rw [srtR_filter k M, List.filter_append, insR_filter, ← List.filter_append]
    simp
theorem srtN_filter (M : List Int) (k : Int) : (srtN M).filter (fun y => clsN y == k) = M.filter (fun y => clsN y == k) := by
  unfold srtN
  rw [List.filter_reverse, srtR_filter k M []]
  simp [← List.filter_reverse]
theorem okR_le : ∀ (r : List Int), okR r → (∀ y ∈ r, markB y) → r.Pairwise (fun x y => clsN y ≤ clsN x)
  | [], _, _ => List.Pairwise.nil
  | [x], _, _ => by simp
  | y :: z :: p, h, hm => by
    have ih := okR_le (z :: p) h.2 (fun u hu => hm u (by simp [hu]))
    refine List.pairwise_cons.2 ⟨fun u hu => ?_, ih⟩
    have h1 : clsN z ≤ clsN y := by
      have h2 : 0 < clsN y := hm y (by simp)
      have h3 := h.1
      unfold past at h3
      omega
    rcases List.mem_cons.1 hu with e | e
    · rw [e]; exact h1
    · have := (List.pairwise_cons.1 ih).1 u e
      omega
theorem srtN_sorted (M : List Int) (hm : ∀ y ∈ M, markB y) : SrtL clsN (srtN M) := by
  have h := okR_le (srtR [] M) (srtR_ok M [] trivial) (fun y hy => by
    rcases (srtR_mem M [] y).1 hy with h | h
    · cases h
    · exact hm y h)
  unfold SrtL srtN
  rw [List.pairwise_reverse]
  exact h
/-- the one way to put marks in order -/
theorem marks_one (M Z : List Int) (hm : ∀ y ∈ M, markB y) (hs : SrtL clsN Z) (h : ∀ k : Int, Z.filter (fun y => clsN y == k) = M.filter (fun y => clsN y == k)) : Z = srtN M :=
  srtL_same clsN Z (srtN M) hs (srtN_sorted M hm) fun k => by rw [h k, srtN_filter]

/-- how far the marks are in order: the first f as they come to be, the others as they were -/
structure Upto (x : List Int) (i f : Nat) (y : List Int) : Prop where
  row : y = srtN (x.take f) ++ x.drop f
  shut : shutR (srtR [] (x.take f))
  marks : ∀ t, f ≤ t → t < i → markB (x.getD t 0)
  le : f ≤ i
theorem Upto.start (x : List Int) : Upto x 0 0 x := ⟨by simp [srtN, srtR], trivial, fun t h1 h2 => by omega, Nat.le_refl _⟩
theorem Upto.mark {x y : List Int} {i f : Nat} (h : Upto x i f y) (hm : markB (x.getD i 0)) : Upto x (i + 1) f y :=
  ⟨h.row, h.shut, fun t h1 h2 => by
    by_cases ht : t = i
    · rw [ht]; exact hm
    · exact h.marks t h1 (by omega), by have := h.le; omega⟩
theorem Upto.mid_marks {x y : List Int} {i f : Nat} (h : Upto x i f y) (hi : i ≤ x.length) : ∀ c ∈ (x.drop f).take (i - f), markB c := by
  intro c hc
  obtain ⟨t, ht, rfl⟩ := List.mem_iff_getElem.1 hc
  have ht' : t < i - f := by have := ht; simp at this; omega
  have := h.marks (f + t) (by omega) (by omega)
  rw [List.getElem_take, List.getElem_drop]
  simpa [List.getD, show f + t < x.length by omega] using this
theorem Upto.split {x y : List Int} {i f : Nat} (h : Upto x i f y) : y = srtN (x.take f) ++ ((x.drop f).take (i - f) ++ x.drop i) := by
  rw [h.row]
  congr 1
  rw [show x.drop i = (x.drop f).drop (i - f) by rw [List.drop_drop]; congr 1; have := h.le; omega, List.take_append_drop]
theorem Upto.take_i {x y : List Int} {i f : Nat} (h : Upto x i f y) : x.take i = x.take f ++ (x.drop f).take (i - f) := by
  have := h.le
  rw [show i = f + (i - f) by omega, List.take_add]
  congr 2; omega
/-- a letter: what is ahead of it is put in order -/
theorem Upto.letter {x y Z : List Int} {i f : Nat} (h : Upto x i f y) (hi : i < x.length) (hl : ¬ markB (x.getD i 0)) (hZ : Z = srtN ((x.drop f).take (i - f))) :
    Upto x (i + 1) (i + 1) (srtN (x.take f) ++ (Z ++ x.drop i)) := by
  have e1 : x.take (i + 1) = x.take i ++ [x.getD i 0] := by
    rw [List.take_add_one, List.getElem?_eq_getElem hi]; simp [List.getD, hi]
  refine ⟨?_, by rw [e1]; exact shut_letter _ _ hl, fun t h1 h2 => by omega, Nat.le_refl _⟩
  rw [e1, srtN_letter _ _ hl, h.take_i, srtN_over _ _ h.shut, ← hZ]
  have e2 : x.drop i = x.getD i 0 :: x.drop (i + 1) := by
    rw [List.drop_eq_getElem_cons hi]; simp [List.getD, hi]
  rw [e2]; simp
theorem Upto.last {x y Z : List Int} {f : Nat} (h : Upto x x.length f y) (hZ : Z = srtN (x.drop f)) : srtN (x.take f) ++ Z = srtN x := by
  rw [hZ, ← srtN_over _ _ h.shut, List.take_append_drop]

end Go.Proofs.YtkgnlamlmnhleaaDoor
