/- Names: marks in order: what the sorting by insertion comes to. No word of the program. -/
import Derived.Test.YtkgnlamlmnhleaaDoorRows
import Derived.Test.YtkgnlamlmnhleaaDoorSgn
namespace Go.Proofs.YtkgnlamlmnhleaaDoor

/-- does x go past z, which stands ahead of it? -/
def past (x z : Int) : Prop := 0 < clsN x ∧ clsN x < clsN z

/-- x goes into a row that stands backward -/
def insR (x : Int) : List Int → List Int
  | [] => [x]
  | z :: p => if 0 < clsN x ∧ clsN x < clsN z then z :: insR x p else x :: z :: p
theorem insR_pos {x z : Int} (h : past x z) (p : List Int) : insR x (z :: p) = z :: insR x p := if_pos h
theorem insR_neg {x z : Int} (h : ¬ past x z) (p : List Int) : insR x (z :: p) = x :: z :: p := if_neg h
def srtR (r : List Int) (l : List Int) : List Int := l.foldl (fun r x => insR x r) r
def srtN (l : List Int) : List Int := (srtR [] l).reverse

/-- a row that stands backward, in order -/
def okR : List Int → Prop
  | [] => True
  | [_] => True
  | y :: z :: p => ¬ past y z ∧ okR (z :: p)

theorem insR_len (x : Int) : ∀ r, (insR x r).length = r.length + 1
  | [] => rfl
  | z :: p => by
    by_cases hp : past x z
    · rw [insR_pos hp]; simp [insR_len x p]
    · rw [insR_neg hp]; rfl
theorem insR_mem (x : Int) : ∀ r y, y ∈ insR x r ↔ y = x ∨ y ∈ r
  | [], y => by simp [insR]
  | z :: p, y => by
    by_cases hp : past x z
    · rw [insR_pos hp, List.mem_cons, insR_mem x p y, List.mem_cons]; constructor <;> (intro h; rcases h with h | h | h <;> simp [h])
    · rw [insR_neg hp]; simp
theorem insR_ok (x : Int) : ∀ r, okR r → okR (insR x r)
  | [], _ => trivial
  | z :: p, h => by
    by_cases hp : past x z
    · rw [insR_pos hp]
      have hi : okR (insR x p) := insR_ok x p (by cases p with | nil => trivial | cons a b => exact h.2)
      cases p with
      | nil =>
        refine ⟨?_, trivial⟩
        unfold past at hp ⊢; omega
      | cons a b =>
        have h1 : ¬ past z a := h.1
        by_cases hq : past x a
        · rw [insR_pos hq] at hi ⊢
          exact ⟨h1, hi⟩
        · rw [insR_neg hq] at hi ⊢
          exact ⟨by unfold past at hp ⊢; omega, hi⟩
    · rw [insR_neg hp]
      exact ⟨hp, h⟩
theorem srtR_ok (l : List Int) : ∀ r, okR r → okR (srtR r l) := by
  induction l with
  | nil => intro r h; exact h
  | cons x l ih => intro r h; exact ih _ (insR_ok x r h)
theorem srtR_append (r a b : List Int) : srtR r (a ++ b) = srtR (srtR r a) b := by unfold srtR; rw [List.foldl_append]
theorem srtR_len (l : List Int) : ∀ r, (srtR r l).length = r.length + l.length := by
  induction l with
  | nil => intro r; rfl
  | cons x l ih => intro r; show (srtR (insR x r) l).length = _; rw [ih, insR_len]; simp; omega
theorem srtR_mem (l : List Int) : ∀ r y, y ∈ srtR r l ↔ y ∈ r ∨ y ∈ l := by
  induction l with
  | nil => intro r y; simp [srtR]
  | cons x l ih =>
    intro r y
    show y ∈ srtR (insR x r) l ↔ _
    rw [ih, insR_mem]
    simp only [List.mem_cons]
    constructor
    · rintro ((h | h) | h) <;> simp [h]
    · rintro (h | h | h) <;> simp [h]

/-- what is in order stays -/
theorem srtR_self : ∀ r, okR r → srtR [] r.reverse = r
  | [], _ => rfl
  | [x], _ => rfl
  | y :: z :: p, h => by
    have ih := srtR_self (z :: p) h.2
    rw [List.reverse_cons, srtR_append, ih]
    show insR y (z :: p) = _
    rw [insR_neg h.1]
theorem srtN_idem (l : List Int) : srtN (srtN l) = srtN l := by
  unfold srtN
  rw [srtR_self _ (srtR_ok l [] trivial)]

/-- two that stand out of order: which of them comes first is all one -/
theorem insR_swap (x y : Int) (h : past y x) : ∀ r, insR y (insR x r) = insR x (insR y r)
  | [] => by
    have hn : ¬ past x y := by unfold past at h ⊢; omega
    show insR y [x] = insR x [y]
    rw [insR_pos h, insR_neg hn]
    rfl
  | z :: p => by
    have hn : ¬ past x y := by unfold past at h ⊢; omega
    by_cases hx : past x z
    · have hy : past y z := by unfold past at h hx ⊢; omega
      rw [insR_pos hx, insR_pos hy, insR_pos hy, insR_pos hx, insR_swap x y h p]
    · by_cases hy : past y z
      · rw [insR_neg hx, insR_pos h, insR_pos hy, insR_neg hx]
      · rw [insR_neg hx, insR_pos h, insR_neg hy, insR_neg hn]
theorem srtR_ins (x : Int) : ∀ s r, srtR r (insR x s).reverse = srtR r (s.reverse ++ [x])
  | [], r => rfl
  | z :: p, r => by
    by_cases hp : past x z
    · rw [insR_pos hp, List.reverse_cons, List.reverse_cons, srtR_append, srtR_ins x p r, srtR_append, srtR_append, srtR_append]
      show insR z (insR x (srtR r p.reverse)) = insR x (insR z (srtR r p.reverse))
      exact (insR_swap z x hp _).symm
    · rw [insR_neg hp, List.reverse_cons]
theorem srtR_srt (b : List Int) : ∀ s r, srtR r (srtR s b).reverse = srtR r (s.reverse ++ b) := by
  induction b with
  | nil => intro s r; simp [srtR]
  | cons x b ih =>
    intro s r
    show srtR r (srtR (insR x s) b).reverse = _
    rw [ih, srtR_append, srtR_ins x s r, ← srtR_append, List.append_assoc]
    rfl
/-- what is in order, put side by side and put in order -/
theorem srtN_parts (a b : List Int) : srtN (srtN a ++ srtN b) = srtN (a ++ b) := by
  unfold srtN
  rw [srtR_append, srtR_self _ (srtR_ok a [] trivial), srtR_srt b [] _]
  show (srtR (srtR [] a) b).reverse = _
  rw [srtR_append]

/-- side by side, forward -/
theorem okR_at : ∀ r, okR r → ∀ i, i + 1 < r.length → ¬ past (r.getD i 0) (r.getD (i + 1) 0)
  | [], _, i, hi => by simp at hi
  | [_], _, i, hi => by simp at hi
  | y :: z :: p, h, 0, _ => h.1
  | y :: z :: p, h, i + 1, hi => by
    have := okR_at (z :: p) h.2 i (by simpa using hi)
    simpa using this

end Go.Proofs.YtkgnlamlmnhleaaDoor
