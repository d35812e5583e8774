/- Rows of flags: what laws' toBoolS, eqBoolS, markBoolS and heldBoolS do. Made by mkbool.py. -/
import Derived.Test.YtkbkanmmpdeokaaRows
import Derived.Test.YtkbkanmmpdeokaaBoR
import Derived.WalkKit
import Derived.WalkSpells
import Derived.WalkLawsBesides
import Derived.Deep.QuietTactic
import Derived.BigQuiet
import Derived.Deep.Onto
import Derived.Lib.QuietBelow
namespace Go.Proofs.Ytkbkanmmpdeokaa
open Go.RowKit Go.Sort


/-- the first j of l, then empty ones -/
def fillBo (j : Nat) (l : List Bool) : List Bool := l.take j ++ List.replicate (l.length - j) false
theorem fillBo_len (j : Nat) (l : List Bool) : (fillBo j l).length = l.length := by unfold fillBo; simp; omega
theorem fillBo_step (j : Nat) (l : List Bool) (h : j < l.length) : (fillBo j l).set j l[j]! = fillBo (j + 1) l := by
  have e : min j l.length = j := by omega
  unfold fillBo
  rw [List.set_append_right _ _ (by rw [List.length_take, e]; exact Nat.le_refl _), List.take_succ_eq_append_getElem h, getElem!_pos l j h, List.length_take, e, Nat.sub_self]
  rw [show l.length - j = (l.length - (j + 1)) + 1 by omega, List.replicate_succ, List.set_cons_zero, List.append_assoc]
  rfl
theorem flatBo_rep (n : Nat) : flatBo (List.replicate n false) = List.replicate n (.bool false) := by
  induction n with
  | zero => rfl
  | succ n ih => rw [List.replicate_succ, flatBo_cons, ih]; rfl

/-- 'make([]bool, n)', as the walk has it -/
theorem make_Bos {w1 w : World} {n : Nat} (h : w1.ownsRow w.heap.size 4 1 (.slice (some ⟨w.heap.size, 0, none⟩) n n) n (madeCells (Value.cells (.bool false)) (n * 1)).toList) : w1.ownsRow w.heap.size 4 1 (.slice (some ⟨w.heap.size, 0, none⟩) n n) n (flatBo (List.replicate n false)) := by
  rw [flatBo_rep, ← toList_madeCells_one]; simpa [Value.cells] using h


/-- the mark of number m -/
def mkBo (m : Nat) : Bool := decide (m % 3 = 0)
def marksBo (k : Nat) : Nat → List Bool
  | 0 => []
  | n + 1 => marksBo k n ++ [mkBo (k + 1 * n)]
theorem marksBo_len (k n : Nat) : (marksBo k n).length = n := by
  induction n with
  | zero => rfl
  | succ n ih => simp [marksBo, ih]
def markdBo (k j : Nat) (l : List Bool) : List Bool := marksBo k j ++ l.drop j
theorem markdBo_len {k j : Nat} {l : List Bool} (h : j ≤ l.length) : (markdBo k j l).length = l.length := by
  simp [markdBo, marksBo_len]; omega
theorem markdBo_step {k j : Nat} {l : List Bool} (h : j < l.length) : (markdBo k j l).set j (mkBo (k + 1 * j)) = markdBo k (j + 1) l := by
  unfold markdBo
  rw [List.set_append_right _ _ (by rw [marksBo_len]; exact Nat.le_refl _), marksBo_len, Nat.sub_self, List.drop_eq_getElem_cons h, List.set_cons_zero]
  simp [marksBo]
theorem markdBo_all (k : Nat) (l : List Bool) : markdBo k l.length l = marksBo k l.length := by simp [markdBo]
theorem marksBo_get (k n t : Nat) (h : t < n) : (marksBo k n)[t]! = mkBo (k + 1 * t) := by
  induction n with
  | zero => omega
  | succ n ih =>
    rw [getElem!_pos _ _ (by rw [marksBo_len]; exact h)]
    simp only [marksBo]
    by_cases ht : t < n
    · rw [List.getElem_append_left (by rw [marksBo_len]; exact ht), ← ih ht, getElem!_pos _ _ (by rw [marksBo_len]; exact ht)]
    · obtain rfl : t = n := by omega
      rw [List.getElem_append_right (by rw [marksBo_len]; exact Nat.le_refl _)]
      simp [marksBo_len]
theorem mkBo_rem (m : Nat) : ((m : Int) % 3 == 0) = mkBo m := by
  unfold mkBo
  rw [Bool.eq_iff_iff, beq_iff_eq, decide_eq_true_eq]
  omega


end Go.Proofs.Ytkbkanmmpdeokaa
