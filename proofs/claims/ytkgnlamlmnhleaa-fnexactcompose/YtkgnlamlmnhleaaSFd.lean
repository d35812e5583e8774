/- Names: spec.Fold: its contract. -/
import Derived.Test.YtkgnlamlmnhleaaRows
import Derived.Test.YtkgnlamlmnhleaaSgn
import Derived.Test.YtkgnlamlmnhleaaTak
import Derived.Test.YtkgnlamlmnhleaaApt
namespace Go.Proofs.Ytkgnlamlmnhleaa
open Go.RowKit

theorem foldN_ne (c : Int) : foldN c ≠ [] ∧ (foldN c).length ≤ 2 := by
  unfold foldN
  repeat' split
  all_goals simp
theorem flat_len (f : Int → List Int) (b : Nat) (h : ∀ c, (f c).length ≤ b) (l : List Int) : (l.flatMap f).length ≤ b * l.length := by
  induction l with
  | nil => simp
  | cons c l ih =>
    rw [List.flatMap_cons, List.length_append, List.length_cons, Nat.mul_add]
    have := h c
    omega

end Go.Proofs.Ytkgnlamlmnhleaa
