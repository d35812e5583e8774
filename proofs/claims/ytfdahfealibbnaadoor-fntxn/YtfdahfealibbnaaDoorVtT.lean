/- The texts of numbers and of pieces. Pure. -/
import Derived.Test.YtfdahfealibbnaaDoorRows
import Derived.Test.YtfdahfealibbnaaDoorVarNum
namespace Go.Proofs.YtfdahfealibbnaaDoor
open Go.RowKit

theorem varL_le7 : ∀ (f : Nat) (n : Int), (varL f n).length ≤ f + 1
  | 0, n => by simp [varL]
  | f + 1, n => by
    unfold varL
    split
    · simp
    · have := varL_le7 f (n / 128); simp; omega
/-- the text of a number -/
def varT (n : Int) : ByteArray := if inB n 0 562949953421311 = true then ⟨(varL 6 n).toArray⟩ else ⟨#[]⟩
theorem varT_size (n : Int) : (varT n).size ≤ 7 := by
  unfold varT
  split
  · have := varL_le7 6 n; simpa [ByteArray.size] using this
  · simp [ByteArray.size]
theorem app_assoc (a b c : ByteArray) : a ++ b ++ c = a ++ (b ++ c) := list_ext (by simp)
theorem app_nil (a : ByteArray) : a ++ (⟨#[]⟩ : ByteArray) = a := list_ext (by simp)
theorem app_size (a b : ByteArray) : (a ++ b).size = a.size + b.size := by simp
def pieceT (s : ByteArray) : ByteArray := varT s.size ++ s
theorem pieceT_size (s : ByteArray) : (pieceT s).size ≤ 7 + s.size := by
  unfold pieceT; rw [app_size]; have := varT_size s.size; omega

end Go.Proofs.YtfdahfealibbnaaDoor
