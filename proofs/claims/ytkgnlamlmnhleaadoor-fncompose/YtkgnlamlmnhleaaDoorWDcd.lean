/- The walk of an exact law of chapter 3, over whatever contract of the program's function holds in every world that has the old blocks of the first. -/
import Derived.Test.YtkgnlamlmnhleaaDoorRows
import Derived.Test.YtkgnlamlmnhleaaDoorDcd
import Derived.Test.YtkgnlamlmnhleaaDoorWRow
import Derived.WalkKit
import Derived.WalkSpells
import Derived.WalkLawsBesides
namespace Go.Proofs.YtkgnlamlmnhleaaDoor
open Go.RowKit

theorem decF_len (s : ByteArray) : ∀ (f k : Nat) (l : List Int), decF s f k = some l → l.length ≤ s.size - k := by
  intro f
  induction f with
  | zero => intro k l h; cases h
  | succ f ih =>
    intro k l h
    by_cases hk : k < s.size
    · by_cases h0 : oneL s k = 0
      · rw [decF_bad s f k hk h0] at h; cases h
      · rw [decF_step s f k hk h0] at h
        obtain ⟨m, hm, rfl⟩ := Option.map_eq_some_iff.1 h
        have := ih _ m hm
        simp; omega
    · rw [decF_end s f k hk] at h; cases h; simp
theorem decN_len (s : ByteArray) : ((decN s).getD []).length ≤ s.size := by
  cases h : decN s with
  | none => simp
  | some l => have := decF_len s _ _ l h; simp; omega

end Go.Proofs.YtkgnlamlmnhleaaDoor
