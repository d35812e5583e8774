/- What spec.Dec and impl.Dec answer. -/
import Derived.Test.YtfpbdalkjhcbgaaRows
import Derived.Test.YtfpbdalkjhcbgaaOwn
import Derived.Test.YtfpbdalkjhcbgaaDcNum
import Derived.WalkKit
import Derived.WalkSpells
import Derived.WalkLawsBesides
namespace Go.Proofs.Ytfpbdalkjhcbgaa
open Go.RowKit

theorem str_cons (b : UInt8) (l : List UInt8) : Value.string ((⟨#[b]⟩ : ByteArray) ++ ⟨l.toArray⟩) = Value.string ⟨(b :: l).toArray⟩ := by
  congr 1

/-- where spec.Dec's loop stands: a is left, l is made -/
def Half (D : List UInt8) (a : Nat) (l : List UInt8) : Prop := (a = 0 ∧ l = D) ∨ (a ≠ 0 ∧ ∃ f, fits10 f a ∧ dp f a ++ l = D)

theorem Half_step (D : List UInt8) (a : Nat) (l : List UInt8) (h : Half D a l) (ha : a ≠ 0) : Half D (a / 10) (dig a :: l) := by
  rcases h with ⟨h, _⟩ | ⟨_, f, hf, hd⟩
  · exact absurd h ha
  · by_cases h10 : a < 10
    · refine Or.inl ⟨by omega, ?_⟩
      rw [dp_small f a h10] at hd; exact hd
    · obtain ⟨g, rfl, hg⟩ := fits10_step f a hf (by omega)
      refine Or.inr ⟨by omega, g, hg, ?_⟩
      rw [dp_great g a (by omega), List.append_assoc] at hd; exact hd

end Go.Proofs.Ytfpbdalkjhcbgaa
