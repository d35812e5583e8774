/- Signs: impl.between, impl.Class, impl.FoldOf, impl.isSign: what they answer. -/
import Derived.Test.YtkgnlamlmnhleaaRows
import Derived.Test.YtkgnlamlmnhleaaSgn
import Derived.Test.YtkgnlamlmnhleaaIBtw
import Derived.WalkKit
import Derived.WalkSpells
import Derived.WalkLawsBesides
namespace Go.Proofs.Ytkgnlamlmnhleaa
open Go.RowKit


set_option maxRecDepth 100000 in
theorem iClass (c : Int) (w : World) :
    Calls Try.prog 26 #[.int .i64 c] w fun e w' => e = .returned (.int .i64 (clsN c)) ∧ Below w.heap.size w w' := by
  by_cases h : c ∈ [768, 769, 770, 771, 772, 776, 778, 803, 807]
  · simp at h
    rcases h with rfl | rfl | rfl | rfl | rfl | rfl | rfl | rfl | rfl <;>
    · go_enter Try.func26, Try.ntmps26
      go_wp2
      go_ret
      exact ⟨rfl, Below.refl _ _⟩
  · have HR : Hid (clsN c = 0) := by
      show clsN c = 0
      simp at h
      simp [clsN, amongB, clsL, h]
    simp at h
    obtain ⟨h1, h2, h3, h4, h5, h6, h7, h8, h9⟩ := h
    generalize clsN c = r at HR ⊢
    go_enter Try.func26, Try.ntmps26
    go_wp2
    go_ret
    exact ⟨ret_int HR.out.symm, Below.refl _ _⟩

theorem foldN_up (c : Int) (h : upB c = true) : foldN c = [c + 32] := by unfold foldN; rw [h]; rfl
theorem upB_among (c : Int) (h : c = 198 ∨ c = 208 ∨ c = 216 ∨ c = 222) : upB c = true := by
  rcases h with rfl | rfl | rfl | rfl <;> rfl

end Go.Proofs.Ytkgnlamlmnhleaa
