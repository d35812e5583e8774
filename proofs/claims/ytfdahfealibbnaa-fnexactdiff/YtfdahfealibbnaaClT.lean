/- strings.Clone. -/
import Derived.Test.YtfdahfealibbnaaRows
import Derived.Test.YtfdahfealibbnaaShC
import Derived.WalkKit
import Derived.WalkSpells
import Derived.WalkLawsBesides
namespace Go.Proofs.Ytfdahfealibbnaa
open Go.RowKit

theorem clone_text (s : ByteArray) (w : World) (hs : s.size ≤ 1048576) : Calls Try.prog 13 #[.string s] w fun e w' => e = .returned (.string s) ∧ Below w.heap.size w w' := by
  have H := fun w' => Any.stringslite_Clone Try.laysM316 s w' (by omega)
  have H : ∀ w', Calls Try.prog 16 #[.string s] w' fun e w'' => e = .returned (.string s) ∧ Below w'.heap.size w' w'' := H
  go_enter Try.func13, Try.ntmps13
  go_wp2_with (go_at_call 16; refine (H _).mono ?_; rintro e w1 ⟨rfl, b1⟩)
  go_ret
  exact ⟨rfl, b1⟩

end Go.Proofs.Ytfdahfealibbnaa
