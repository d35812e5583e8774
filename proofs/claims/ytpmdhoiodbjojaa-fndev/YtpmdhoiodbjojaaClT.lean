/- strings.Clone. -/
import Derived.Test.YtpmdhoiodbjojaaRows
import Derived.Test.YtpmdhoiodbjojaaShC
import Derived.WalkKit
import Derived.WalkSpells
import Derived.WalkLawsBesides
namespace Go.Proofs.Ytpmdhoiodbjojaa
open Go.RowKit

theorem clone_text (s : ByteArray) (w : World) (hs : s.size ≤ 1048576) : Calls Try.prog 63 #[.string s] w fun e w' => e = .returned (.string s) ∧ Below w.heap.size w w' := by
  have H := fun w' => Any.stringslite_Clone Try.laysM316 s w' (by omega)
  have H : ∀ w', Calls Try.prog 67 #[.string s] w' fun e w'' => e = .returned (.string s) ∧ Below w'.heap.size w' w'' := H
  go_enter Try.func63, Try.ntmps63
  go_wp2_with (go_at_call 67; refine (H _).mono ?_; rintro e w1 ⟨rfl, b1⟩)
  go_ret
  exact ⟨rfl, b1⟩

end Go.Proofs.Ytpmdhoiodbjojaa
