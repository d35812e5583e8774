/- strings.Clone. -/
import Derived.Test.YtfdahfealibbnaaDoorRows
import Derived.Test.YtfdahfealibbnaaDoorShC
import Derived.WalkKit
import Derived.WalkSpells
import Derived.WalkLawsBesides
namespace Go.Proofs.YtfdahfealibbnaaDoor
open Go.RowKit

theorem clone_text (s : ByteArray) (w : World) (hs : s.size ≤ 1048576) : Calls Tryd.prog 67 #[.string s] w fun e w' => e = .returned (.string s) ∧ Below w.heap.size w w' := by
  have H := fun w' => Any.stringslite_Clone Tryd.laysM316 s w' (by omega)
  have H : ∀ w', Calls Tryd.prog 68 #[.string s] w' fun e w'' => e = .returned (.string s) ∧ Below w'.heap.size w' w'' := H
  go_enter Tryd.func67, Tryd.ntmps67
  go_wp2_with (go_at_call 68; refine (H _).mono ?_; rintro e w1 ⟨rfl, b1⟩)
  go_ret
  exact ⟨rfl, b1⟩

end Go.Proofs.YtfdahfealibbnaaDoor
