/- Texts that are too long: impl.tooLong; slices.ContainsFunc of it. -/
import Derived.Test.YtfdahfealibbnaaDoorRows
import Derived.Test.YtfdahfealibbnaaDoorStS
import Derived.Deep.RegionHeld3
namespace Go.Proofs.YtfdahfealibbnaaDoor
open Go.RowKit Go.Sort

set_option maxRecDepth 100000 in
theorem fit_one (s : ByteArray) (w : World) : Calls Tryd.prog 30 #[.string s] w fun e w' => e = .returned (.bool (decide (4000 < s.size))) ∧ w = w' := by
  go_enter Tryd.func30, Tryd.ntmps30
  go_wp2
  go_ret
  exact ⟨ret_bool (by simp; omega), rfl⟩

end Go.Proofs.YtfdahfealibbnaaDoor
