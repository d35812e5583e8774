/- impl: Var and pieceOf as texts. -/
import Derived.Test.YtfdahfealibbnaaDoorRows
import Derived.Test.YtfdahfealibbnaaDoorVtT
import Derived.Test.YtfdahfealibbnaaDoorVr
import Derived.Test.YtfdahfealibbnaaDoorSgn
import Derived.Deep.QuietTactic
import Derived.BigQuiet
import Derived.Lib.QuietBelow
namespace Go.Proofs.YtfdahfealibbnaaDoor
open Go.RowKit Go.Sort

theorem iVarT (n : Int) (w : World) : Calls Tryd.prog 27 #[.int .i64 n] w fun e w' => e = .returned (.string (varT n)) ∧ Below w.heap.size w w' := by
  unfold varT
  cases h : inB n 0 562949953421311 with
  | false => exact (iVar_no n w h).mono fun e w' h => ⟨h.1, by rw [← h.2]; exact Below.refl _ _⟩
  | true => exact (iVar_yes n w h).mono fun e w' h => h

theorem iVarT_re (n : Int) (w : World) (dd : Nat) (os : Array Obj) : Calls Tryd.prog 27 #[.int .i64 n] (grow (redrawn w dd) os) fun e w'' => e = .returned (.string (varT n)) ∧ ∃ p : Regrown, w'' = grow (redrawn w p.d) p.os := Calls.regrown_of (iVarT n _)

set_option maxRecDepth 100000 in
set_option maxHeartbeats 1000000 in
theorem iPiece (s : ByteArray) (w : World) (hs : s.size ≤ 1048576) : Calls Tryd.prog 85 #[.string s] w fun e w' => e = .returned (.string (pieceT s)) ∧ Below w.heap.size w w' := by
  unfold pieceT
  have HV := fun w' => iVarT s.size w'
  have hz := varT_size s.size
  generalize varT s.size = t at HV hz
  go_enter Tryd.func85, Tryd.ntmps85
  go_wp2_with (go_at_call 27; refine (HV _).mono ?_; rintro e w1 ⟨rfl, b1⟩)
  go_ret
  exact ⟨rfl, b1⟩

theorem iPiece_re (s : ByteArray) (w : World) (hs : s.size ≤ 1048576) (dd : Nat) (os : Array Obj) : Calls Tryd.prog 85 #[.string s] (grow (redrawn w dd) os) fun e w'' => e = .returned (.string (pieceT s)) ∧ ∃ p : Regrown, w'' = grow (redrawn w p.d) p.os := Calls.regrown_of (iPiece s _ hs)

end Go.Proofs.YtfdahfealibbnaaDoor
