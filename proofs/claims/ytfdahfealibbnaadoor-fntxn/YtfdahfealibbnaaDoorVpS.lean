/- spec: Var and l7Piece as texts; a text behind a row of texts. -/
import Derived.Test.YtfdahfealibbnaaDoorRows
import Derived.Test.YtfdahfealibbnaaDoorVtT
import Derived.Test.YtfdahfealibbnaaDoorStS
import Derived.Test.YtfdahfealibbnaaDoorVr
import Derived.Lib.SmallJoins
namespace Go.Proofs.YtfdahfealibbnaaDoor
open Go.RowKit Go.Sort

theorem sVarT (n : Int) (w : World) : Calls Tryd.prog 21 #[.int .i64 n] w fun e w' => e = .returned (.string (varT n)) ∧ Below w.heap.size w w' := by
  unfold varT
  cases h : inB n 0 562949953421311 with
  | false => exact (sVar_no n w h).mono fun e w' h => ⟨h.1, by rw [← h.2]; exact Below.refl _ _⟩
  | true => exact (sVar_yes n w h).mono fun e w' h => h

theorem sVarT_re (n : Int) (w : World) (dd : Nat) (os : Array Obj) : Calls Tryd.prog 21 #[.int .i64 n] (grow (redrawn w dd) os) fun e w'' => e = .returned (.string (varT n)) ∧ ∃ p : Regrown, w'' = grow (redrawn w p.d) p.os := Calls.regrown_of (sVarT n _)

set_option maxRecDepth 100000 in
set_option maxHeartbeats 1000000 in
theorem sPiece (s : ByteArray) (w : World) (hs : s.size ≤ 1048576) : Calls Tryd.prog 22 #[.string s] w fun e w' => e = .returned (.string (pieceT s)) ∧ Below w.heap.size w w' := by
  unfold pieceT
  have HV := fun w' => sVarT s.size w'
  have hz := varT_size s.size
  generalize varT s.size = t at HV hz
  go_enter Tryd.func22, Tryd.ntmps22
  go_wp2_with (go_at_call 21; refine (HV _).mono ?_; rintro e w1 ⟨rfl, b1⟩)
  go_ret
  exact ⟨rfl, b1⟩

theorem sPiece_re (s : ByteArray) (w : World) (hs : s.size ≤ 1048576) (dd : Nat) (os : Array Obj) : Calls Tryd.prog 22 #[.string s] (grow (redrawn w dd) os) fun e w'' => e = .returned (.string (pieceT s)) ∧ ∃ p : Regrown, w'' = grow (redrawn w p.d) p.os := Calls.regrown_of (sPiece s _ hs)

theorem cell_one_txt (w : World) (u : Value) : ∀ j y, [u][j]? = some y → (w.alloc (.cells #[u] 9)).cell? ((⟨w.heap.size, 0, none⟩ : Addr).add j) = some y := by
  intro j y h
  rw [Addr.add_lit, Nat.zero_add, World.cell?_alloc_mark]
  simpa using h

end Go.Proofs.YtfdahfealibbnaaDoor
