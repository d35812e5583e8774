/- Rows of whole numbers under the names that mkwex.py's walks use. -/
import Derived.Test.YtkbkanmmpdeokaaRows
import Derived.Test.YtkbkanmmpdeokaaIntS
namespace Go.Proofs.Ytkbkanmmpdeokaa
open Go.RowKit

abbrev InsAt := IntsAt
abbrev InRow := IntRow
abbrev marksIn (k : Nat) (n : Nat) : List Int := marks (k : Int) n

theorem eqInS_any (v u : Value) (l m : List Int) (w : World) (hl : l.length ≤ 9223372036854775807) (hv : InsAt w v l) (hu : InsAt w u m) :
    Calls Try.prog 27 #[v, u] w fun e w' => e = .returned (.bool (decide (l = m))) ∧ Below w.heap.size w w' := eqIntS_any v u l m w hl hv hu
theorem markInS_any (v : Value) (l : List Int) (k : Nat) (base : Nat) (w : World) (hv : InRow w base v l) (hl : l.length ≤ 4194304) (hk0 : 0 < k) (hk1 : k ≤ 100000000) :
    Calls Try.prog 28 #[v, .int .i64 k] w fun e w' => e = .returned (.int .i64 ((k + 1 * l.length : Nat) : Int)) ∧ InRow w' base v (marksIn k l.length) ∧ w.grownBy w' v.ownBlock :=
  (markIntS_any v l k base w (by omega) (by omega) (by omega) hv).mono fun e w' h => ⟨by rw [h.1, Nat.one_mul, Int.natCast_add], h.2⟩
theorem heldInS_marks (v : Value) (n k : Nat) (w : World) (hn : n ≤ 4194304) (hk0 : 0 < k) (hk1 : k ≤ 100000000) (hv : InsAt w v (marksIn k n)) :
    Calls Try.prog 29 #[v, .int .i64 k] w fun e w' => e = .returned (.int .i64 ((k + 1 * n : Nat) : Int)) ∧ Below w.heap.size w w' :=
  (heldIntS_marks v n k w (by omega) (by omega) (by omega) hv).mono fun e w' h => ⟨by rw [h.1, Nat.one_mul, Int.natCast_add], h.2 ▸ Below.refl _ _⟩

end Go.Proofs.Ytkbkanmmpdeokaa
