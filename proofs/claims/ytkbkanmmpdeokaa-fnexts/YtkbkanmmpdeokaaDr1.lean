/- What spec.l1Once, spec.l1PickInt, spec.l1Num and spec.l1Text draw. -/
import Derived.Test.YtkbkanmmpdeokaaRows
import Derived.Test.YtkbkanmmpdeokaaCur
import Derived.Test.YtkbkanmmpdeokaaOwn
import Derived.WalkKit
import Derived.WalkSpells
import Derived.WalkLawsBesides
namespace Go.Proofs.Ytkbkanmmpdeokaa
open Go.RowKit

theorem Try.infoB : (Try.prog.info? 5).map (fun i => (i.zero, i.size, i.bytes)) = some (some (.int .u8 0), 1, 1) := by kernel_rfl

theorem once_any (S : Src) (ok : S.ok) (n : Int) (p : Nat) (s : Nat × Int) (w : World) (c : At S p s w) :
    Calls Try.prog 52 #[.pointer (some ⟨p, 0, none⟩), .int .i64 n] w fun e w' => e = .returned (.bool (bX S n s == 0)) ∧ At S p (bS S n s) w' ∧ w.grownBy w' (some p) := by
  go_enter Try.func52, Try.ntmps52
  go_wp2_with fail
  refine (below_any S ok n p s _ c).mono ?_
  rintro e w1 ⟨rfl, c1, b1⟩
  go_wp2
  go_ret
  exact ⟨rfl, c1, b1⟩

/-- what l1PickInt draws out of L -/
def pX (S : Src) (L : List Int) (s : Nat × Int) : Int := L.getD (bX S L.length s).toNat 0


theorem heap_new (w : World) (o : Obj) : (w.alloc o).heap[w.heap.size]? = some o := by
  show (w.heap.push o)[w.heap.size]? = some o
  rw [Array.getElem?_push_size]

def numList : List Int := [-1, 0, 127, 128, 255, 256, 16383, 16384, 65535, 65536, 562949953421311, 562949953421312, 999999999, 1000000000, -999999999, 9223372036854775807, -9223372036854775808]

/-- what l1Num draws, and where the cursor stands then -/
def nX (S : Src) (s : Nat × Int) : Int :=
  if bX S 8 s = 0 then pX S numList (bS S 8 s)
  else if bX S 8 s = 1 then bX S 1000000000 (bS S 8 s) * bX S 1000000000 (bS S 1000000000 (bS S 8 s))
  else if bX S 8 s = 2 then -bX S 100000 (bS S 8 s)
  else bX S 70000 (bS S 8 s)
def nS (S : Src) (s : Nat × Int) : Nat × Int :=
  if bX S 8 s = 0 then bS S 17 (bS S 8 s)
  else if bX S 8 s = 1 then bS S 1000000000 (bS S 1000000000 (bS S 8 s))
  else if bX S 8 s = 2 then bS S 100000 (bS S 8 s)
  else bS S 70000 (bS S 8 s)

theorem numList_bd : ∀ n ∈ numList, -9223372036854775808 ≤ n ∧ n ≤ 9223372036854775807 := by decide

theorem pX_bd (S : Src) (s : Nat × Int) : -9223372036854775808 ≤ pX S numList s ∧ pX S numList s ≤ 9223372036854775807 := by
  unfold pX
  rw [List.getD_eq_getElem?_getD]
  cases h : numList[(bX S numList.length s).toNat]? with
  | none => simp
  | some v => exact numList_bd v (List.mem_of_getElem? h)

theorem nX_bd (S : Src) (s : Nat × Int) : -9223372036854775808 ≤ nX S s ∧ nX S s ≤ 9223372036854775807 := by
  unfold nX
  have h1 := bX_bd S 1000000000 (bS S 8 s) (by decide)
  have h2 := bX_bd S 1000000000 (bS S 1000000000 (bS S 8 s)) (by decide)
  have h3 := bX_bd S 100000 (bS S 8 s) (by decide)
  have h4 := bX_bd S 70000 (bS S 8 s) (by decide)
  split
  · exact pX_bd S _
  · split
    · have h5 := Int.mul_nonneg h1.1 h2.1
      have h6 : bX S 1000000000 (bS S 8 s) * bX S 1000000000 (bS S 1000000000 (bS S 8 s)) ≤ 1000000000 * 1000000000 := Int.mul_le_mul (by omega) (by omega) h2.1 (by decide)
      omega
    · split <;> omega

end Go.Proofs.Ytkbkanmmpdeokaa
