/- The ground of seats without entries and volumes: the same facts as LEo, LEk, LEp, LVm, WBl hold. -/
import Derived.Test.YtfdahfealibbnaaDoorRows
import Derived.Test.YtfdahfealibbnaaDoorIntS
import Derived.Test.YtfdahfealibbnaaDoorOwn
import Derived.Test.YtfdahfealibbnaaDoorSgn
import Derived.WalkKit
import Derived.WalkSpells
import Derived.WalkLawsBesides
import Derived.Deep.QuietTactic
import Derived.BigQuiet
import Derived.Deep.Onto
import Derived.Lib.QuietBelow
import Derived.Laws.AppendOwnNone
namespace Go.Proofs.YtfdahfealibbnaaDoor
open Go.RowKit Go.Sort

theorem own_below {w w' : World} {base size n : Nat} {e : TypeId} {v : Value} {xs : List Value} (h : w.ownsRow base e size v n xs) (b : Below w.heap.size w w') : w'.ownsRow base e size v n xs :=
  ⟨h.1, by
    rcases h.2 with h0 | ⟨g, cap, cur, e, hg, hh, r⟩
    · exact .inl h0
    · exact .inr ⟨g, cap, cur, e, hg, (b.block g (lt_of_block hh)).trans hh, r⟩⟩

def digs (k : Nat) (acc : List UInt8) : List UInt8 := if k = 0 then acc else digs (k / 10) (UInt8.ofNat (48 + k % 10) :: acc)
  termination_by k
  decreasing_by omega
theorem digs_zero (acc : List UInt8) : digs 0 acc = acc := by unfold digs; rfl
theorem digs_pos {k : Nat} (h : 0 < k) (acc : List UInt8) : digs k acc = digs (k / 10) (UInt8.ofNat (48 + k % 10) :: acc) := by
  rw [digs, if_neg (by omega)]
def mkT (k : Nat) : ByteArray := ⟨(109 :: digs k []).toArray⟩

set_option maxRecDepth 100000 in
set_option maxHeartbeats 1000000 in
theorem markText_any (k : Nat) (w : World) (h0 : 0 < k) (h1 : k ≤ 1000000000) :
    Calls Tryd.prog 55 #[.int .i64 k] w fun e w' => e = .returned (.string (mkT k)) ∧ Below w.heap.size w w' := by
  have hk : ¬ ((k : Int) ≤ 0) := by omega
  go_enter Tryd.func55, Tryd.ntmps55
  go_wp2
  go_loopw [0, 3] (fun q sv wr => ∃ (m : Nat) (l : List UInt8), m + l.length ≤ k ∧ q = .int .i64 m ∧ sv = .string ⟨l.toArray⟩ ∧ Hid (digs m l = digs k []) ∧ Below w.heap.size w wr) (fun q _ _ => (intOf q).toNat)
  case atStart => exact ⟨k, [], by simp, rfl, rfl, rfl, Below.refl _ _⟩
  case round =>
    obtain ⟨m, l, hm, rfl, rfl, HD, hbel⟩ := hrel
    by_cases hlt : 0 < m
    · have hm0 : (0 : Int) < (m : Int) := by omega
      have HG : Hid (digs (m / 10) (UInt8.ofNat (48 + m % 10) :: l) = digs k []) := by show _ = _; rw [← digs_pos hlt]; exact HD.out
      have hcv := one_string (P := Tryd.prog) wr (E := 5) (S := 37) (T := 9) (48 + (m : Int) % 10) (by omega) (by omega) Tryd.underlying37 Tryd.underlying5 Tryd.underlying9
      have hbl := below_lit wr (.cells #[.int .u8 (48 + (m : Int) % 10)] 5)
      go_wp2
      refine ⟨⟨m / 10, UInt8.ofNat (48 + m % 10) :: l, by simp; omega, by go_num, ?_, HG.out, hbel.trans (hbl.mono hbel.size)⟩, by simp [intOf]; omega⟩
      refine congrArg Value.string (list_ext ?_)
      simp [UInt8.ofNat_add]
    · have hm1 : m = 0 := by omega
      have HE : Hid (l = digs k []) := by show _ = _; rw [← HD.out, hm1, digs_zero]
      have hm0 : ¬ ((0 : Int) < (m : Int)) := by omega
      clear hm1
      go_wp2
      go_ret
      refine ⟨?_, hbel⟩
      rw [HE.out]
      refine congrArg (fun x => Ending.returned (Value.string x)) (list_ext ?_)
      simp [mkT]

theorem markText_at (z : Int) (k : Nat) (hz : z = (k : Int)) (w : World) (h0 : 0 < k) (h1 : k ≤ 1000000000) :
    Calls Tryd.prog 55 #[.int .i64 z] w fun e w' => e = .returned (.string (mkT k)) ∧ Below w.heap.size w w' := by
  rw [hz]; exact markText_any k w h0 h1
theorem gb_belowE {w w' : World} {g : Nat} (b : Below w.heap.size w w') : w.grownBy w' (some g) := ⟨b.os, b.tape, b.output, b.size, fun k hk _ => b.block k hk⟩

theorem list_ext1 {α : Type} [Inhabited α] {a b : List α} (hl : a.length = b.length) (h : ∀ t, t < a.length → a[t]! = b[t]!) : a = b := by
  apply List.ext_getElem hl
  intro t h1 h2
  have := h t h1
  rwa [getElem!_pos a t h1, getElem!_pos b t h2] at this
theorem gbi_of_below {w w' : World} {r : Option Nat} (b : Below w.heap.size w w') : w.grownBy w' r := ⟨b.os, b.tape, b.output, b.size, fun k hk _ => b.block k hk⟩
theorem gbr_trans {a b c : World} {r : Option Nat} (h : a.grownBy b r) (k : b.grownBy c r) : a.grownBy c r :=
  ⟨k.os.trans h.os, k.tape.trans h.tape, k.output.trans h.output, Nat.le_trans h.size k.size, fun i hi hne => (k.block i (Nat.lt_of_lt_of_le hi h.size) hne).trans (h.block i hi hne)⟩
theorem gbr_set (w : World) (g o : Nat) (u : Value) : w.grownBy (w.setCell ⟨g, o, none⟩ u) (some g) :=
  ⟨by simp [World.setCell]; try split <;> rfl, by simp [World.setCell]; try split <;> rfl, by simp [World.setCell]; try split <;> rfl, by simp, fun k _ hne => Below.heap_setCell w _ _ k (fun e => hne (by rw [e]))⟩
/-- what lies below B or from T on stays -/
structure MidB (B T : Nat) (w w' : World) : Prop where
  os : w'.os = w.os
  tape : w'.tape = w.tape
  output : w'.output = w.output
  size : w.heap.size ≤ w'.heap.size
  block : ∀ k, k < w.heap.size → (k < B ∨ T ≤ k) → w'.heap[k]? = w.heap[k]?
theorem MidB.refl (B T : Nat) (w : World) : MidB B T w w := ⟨rfl, rfl, rfl, Nat.le_refl _, fun _ _ _ => rfl⟩
theorem MidB.trans {B T : Nat} {a b c : World} (h : MidB B T a b) (k : MidB B T b c) : MidB B T a c :=
  ⟨k.os.trans h.os, k.tape.trans h.tape, k.output.trans h.output, Nat.le_trans h.size k.size, fun i hi hne => (k.block i (Nat.lt_of_lt_of_le hi h.size) hne).trans (h.block i hi hne)⟩
theorem MidB.of_below {B T : Nat} {w w' : World} (b : Below w.heap.size w w') : MidB B T w w' := ⟨b.os, b.tape, b.output, b.size, fun k hk _ => b.block k hk⟩
theorem MidB.of_grown {B T : Nat} {w w' : World} {r : Option Nat} (g : w.grownBy w' r) (h : ∀ q, r = some q → B ≤ q ∧ q < T) : MidB B T w w' :=
  ⟨g.os, g.tape, g.output, g.size, fun k hk hne => g.block k hk fun e => by have := h k e.symm; omega⟩
theorem MidB.below {B T : Nat} {w w' : World} (m : MidB B T w w') (hb : B ≤ w.heap.size) : Below B w w' := ⟨m.os, m.tape, m.output, m.size, fun k hk => m.block k (by omega) (.inl hk)⟩
/-- a cell of a block that stays -/
theorem MidB.cell {B T : Nat} {w w' : World} (m : MidB B T w w') {b : Nat} (o : Nat) (hb : b < w.heap.size) (h : b < B ∨ T ≤ b) : w'.cell? ⟨b, o, none⟩ = w.cell? ⟨b, o, none⟩ := World.cell?_of_block (m.block b hb h)

end Go.Proofs.YtfdahfealibbnaaDoor
