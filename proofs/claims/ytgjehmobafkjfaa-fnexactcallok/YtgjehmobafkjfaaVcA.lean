/- Calls: spec.CallOk, impl.CallOk, laws.toCall, laws.szCall. -/
import Derived.Test.YtgjehmobafkjfaaRows
import Derived.Test.YtgjehmobafkjfaaCaT
import Derived.Test.YtgjehmobafkjfaaRdFix
import Derived.Test.YtgjehmobafkjfaaIBtw
import Derived.WalkKit
import Derived.WalkSpells
import Derived.WalkLawsBesides
namespace Go.Proofs.Ytgjehmobafkjfaa
open Go.RowKit
set_option linter.unusedSimpArgs false

theorem toList_len (x : ByteArray) : x.toList.length = x.size := by rw [ByteArray.toList_eq, Array.length_toList]; rfl
theorem toList_nil (x : ByteArray) : x.toList = [] ↔ x.size = 0 := by rw [← List.length_eq_zero_iff, toList_len]
theorem isEmpty_size (x : ByteArray) : x.toList.isEmpty = decide (x.size = 0) := by
  rw [Bool.eq_iff_iff, List.isEmpty_iff, decide_eq_true_eq, toList_nil]

set_option maxRecDepth 100000 in
set_option maxHeartbeats 2000000 in
theorem sCallOk (c : Ca) (w : World) (h1 : c.name.size ≤ 9223372036854775807) (h2 : c.as_.size ≤ 9223372036854775807) (h3 : c.data.size ≤ 9223372036854775807) :
    Calls Try.prog 11 #[encC c] w fun e w' => e = .returned (.bool (callB c)) ∧ Below w.heap.size w w' := by
  obtain ⟨k, d, n, t, a, s⟩ := c
  have HB : Hid (∀ b : Bool, (b = true ↔ (1 ≤ k ∧ k ≤ 8) ∧ (0 ≤ d ∧ d ≤ 100000) ∧ (0 ≤ t ∧ t ≤ 100000) ∧ n.size ≤ 24 ∧ a.size ≤ 24 ∧ s.size ≤ 20 ∧ ((k = 5 ∨ k = 6) ∨ t = 0 ∧ a.size = 0) ∧ (k = 7 ∨ s.size = 0)) → callB ⟨k, d, n, t, a, s⟩ = b) := fun b hb => by
    rw [Bool.eq_iff_iff, hb]; unfold callB twoB; simp [and_assoc]
  unfold encC
  dsimp only at h1 h2 h3 ⊢
  generalize callB ⟨k, d, n, t, a, s⟩ = r at HB ⊢
  go_enter Try.func11, Try.ntmps11
  go_wp2_with (go_at_call 17; refine (in_any _ _ _ _).mono ?_; rintro e w' ⟨rfl, rfl⟩)
  all_goals (go_ret; refine ⟨ret_bool ?_, below_lit w _⟩; symm; apply HB.out; simp only [inB, isEmpty_size, toList_nil, Bool.and_eq_true, decide_eq_true_eq, Bool.and_eq_false_iff, decide_eq_false_iff_not, Bool.or_eq_true] at *; try simp only [beq_iff_eq, Bool.false_eq_true, isEmpty_size, toList_nil, decide_eq_true_eq, true_iff, false_iff, Bool.and_eq_true, Bool.or_eq_true]); all_goals omega

def twB (k : Int) : Bool := decide (k = 5) || decide (k = 6)
theorem hasTarget_any (k : Int) (w : World) : Calls Try.prog 19 #[.int .i64 k] w fun e w' => e = .returned (.bool (twB k)) ∧ w = w' := by
  go_enter Try.func19, Try.ntmps19
  go_wp2
  all_goals (go_ret; refine ⟨ret_bool ?_, rfl⟩; rw [Bool.eq_iff_iff]; unfold twB; simp only [beq_iff_eq, Bool.or_eq_true, decide_eq_true_eq, Bool.false_eq_true, true_iff, false_iff])
  all_goals omega

set_option maxRecDepth 100000 in
set_option maxHeartbeats 2000000 in
theorem iCallOk (c : Ca) (w : World) (h1 : c.name.size ≤ 9223372036854775807) (h2 : c.as_.size ≤ 9223372036854775807) (h3 : c.data.size ≤ 9223372036854775807) :
    Calls Try.prog 13 #[encC c] w fun e w' => e = .returned (.bool (callB c)) ∧ Below w.heap.size w w' := by
  obtain ⟨k, d, n, t, a, s⟩ := c
  have HB : Hid (∀ b : Bool, (b = true ↔ (1 ≤ k ∧ k ≤ 8) ∧ (0 ≤ d ∧ d ≤ 100000) ∧ (0 ≤ t ∧ t ≤ 100000) ∧ n.size ≤ 24 ∧ a.size ≤ 24 ∧ s.size ≤ 20 ∧ ((k = 5 ∨ k = 6) ∨ t = 0 ∧ a.size = 0) ∧ (k = 7 ∨ s.size = 0)) → callB ⟨k, d, n, t, a, s⟩ = b) := fun b hb => by
    rw [Bool.eq_iff_iff, hb]; unfold callB twoB; simp [and_assoc]
  unfold encC
  dsimp only at h1 h2 h3 ⊢
  generalize callB ⟨k, d, n, t, a, s⟩ = r at HB ⊢
  go_enter Try.func13, Try.ntmps13
  go_wp2_with (first | (go_at_call 18; refine (btw_any _ _ _ _).mono ?_; rintro e w' ⟨rfl, rfl⟩) | (go_at_call 19; refine (hasTarget_any _ _).mono ?_; rintro e w' ⟨rfl, rfl⟩))
  all_goals (go_ret; refine ⟨ret_bool ?_, below_lit w _⟩; symm; apply HB.out; simp only [Bool.not_eq_true', Bool.not_eq_false', inB, twB, isEmpty_size, toList_nil, Bool.and_eq_true, decide_eq_true_eq, Bool.and_eq_false_iff, decide_eq_false_iff_not, Bool.or_eq_true, Bool.or_eq_false_iff] at *; try simp only [beq_iff_eq, Bool.false_eq_true, isEmpty_size, toList_nil, decide_eq_true_eq, true_iff, false_iff, Bool.and_eq_true, Bool.or_eq_true]); all_goals omega

set_option maxRecDepth 100000 in
set_option maxHeartbeats 1000000 in
theorem toCall_any (c : Ca) (w : World) : Calls Try.prog 12 #[encC c] w fun e w' => e = .returned (encC c) ∧ Below w.heap.size w w' := by
  obtain ⟨k, d, n, t, a, s⟩ := c
  unfold encC
  dsimp only
  go_enter Try.func12, Try.ntmps12
  go_wp2
  refine bodyPost_ret (v := .agg #[.int .i64 k, .int .i64 d, .string n, .int .i64 t, .string a, .string s]) (by simp [results, Try.results12, go_sem]) rfl ⟨rfl, ?_⟩
  refine ((below_lit w _).alloc ?_ _).alloc ?_ _ <;> simp <;> omega

set_option maxRecDepth 100000 in
set_option maxHeartbeats 1000000 in
theorem szCall_any (c : Ca) (r : Int) (w : World) (hr : -1 ≤ r ∧ r ≤ 1048576) (h1 : c.name.size ≤ 9223372036854775807) (h2 : c.as_.size ≤ 9223372036854775807) (h3 : c.data.size ≤ 9223372036854775807) :
    Calls Try.prog 10 #[encC c, .int .i64 r] w fun e w' => ∃ q : Int, e = .returned (.int .i64 q) ∧ q ≤ 1048576 ∧ (0 ≤ q → c.name.size ≤ 1048576 ∧ c.as_.size ≤ 1048576 ∧ c.data.size ≤ 1048576) ∧ Below w.heap.size w w' := by
  obtain ⟨k, d, n, t, a, s⟩ := c
  unfold encC
  dsimp only at h1 h2 h3 ⊢
  go_enter Try.func10, Try.ntmps10
  go_wp2
  all_goals (go_ret; exact ⟨_, rfl, by omega, fun h => by omega, below_lit w _⟩)

/-- a boxed call -/
theorem box_call {w wr : World} {k d t : Int} {n a s : ByteArray} {T : TypeId} (hb : Below (w.heap.size + 1) (w.alloc (.cells #[.int .i64 k, .int .i64 d, .string n, .int .i64 t, .string a, .string s] T)) wr) :
    wr.cell? ⟨w.heap.size, 0, none⟩ = some (.int .i64 k) ∧ wr.cell? ⟨w.heap.size, 1, none⟩ = some (.int .i64 d) ∧ wr.cell? ⟨w.heap.size, 2, none⟩ = some (.string n) ∧ wr.cell? ⟨w.heap.size, 3, none⟩ = some (.int .i64 t) ∧ wr.cell? ⟨w.heap.size, 4, none⟩ = some (.string a) ∧ wr.cell? ⟨w.heap.size, 5, none⟩ = some (.string s) := by
  have key : ∀ j : Nat, wr.cell? ⟨w.heap.size, j, none⟩ = (w.alloc (.cells #[.int .i64 k, .int .i64 d, .string n, .int .i64 t, .string a, .string s] T)).cell? ⟨w.heap.size, j, none⟩ := fun j => hb.cell (p := ⟨w.heap.size, j, none⟩) (by show w.heap.size < _; omega)
  refine ⟨?_, ?_, ?_, ?_, ?_, ?_⟩ <;> rw [key, World.cell?_alloc_mark] <;> rfl

end Go.Proofs.Ytgjehmobafkjfaa
