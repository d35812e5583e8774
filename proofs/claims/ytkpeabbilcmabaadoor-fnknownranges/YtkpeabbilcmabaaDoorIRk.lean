/- The ranges of known signs: impl.KnownRanges. -/
import Derived.Test.YtkpeabbilcmabaaDoorRows
import Derived.Test.YtkpeabbilcmabaaDoorIKno
import Derived.Test.YtkpeabbilcmabaaDoorRgK
import Derived.Test.YtkpeabbilcmabaaDoorRgR
import Derived.Deep.Cut
namespace Go.Proofs.YtkpeabbilcmabaaDoor
open Go.RowKit Go.Sort

theorem ik_rg : ∀ k, k < 27 → knR.take k ++ [⟨ikT.getD (2 * k) 0, ikT.getD (2 * k + 1) 0⟩] = knR.take (k + 1) := by decide

set_option maxRecDepth 100000 in
set_option maxHeartbeats 1000000 in
theorem iKnownRanges (w : World) (hw : ∀ i, i < 54 → w.cell? ⟨0, i, none⟩ = some (.int .i64 (ikT.getD i 0))) :
    Calls Tryd.prog 5 #[] w fun e w' => ∃ u, e = .returned u ∧ RgRow w' w.heap.size u knR ∧ Below w.heap.size w w' := by
  have HT : Hid (knR.take 27 = knR) := List.take_of_length_le (by decide)
  have HS : Hid (∀ k, k < 27 → knR.take k ++ [⟨ikT.getD (2 * k) 0, ikT.getD (2 * k + 1) 0⟩] = knR.take (k + 1)) := ik_rg
  have HL : Hid (∀ k, (knR.take k).length ≤ 27) := fun k => by rw [List.length_take]; exact Nat.le_trans (Nat.min_le_right _ _) (by decide)
  obtain ⟨K, HK⟩ : ∃ K, Hid (K = knR) := ⟨_, rfl⟩
  rw [← HK.out] at HT HS HL ⊢
  obtain ⟨A, hload0, hidx⟩ := ik_open w hw
  have hload : Hid ((Instr.loadAt 33 (.pointer (some ⟨0, 0, none⟩))).run Tryd.prog w = .ok (.agg A) w) := ik_load w A hload0
  have HIX : Hid (∀ k : Nat, k < 27 → ∀ w', (Instr.index 33 (.agg A) (.int .i64 (k : Int))).run Tryd.prog w' = .ok (.agg #[.int .i64 (ikT.getD (2 * k) 0), .int .i64 (ikT.getD (2 * k + 1) 0)]) w') := hidx
  clear hw hload0 hidx
  go_enter Tryd.func5, Tryd.ntmps5
  go_wp2_with (refine wpList_load_at w rfl 33 (.global 0) rfl (.agg A) hload.out ?_)
  go_loopw [1, 5] (fun u i wr => ∃ k : Nat, k ≤ 27 ∧ i = .int .i64 k ∧ RgRow wr w.heap.size u (K.take k) ∧ Below w.heap.size w wr) (fun _ i _ => 27 - (intOf i).toNat)
  case atStart => exact ⟨0, Nat.zero_le _, rfl, ⟨rfl, .inl ⟨rfl, rfl⟩⟩, Below.refl _ _⟩
  case round =>
    obtain ⟨k, hk, rfl, hrow, hbel⟩ := hrel
    by_cases hlt : k < 27
    · have hx := HIX.out k hlt wr
      have hS := HS.out k hlt
      have hLn := HL.out k
      obtain ⟨x, HX⟩ : ∃ x, Hid (x = ikT.getD (2 * k) 0) := ⟨_, rfl⟩
      obtain ⟨y, HY2⟩ : ∃ y, Hid (y = ikT.getD (2 * k + 1) 0) := ⟨_, rfl⟩
      rw [← HX.out, ← HY2.out] at hx hS
      have hkn : (k : Int) < 27 := by omega
      have hk0 : (0 : Int) ≤ (k : Int) := by omega
      have hS2 : Hid (K.take k ++ [⟨x, y⟩] = K.take (k + 1)) := hS
      clear hS
      generalize K.take k = P at hrow hS2 hLn
      have HPL : Hid (P.length ≤ 27) := hLn
      clear hLn
      have hb5 := below_lit wr (.cells #[.int .i64 x, .int .i64 y] 32)
      have row5 := hrow.below hb5
      have hbel5 := hbel.trans (hb5.mono hbel.size)
      obtain ⟨m0, m1⟩ : (wr.alloc (.cells #[.int .i64 x, .int .i64 y] 32)).cell? ⟨wr.heap.size, 0, none⟩ = some (.int .i64 x) ∧ (wr.alloc (.cells #[.int .i64 x, .int .i64 y] 32)).cell? ⟨wr.heap.size, 1, none⟩ = some (.int .i64 y) := by
        constructor <;> rw [World.cell?_alloc_mark] <;> rfl
      clear hrow hb5
      go_upto_region 5 with fail
      obtain ⟨R, HRR⟩ : ∃ R, Hid (R = wr.heap.size) := ⟨_, rfl⟩
      rw [← HRR.out] at m0 m1 ⊢
      generalize wr.alloc (.cells #[.int .i64 x, .int .i64 y] 32) = w5 at *
      go_wp2_with (at_builtin; go_loud (refine append_Rgs _ rfl (.tmp 8) (.tmp 10) rfl w.heap.size _ _ P [⟨x, y⟩] (by have := HPL.out; simp; omega) (row5.below (below_lit _ _)) (one_Rg _ ⟨x, y⟩) rfl rfl (Nat.le_trans hbel5.size (below_lit _ _).size) ?_; intro v8 w8 row8 b8))
      go_roundw
      case rel => exact ⟨k + 1, by omega, by go_num, by rw [← hS2.out]; exact row8, (hbel5.trans ((below_lit _ _).mono hbel5.size)).trans b8⟩
      case measure => simp [intOf]; omega
    · obtain rfl : k = 27 := by omega
      rw [HT.out] at hrow
      go_wp2
      go_ret
      exact ⟨_, rfl, hrow, hbel⟩

end Go.Proofs.YtkpeabbilcmabaaDoor
