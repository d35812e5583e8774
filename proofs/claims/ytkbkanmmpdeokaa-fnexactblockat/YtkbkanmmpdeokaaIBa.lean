/- A bitmap in a word: impl.BitsOk, flagsAt, has, free, inMap, slices.Clone at flags. -/
import Derived.Test.YtkbkanmmpdeokaaRows
import Derived.Test.YtkbkanmmpdeokaaBtW
import Derived.Test.YtkbkanmmpdeokaaBtF
import Derived.Test.YtkbkanmmpdeokaaIBtw
import Derived.Lib.SliceRun
import Derived.Laws.BitsAllLaws
namespace Go.Proofs.Ytkbkanmmpdeokaa
open Go.RowKit Go.Sort


theorem msk_int (p n : Nat) (h : p + n ≤ 24) : ((2 : Int) ^ n - 1) * 2 ^ p = (mskN p n : Nat) ∧ ((2 : Int) ^ n - 1) * 2 ^ p < 16777216 ∧ (0 : Int) ≤ (2 : Int) ^ n - 1 ∧ (2 : Int) ^ n ≤ 16777216 := by
  have h1 := mskN_lt p n h
  have h2 := Nat.two_pow_pos n
  have e : ((2 : Int) ^ n) = ((2 ^ n : Nat) : Int) := by norm_cast
  have e2 : ((2 : Int) ^ p) = ((2 ^ p : Nat) : Int) := by norm_cast
  have e3 : ((2 : Int) ^ n - 1) * 2 ^ p = (mskN p n : Nat) := by
    unfold mskN; rw [e, e2, ← Int.natCast_one, ← Int.ofNat_sub h2]; norm_cast
  have h3 : 2 ^ n ≤ 2 ^ 24 := Nat.pow_le_pow_right (by decide) (by omega)
  refine ⟨e3, by rw [e3]; omega, by omega, by omega⟩

set_option maxRecDepth 100000 in
set_option maxHeartbeats 1000000 in
theorem iFlagsAt (p n : Nat) (h : p + n ≤ 24) (w : World) :
    Calls Try.prog 59 #[.int .i64 p, .int .i64 n] w fun e w' => e = .returned (.int .u32 (mskN p n : Nat)) ∧ w = w' := by
  obtain ⟨h1, h2, h3, h4⟩ := msk_int p n h
  go_enter Try.func59, Try.ntmps59
  go_wp2
  go_ret
  exact ⟨rfl, rfl⟩

theorem bit_and (f k : Nat) : ((f / 2 ^ k &&& 1 : Nat) : Int) = if f.testBit k then 1 else 0 := by
  rw [Nat.and_one_is_mod, Nat.testBit_eq_decide_div_mod_eq]
  rcases Nat.mod_two_eq_zero_or_one (f / 2 ^ k) with h | h
  · rw [h]; rfl
  · rw [h]; rfl
set_option maxRecDepth 100000 in
set_option maxHeartbeats 1000000 in
theorem iHas (f k : Nat) (hf : f < 4294967296) (hk : k < 24) (w : World) :
    Calls Try.prog 35 #[.int .u32 f, .int .i64 k] w fun e w' => e = .returned (.bool (f.testBit k)) ∧ w = w' := by
  have hd : f / 2 ^ k ≤ f := Nat.div_le_self _ _
  have e1 : bits .and .u32 ((f : Int) / 2 ^ k) 1 = if f.testBit k then 1 else 0 := by
    rw [← bit_and, ← u32_and_nat (f / 2 ^ k) 1 (by omega) (by decide)]
    norm_cast
  have e2 : min k 32 = k := by omega
  generalize f.testBit k = r at e1 ⊢
  go_enter Try.func35, Try.ntmps35
  cases r
  · go_wp2
    go_ret
    exact ⟨rfl, rfl⟩
  · go_wp2
    go_ret
    exact ⟨rfl, rfl⟩



end Go.Proofs.Ytkbkanmmpdeokaa
