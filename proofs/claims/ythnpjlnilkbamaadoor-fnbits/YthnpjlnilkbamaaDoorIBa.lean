/- A bitmap in a word: impl.BitsOk, flagsAt, has, free, inMap, slices.Clone at flags. -/
import Derived.Test.YthnpjlnilkbamaaDoorRows
import Derived.Test.YthnpjlnilkbamaaDoorBtW
import Derived.Test.YthnpjlnilkbamaaDoorBtF
import Derived.Test.YthnpjlnilkbamaaDoorIBtw
import Derived.Lib.SliceRun
import Derived.Laws.BitsAllLaws
namespace Go.Proofs.YthnpjlnilkbamaaDoor
open Go.RowKit Go.Sort

theorem iBitsOk (v : Value) (b : List Bool) (w : World) (hv : BosAt w v b) :
    Calls Tryd.prog 28 #[v] w fun e w' => e = .returned (.bool (decide (b.length = 24))) ∧ w = w' := by
  obtain ⟨a, ca, rfl, -, -⟩ := hv
  have hd : ((b.length : Int) == 24) = decide (b.length = 24) := by rw [Bool.eq_iff_iff, beq_iff_eq, decide_eq_true_eq]; omega
  generalize decide (b.length = 24) = r at hd ⊢
  go_enter Tryd.func28, Tryd.ntmps28
  go_wp2
  go_ret
  first | exact ⟨rfl, rfl⟩ | exact ⟨ret_bool hd, rfl⟩

theorem msk_int (p n : Nat) (h : p + n ≤ 24) : ((2 : Int) ^ n - 1) * 2 ^ p = (mskN p n : Nat) ∧ ((2 : Int) ^ n - 1) * 2 ^ p < 16777216 ∧ (0 : Int) ≤ (2 : Int) ^ n - 1 ∧ (2 : Int) ^ n ≤ 16777216 := by
  have h1 := mskN_lt p n h
  have h2 := Nat.two_pow_pos n
  have e : ((2 : Int) ^ n) = ((2 ^ n : Nat) : Int) := by norm_cast
  have e2 : ((2 : Int) ^ p) = ((2 ^ p : Nat) : Int) := by norm_cast
  have e3 : ((2 : Int) ^ n - 1) * 2 ^ p = (mskN p n : Nat) := by
    unfold mskN; rw [e, e2, ← Int.natCast_one, ← Int.ofNat_sub h2]; norm_cast
  have h3 : 2 ^ n ≤ 2 ^ 24 := Nat.pow_le_pow_right (by decide) (by omega)
  refine ⟨e3, by rw [e3]; omega, by omega, by omega⟩

set_option maxRecDepth 100000 in
set_option maxHeartbeats 1000000 in
theorem iFlagsAt (p n : Nat) (h : p + n ≤ 24) (w : World) :
    Calls Tryd.prog 34 #[.int .i64 p, .int .i64 n] w fun e w' => e = .returned (.int .u32 (mskN p n : Nat)) ∧ w = w' := by
  obtain ⟨h1, h2, h3, h4⟩ := msk_int p n h
  go_enter Tryd.func34, Tryd.ntmps34
  go_wp2
  go_ret
  exact ⟨rfl, rfl⟩

theorem bit_and (f k : Nat) : ((f / 2 ^ k &&& 1 : Nat) : Int) = if f.testBit k then 1 else 0 := by
  rw [Nat.and_one_is_mod, Nat.testBit_eq_decide_div_mod_eq]
  rcases Nat.mod_two_eq_zero_or_one (f / 2 ^ k) with h | h
  · rw [h]; rfl
  · rw [h]; rfl
set_option maxRecDepth 100000 in
set_option maxHeartbeats 1000000 in
theorem iHas (f k : Nat) (hf : f < 4294967296) (hk : k < 24) (w : World) :
    Calls Tryd.prog 39 #[.int .u32 f, .int .i64 k] w fun e w' => e = .returned (.bool (f.testBit k)) ∧ w = w' := by
  have hd : f / 2 ^ k ≤ f := Nat.div_le_self _ _
  have e1 : bits .and .u32 ((f : Int) / 2 ^ k) 1 = if f.testBit k then 1 else 0 := by
    rw [← bit_and, ← u32_and_nat (f / 2 ^ k) 1 (by omega) (by decide)]
    norm_cast
  have e2 : min k 32 = k := by omega
  generalize f.testBit k = r at e1 ⊢
  go_enter Tryd.func39, Tryd.ntmps39
  cases r
  · go_wp2
    go_ret
    exact ⟨rfl, rfl⟩
  · go_wp2
    go_ret
    exact ⟨rfl, rfl⟩

set_option maxRecDepth 100000 in
set_option maxHeartbeats 1000000 in
theorem iFree (b : List Bool) (hb : b.length = 24) (w : World) :
    Calls Tryd.prog 30 #[.int .u32 (fN b : Nat)] w fun e w' => e = .returned (.int .u32 (frN b : Nat)) ∧ w = w' := by
  have hf := fN_lt24 hb
  have e1 : bits .xor .u32 ((fN b : Nat) : Int) 16777215 = (frN b : Nat) := u32_xor_nat (fN b) 16777215 (by omega) (by decide)
  generalize frN b = r at e1 ⊢
  generalize fN b = f at hf e1 ⊢
  have HF := iFlagsAt 0 24 (by omega) w
  have e2 : mskN 0 24 = 16777215 := by decide
  rw [e2] at HF
  go_enter Tryd.func30, Tryd.ntmps30
  go_wp2_with (go_at_call 34; refine HF.mono ?_; rintro e w1 ⟨rfl, rfl⟩)
  go_ret
  exact ⟨rfl, rfl⟩

set_option maxRecDepth 100000 in
set_option maxHeartbeats 1000000 in
theorem iInMap (p n : Int) (w : World) :
    Calls Tryd.prog 32 #[.int .i64 p, .int .i64 n] w fun e w' => e = .returned (.bool (inB p 0 23 && inB n 1 (24 - p))) ∧ w = w' := by
  have hI := fun w' => btw_any p 0 23 w'
  have hJ := fun w' => btw_any n 1 (24 - p) w'
  have HB : Hid (inB p 0 23 = true → 0 ≤ p ∧ p ≤ 23) := fun h => inB_le h
  generalize inB p 0 23 = x at hI HB ⊢
  generalize inB n 1 (24 - p) = y at hJ ⊢
  cases x
  · go_enter Tryd.func32, Tryd.ntmps32
    go_wp2_with fail
    refine (hI _).mono ?_
    rintro e w2 ⟨rfl, rfl⟩
    go_wp2
    go_ret
    exact ⟨rfl, rfl⟩
  · obtain ⟨h1, h2⟩ := HB.out rfl
    have hw : IntKind.i64.wrap (24 - p) = 24 - p := by rw [IntKind.wrap_i64]; omega
    go_enter Tryd.func32, Tryd.ntmps32
    go_wp2_with fail
    refine (hI _).mono ?_
    rintro e w2 ⟨rfl, rfl⟩
    go_wp2_with fail
    refine (hJ _).mono ?_
    rintro e w2 ⟨rfl, rfl⟩
    go_wp2
    go_ret
    exact ⟨rfl, rfl⟩

set_option maxRecDepth 100000 in
set_option maxHeartbeats 1000000 in
theorem cloneBo_any (v : Value) (d : List Bool) (w : World) (hv : BosAt w v d) (hl : d.length ≤ 1048576) :
    Calls Tryd.prog 33 #[v] w fun e w' => ∃ u, e = .returned u ∧ BoRow w' w.heap.size u d ∧ Below w.heap.size w w' := by
  have hb := below_lit w (.cells #[] 4)
  have hrow := lit_Bos w
  have hv' := hv.below hb
  obtain ⟨a, ca, rfl, hn, hva⟩ := hv
  cases a with
  | none =>
    obtain rfl : ca = 0 := hn rfl
    have hd : d = [] := by
      cases d with
      | nil => rfl
      | cons e d => obtain ⟨b, off, h, _⟩ := hva 0 (by simp); cases h
    subst hd
    clear hva
    have hq : ∀ w, (binOp .eql 24 (.slice none 0 0) (.slice none 0 0)).run Tryd.prog w = .ok (.bool true) w := fun w => Lib.run_eql_slice_nil w _ _ none 0 0 0 0 Tryd.underlying24
    go_enter Tryd.func33, Tryd.ntmps33
    go_wp2
    go_ret
    exact ⟨_, rfl, World.ownsRow_nil _ _ _ _, Below.refl _ _⟩
  | some a =>
    clear hva
    have hq : ∀ w, (binOp .eql 24 (.slice (some a) d.length ca) (.slice none 0 0)).run Tryd.prog w = .ok (.bool false) w := fun w => Lib.run_eql_slice_nil w _ _ (some a) _ _ 0 0 Tryd.underlying24
    go_enter Tryd.func33, Tryd.ntmps33
    go_wp2_with (at_builtin; refine append_Bos _ rfl (.tmp 5) (.tmp 6) rfl w.heap.size _ _ [] d (by simp; omega) hrow hv' rfl rfl hb.size ?_; intro v' w3 hown3 hbel3)
    go_ret
    exact ⟨_, rfl, by simpa using hown3, hb.trans hbel3⟩
end Go.Proofs.YthnpjlnilkbamaaDoor
