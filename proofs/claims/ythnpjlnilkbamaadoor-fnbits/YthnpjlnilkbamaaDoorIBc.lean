/- A bitmap in a word: bits.OnesCount32, impl.FreeOf. -/
import Derived.Test.YthnpjlnilkbamaaDoorRows
import Derived.Test.YthnpjlnilkbamaaDoorIBb
import Derived.RegionTactic
import Derived.BigQuiet
namespace Go.Proofs.YthnpjlnilkbamaaDoor
open Go.RowKit Go.Sort

/-- how many bits each byte has, as the library's text lays it -/
def popS : ByteArray := (⟨(([0, 1, 1, 2, 1, 2, 2, 3, 1, 2, 2, 3, 2, 3, 3, 4, 1, 2, 2, 3, 2, 3, 3, 4, 2, 3, 3, 4, 3, 4, 4, 5, 1, 2, 2, 3, 2, 3, 3, 4, 2, 3, 3, 4, 3, 4, 4, 5, 2, 3, 3, 4, 3, 4, 4, 5, 3, 4, 4, 5, 4, 5, 5, 6].append [1, 2, 2, 3, 2, 3, 3, 4, 2, 3, 3, 4, 3, 4, 4, 5, 2, 3, 3, 4, 3, 4, 4, 5, 3, 4, 4, 5, 4, 5, 5, 6, 2, 3, 3, 4, 3, 4, 4, 5, 3, 4, 4, 5, 4, 5, 5, 6, 3, 4, 4, 5, 4, 5, 5, 6, 4, 5, 5, 6, 5, 6, 6, 7]).append ([1, 2, 2, 3, 2, 3, 3, 4, 2, 3, 3, 4, 3, 4, 4, 5, 2, 3, 3, 4, 3, 4, 4, 5, 3, 4, 4, 5, 4, 5, 5, 6, 2, 3, 3, 4, 3, 4, 4, 5, 3, 4, 4, 5, 4, 5, 5, 6, 3, 4, 4, 5, 4, 5, 5, 6, 4, 5, 5, 6, 5, 6, 6, 7].append [2, 3, 3, 4, 3, 4, 4, 5, 3, 4, 4, 5, 4, 5, 5, 6, 3, 4, 4, 5, 4, 5, 5, 6, 4, 5, 5, 6, 5, 6, 6, 7, 3, 4, 4, 5, 4, 5, 5, 6, 4, 5, 5, 6, 5, 6, 6, 7, 4, 5, 5, 6, 5, 6, 6, 7, 5, 6, 6, 7, 6, 7, 7, 8])).toArray⟩ : ByteArray)
theorem popS_size : popS.size = 256 := by decide +kernel
theorem popS_all : ∀ i : Fin 256, ((popS[i.val]?).getD 0).toNat = onesN 8 i.val := by decide +kernel
theorem popS_at (i : Nat) (hi : i < 256) (w : World) :
    (Instr.index 9 (.string popS) (.int .u32 (i : Int))).run Tryd.prog w = .ok (.int .u8 (onesN 8 i : Nat)) w := by
  have h := popS_all ⟨i, hi⟩
  have h2 : i < popS.size := by rw [popS_size]; exact hi
  rw [run_index_string w 9 popS .u32 i Tryd.underlying9, dif_pos ⟨by omega, by omega⟩]
  simp only [Int.toNat_natCast]
  rw [ByteArray.getElem?_lt' _ _ h2] at h
  simp only [Option.getD_some] at h
  rw [h]

set_option maxRecDepth 100000 in
set_option maxHeartbeats 1000000 in
theorem ones_any (x : Nat) (hx : x < 16777216) (w : World) :
    Calls Tryd.prog 36 #[.int .u32 x] w fun e w' => e = .returned (.int .i64 (onesN 32 x : Nat)) ∧ Below w.heap.size w w' := by
  have hs := onesN_bytes x
  rw [Nat.div_eq_of_lt hx, onesN_zero, Nat.zero_add] at hs
  have a1 : bits .and .u32 ((x : Int) / 65536) 255 = (x / 65536 % 256 : Nat) := by
    have := u32_and_nat (x / 65536) 255 (by omega) (by decide)
    rw [show (255 : Nat) = 2 ^ 8 - 1 from rfl, Nat.and_two_pow_sub_one_eq_mod] at this
    exact this
  have a2 : bits .and .u32 ((x : Int) / 256) 255 = (x / 256 % 256 : Nat) := by
    have := u32_and_nat (x / 256) 255 (by omega) (by decide)
    rw [show (255 : Nat) = 2 ^ 8 - 1 from rfl, Nat.and_two_pow_sub_one_eq_mod] at this
    exact this
  have a3 : bits .and .u32 (x : Int) 255 = (x % 256 : Nat) := by
    have := u32_and_nat x 255 (by omega) (by decide)
    rw [show (255 : Nat) = 2 ^ 8 - 1 from rfl, Nat.and_two_pow_sub_one_eq_mod] at this
    exact this
  have a0 : (x : Int) / 16777216 = 0 := by omega
  have p0 : ∀ w, (Instr.index 9 (.string popS) (.int .u32 0)).run Tryd.prog w = .ok (.int .u8 0) w := fun w => popS_at 0 (by decide) w
  have p1 := popS_at (x / 65536 % 256) (Nat.mod_lt _ (by decide))
  have p2 := popS_at (x / 256 % 256) (Nat.mod_lt _ (by decide))
  have p3 := popS_at (x % 256) (Nat.mod_lt _ (by decide))
  have n1 := onesN_le 8 (x / 65536 % 256)
  have n2 := onesN_le 8 (x / 256 % 256)
  have n3 := onesN_le 8 (x % 256)
  generalize onesN 8 (x / 65536 % 256) = m1 at *
  generalize onesN 8 (x / 256 % 256) = m2 at *
  generalize onesN 8 (x % 256) = m3 at *
  generalize x / 65536 % 256 = p at *
  generalize x / 256 % 256 = q at *
  generalize x % 256 = r at *
  obtain ⟨i0, i1, i2⟩ : (m1 : Int) ≤ 8 ∧ (m2 : Int) ≤ 8 ∧ (m3 : Int) ≤ 8 := by omega
  rw [hs]
  clear hs
  go_enter Tryd.func36, Tryd.ntmps36
  go_wp2
  rw [show (⟨(([0, 1, 1, 2, 1, 2, 2, 3, 1, 2, 2, 3, 2, 3, 3, 4, 1, 2, 2, 3, 2, 3, 3, 4, 2, 3, 3, 4, 3, 4, 4, 5, 1, 2, 2, 3, 2, 3, 3, 4, 2, 3, 3, 4, 3, 4, 4, 5, 2, 3, 3, 4, 3, 4, 4, 5, 3, 4, 4, 5, 4, 5, 5, 6].append [1, 2, 2, 3, 2, 3, 3, 4, 2, 3, 3, 4, 3, 4, 4, 5, 2, 3, 3, 4, 3, 4, 4, 5, 3, 4, 4, 5, 4, 5, 5, 6, 2, 3, 3, 4, 3, 4, 4, 5, 3, 4, 4, 5, 4, 5, 5, 6, 3, 4, 4, 5, 4, 5, 5, 6, 4, 5, 5, 6, 5, 6, 6, 7]).append ([1, 2, 2, 3, 2, 3, 3, 4, 2, 3, 3, 4, 3, 4, 4, 5, 2, 3, 3, 4, 3, 4, 4, 5, 3, 4, 4, 5, 4, 5, 5, 6, 2, 3, 3, 4, 3, 4, 4, 5, 3, 4, 4, 5, 4, 5, 5, 6, 3, 4, 4, 5, 4, 5, 5, 6, 4, 5, 5, 6, 5, 6, 6, 7].append [2, 3, 3, 4, 3, 4, 4, 5, 3, 4, 4, 5, 4, 5, 5, 6, 3, 4, 4, 5, 4, 5, 5, 6, 4, 5, 5, 6, 5, 6, 6, 7, 3, 4, 4, 5, 4, 5, 5, 6, 4, 5, 5, 6, 5, 6, 6, 7, 4, 5, 5, 6, 5, 6, 6, 7, 5, 6, 6, 7, 6, 7, 7, 8])).toArray⟩ : ByteArray) = popS from rfl]
  go_quiet (fail)
  go_wp2
  go_ret
  exact ⟨ret_int (by omega), ⟨rfl, rfl, rfl, Nat.le_refl _, fun _ _ => rfl⟩⟩

set_option maxRecDepth 100000 in
set_option maxHeartbeats 1000000 in
theorem iFreeOf (v : Value) (b : List Bool) (w : World) (hv : BosAt w v b) :
    Calls Tryd.prog 12 #[v] w fun e w' => e = .returned (.int .i64 (freeN b)) ∧ Below w.heap.size w w' := by
  have HB := iBitsOk v b w hv
  by_cases hb : b.length = 24
  · rw [decide_eq_true hb] at HB
    have HF := iFlagsOf v b w hv hb
    have HR := iFree b hb w
    have HO := ones_any (frN b) (frN_lt hb) w
    rw [← free_ones hb] at HO
    obtain ⟨a, ca, rfl, -, -⟩ := hv
    rw [hb] at HB HF ⊢
    generalize fN b = f at HF HR
    generalize frN b = g at HR HO
    generalize freeN b = r at HO ⊢
    clear hb
    go_enter Tryd.func12, Tryd.ntmps12
    go_wp2_with fail
    refine HB.mono ?_
    rintro e w1 ⟨rfl, rfl⟩
    go_wp2_with fail
    refine HF.mono ?_
    rintro e w1 ⟨rfl, rfl⟩
    go_wp2_with fail
    refine HR.mono ?_
    rintro e w1 ⟨rfl, rfl⟩
    go_wp2_with fail
    refine HO.mono ?_
    rintro e w2 ⟨rfl, b2⟩
    go_wp2
    go_ret
    exact ⟨rfl, b2⟩
  · have hr : freeN b = 0 := by unfold freeN runsN; rw [if_neg hb]; rfl
    rw [decide_eq_false hb] at HB
    rw [hr]
    go_enter Tryd.func12, Tryd.ntmps12
    go_wp2_with fail
    refine HB.mono ?_
    rintro e w1 ⟨rfl, rfl⟩
    go_wp2
    go_ret
    exact ⟨rfl, Below.refl _ _⟩
end Go.Proofs.YthnpjlnilkbamaaDoor
