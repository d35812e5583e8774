/- What spec.Var and impl.Var answer, at every argument. -/
import Derived.Test.YtfdahfealibbnaaDoorRows
import Derived.Test.YtfdahfealibbnaaDoorOwn
import Derived.Test.YtfdahfealibbnaaDoorVarNum
import Derived.Test.YtfdahfealibbnaaDoorRdFix
import Derived.Test.YtfdahfealibbnaaDoorFix
import Derived.WalkKit
import Derived.WalkSpells
import Derived.WalkLawsBesides
namespace Go.Proofs.YtfdahfealibbnaaDoor
open Go.RowKit

theorem sVar_no (n : Int) (w : World) (h : inB n 0 562949953421311 = false) :
    Calls Tryd.prog 21 #[.int .i64 n] w fun e w' => e = .returned (.string ⟨#[]⟩) ∧ w = w' := by
  go_enter Tryd.func21, Tryd.ntmps21
  go_wp2_with (go_at_call 43; refine (in_any _ _ _ _).mono ?_; rintro e w' ⟨rfl, rfl⟩)
  go_ret
  exact ⟨rfl, rfl⟩

set_option maxRecDepth 100000 in
set_option maxHeartbeats 400000 in
theorem sVar_yes (n : Int) (w : World) (hb : inB n 0 562949953421311 = true) :
    Calls Tryd.prog 21 #[.int .i64 n] w fun e w' => e = .returned (.string ⟨(varL 6 n).toArray⟩) ∧ Below w.heap.size w w' := by
  have hn := inB_le hb
  go_enter Tryd.func21, Tryd.ntmps21
  go_wp2_with (go_at_call 43; refine (in_any _ _ _ _).mono ?_; rintro e w' ⟨rfl, rfl⟩)
  go_loopw [0, 3] (fun q v wr => ∃ (f : Nat) (l : List UInt8) (m : Int), q = .int .i64 m ∧ 0 ≤ m ∧ m ≤ 562949953421311 ∧ fits f m ∧ l.length + f = 6 ∧ l ++ varL f m = varL 6 n ∧ wr.ownsRow w.heap.size 5 1 v l.length (bytesV l) ∧ Below w.heap.size w wr) (fun q _ _ => (intOf q).toNat)
  case atStart => exact ⟨6, [], n, rfl, hn.1, hn.2, by unfold fits; omega, rfl, rfl, empty_row _ _, (Below.refl _ _).alloc (Nat.le_refl _) _⟩
  case round =>
    obtain ⟨f, l, m, rfl, hm0, hm1, hf, hlf, hl, hown, hbel⟩ := hrel
    have HL : Hid (l ++ varL f m = varL 6 n) := hl
    have HF : Hid (fits f m) := hf
    clear hl hf
    by_cases hlt : 128 ≤ m
    · obtain ⟨g, hg, hfg⟩ := fits_step f m HF.out hlt
      have HG : Hid (f = g + 1 ∧ fits g (m / 128)) := ⟨hg, hfg⟩
      clear hg hfg
      go_wp2_with (at_builtin; (refine append_byte wr rfl (.tmp 10) (.tmp 15) 37 5 rfl w.heap.size Tryd.underlying37 Tryd.infoU8 _ l (128 + m % 128) (by omega) (by omega) (by omega) hown rfl rfl hbel.size ?_); intro v' w1 hown1 hbel1)
      go_roundw
      case rel =>
        obtain ⟨rfl, hfg⟩ := HG.out
        refine ⟨g, l ++ [UInt8.ofNat (128 + m % 128).toNat], m / 128, rfl, by omega, by omega, hfg, by simp; omega, ?_, hown1, hbel.trans hbel1⟩
        rw [← HL.out, varL_great _ _ hlt, Int.add_comm 128, List.append_assoc]; rfl
      case measure => simp [intOf]; omega
    · have HZ : Hid (l ++ [UInt8.ofNat m.toNat] = varL 6 n) := by have h1 := HL.out; rw [varL_small f m (by omega)] at h1; exact h1
      go_wp2_with (at_builtin; refine append_byte wr rfl (.tmp 19) (.tmp 22) 37 5 rfl w.heap.size Tryd.underlying37 Tryd.infoU8 _ l m (by omega) (by omega) (by omega) hown rfl rfl hbel.size ?_; intro v' w1 hown1 hbel1; have hcv := row_string (P := Tryd.prog) (T := 9) Tryd.underlying37 Tryd.underlying5 Tryd.underlying9 hown1)
      go_ret
      exact ⟨ret_str (by rw [HZ.out]), hbel.trans hbel1⟩

theorem iVar_no (n : Int) (w : World) (h : inB n 0 562949953421311 = false) :
    Calls Tryd.prog 27 #[.int .i64 n] w fun e w' => e = .returned (.string ⟨#[]⟩) ∧ w = w' := by
  rcases inB_no h with h1 | h1
  · go_enter Tryd.func27, Tryd.ntmps27
    go_wp2
    go_ret
    exact ⟨rfl, rfl⟩
  · go_enter Tryd.func27, Tryd.ntmps27
    go_wp2
    go_ret
    exact ⟨rfl, rfl⟩

set_option maxRecDepth 100000 in
set_option maxHeartbeats 400000 in
theorem iVar_yes (n : Int) (w : World) (hb : inB n 0 562949953421311 = true) :
    Calls Tryd.prog 27 #[.int .i64 n] w fun e w' => e = .returned (.string ⟨(varL 6 n).toArray⟩) ∧ Below w.heap.size w w' := by
  have hn := inB_le hb
  obtain ⟨i0, hi, hz0, hz1, hz2⟩ := info_parts Tryd.infoU8
  go_enter Tryd.func27, Tryd.ntmps27
  go_wp2_with (at_make; refine wpList_make_own _ rfl _ _ 37 rfl w.heap.size 5 i0 (.int .u8 0) 1 Tryd.underlying37 hi hz0 hz1 .i64 .i64 _ 7 rfl rfl rfl (by rw [hz2]; omega) (by unfold maxLen; omega) (Nat.le_refl _) ?_; intro w1 hown1 hgrow1)
  have hbel2 : Below w.heap.size w w1 := (Below.refl _ _).grown hgrow1 (Nat.le_refl _) (fun _ h => by cases h)
  clear hgrow1 hi hz0 hz1 hz2
  go_loopw [0, 3, 11] (fun q v i wr => ∃ (f : Nat) (l : List UInt8) (m : Int), q = .int .i64 m ∧ i = .int .i64 l.length ∧ 0 ≤ m ∧ m ≤ 562949953421311 ∧ fits f m ∧ l.length + f = 6 ∧ l ++ varL f m = varL 6 n ∧ wr.ownsRow w.heap.size 5 1 v l.length (bytesV l) ∧ Below w.heap.size w wr) (fun q _ _ _ => (intOf q).toNat)
  case atStart => exact ⟨6, [], n, rfl, rfl, hn.1, hn.2, by unfold fits; omega, rfl, rfl, hown1, hbel2⟩
  case round =>
    obtain ⟨f, l, m, rfl, rfl, hm0, hm1, hf, hlf, hl, hown, hbel⟩ := hrel
    have HL : Hid (l ++ varL f m = varL 6 n) := hl
    have HF : Hid (fits f m) := hf
    clear hl hf
    by_cases hlt : 128 ≤ m
    · obtain ⟨g, hg, hfg⟩ := fits_step f m HF.out hlt
      have HG : Hid (f = g + 1 ∧ fits g (m / 128)) := ⟨hg, hfg⟩
      clear hg hfg
      go_wp2_with (at_builtin; refine append_byte wr rfl (.tmp 15) (.tmp 20) 37 5 rfl w.heap.size Tryd.underlying37 Tryd.infoU8 _ l (m % 128 + 128) (by omega) (by omega) (by omega) hown rfl rfl hbel.size ?_; intro v' w1 hown1 hbel1)
      go_roundw
      case rel =>
        obtain ⟨rfl, hfg⟩ := HG.out
        refine ⟨g, l ++ [UInt8.ofNat (m % 128 + 128).toNat], m / 128, rfl, by rw [List.length_append]; go_num, by omega, by omega, hfg, by simp; omega, ?_, hown1, hbel.trans hbel1⟩
        rw [← HL.out, varL_great _ _ hlt, List.append_assoc]; rfl
      case measure => simp [intOf]; omega
    · have HZ : Hid (l ++ [UInt8.ofNat m.toNat] = varL 6 n) := by have h1 := HL.out; rw [varL_small f m (by omega)] at h1; exact h1
      go_wp2_with (at_builtin; refine append_byte wr rfl (.tmp 25) (.tmp 28) 37 5 rfl w.heap.size Tryd.underlying37 Tryd.infoU8 _ l m (by omega) (by omega) (by omega) hown rfl rfl hbel.size ?_; intro v' w1 hown1 hbel1; have hcv := row_string (P := Tryd.prog) (T := 9) Tryd.underlying37 Tryd.underlying5 Tryd.underlying9 hown1)
      go_ret
      exact ⟨ret_str (by rw [HZ.out]), hbel.trans hbel1⟩

end Go.Proofs.YtfdahfealibbnaaDoor
