/- What spec.Dec and impl.Dec answer. -/
import Derived.Test.YtfpbdalkjhcbgajRows
import Derived.Test.YtfpbdalkjhcbgajOwn
import Derived.Test.YtfpbdalkjhcbgajDcNum
import Derived.WalkKit
import Derived.WalkSpells
import Derived.WalkLawsBesides
namespace Go.Proofs.Ytfpbdalkjhcbgaj
open Go.RowKit

theorem str_cons (b : UInt8) (l : List UInt8) : Value.string ((⟨#[b]⟩ : ByteArray) ++ ⟨l.toArray⟩) = Value.string ⟨(b :: l).toArray⟩ := by
  congr 1

/-- where spec.Dec's loop stands: a is left, l is made -/
def Half (D : List UInt8) (a : Nat) (l : List UInt8) : Prop := (a = 0 ∧ l = D) ∨ (a ≠ 0 ∧ ∃ f, fits10 f a ∧ dp f a ++ l = D)

theorem Half_step (D : List UInt8) (a : Nat) (l : List UInt8) (h : Half D a l) (ha : a ≠ 0) : Half D (a / 10) (dig a :: l) := by
  rcases h with ⟨h, _⟩ | ⟨_, f, hf, hd⟩
  · exact absurd h ha
  · by_cases h10 : a < 10
    · refine Or.inl ⟨by omega, ?_⟩
      rw [dp_small f a h10] at hd; exact hd
    · obtain ⟨g, rfl, hg⟩ := fits10_step f a hf (by omega)
      refine Or.inr ⟨by omega, g, hg, ?_⟩
      rw [dp_great g a (by omega), List.append_assoc] at hd; exact hd

theorem sDec_zero (w : World) :
    Calls Try.prog 11 #[.int .i64 0] w fun e w' => e = .returned (.string ⟨(decL 0).toArray⟩) ∧ Below w.heap.size w w' := by
  go_enter Try.func11, Try.ntmps11
  go_wp2
  go_ret
  exact ⟨rfl, Below.refl _ _⟩

set_option maxRecDepth 100000 in
set_option maxHeartbeats 400000 in
theorem sDec_pos (n : Nat) (w : World) (h0 : 0 < n) (h1 : n ≤ 9223372036854775807) :
    Calls Try.prog 11 #[.int .i64 n] w fun e w' => e = .returned (.string ⟨(decL n).toArray⟩) ∧ Below w.heap.size w w' := by
  have HD : Hid (decL n = dp 18 n) := decL_nonneg n
  have hz : ((n : Int) == 0) = false := by rw [beq_eq_false_iff_ne]; omega
  have hdl := (dp_length 18 n).2
  go_enter Try.func11, Try.ntmps11
  go_wp2
  go_loopw [0, 3, 5] (fun q v _ wr => ∃ (a : Nat) (l : List UInt8), a ≤ 9223372036854775807 ∧ l.length ≤ 19 ∧ q = .int .i64 a ∧ v = .string ⟨l.toArray⟩ ∧ Half (dp 18 n) a l ∧ Below w.heap.size w wr) (fun q _ _ _ => (intOf q).toNat)
  case atStart => exact ⟨n, [], by omega, by simp, rfl, rfl, Or.inr ⟨by omega, 18, fits10_all n (by omega), by simp⟩, Below.refl _ _⟩
  case round =>
    obtain ⟨a, l, ha, hl, rfl, rfl, hh, hbel⟩ := hrel
    have HH : Hid (Half (dp 18 n) a l) := hh
    clear hh
    by_cases hz : a = 0
    · have hzb : ((a : Int) != 0) = false := by rw [bne_eq_false_iff_eq]; omega
      have HE : Hid (l = dp 18 n) := by
        rcases HH.out with ⟨_, h⟩ | ⟨h, _⟩
        · exact h
        · exact absurd hz h
      clear hz
      go_wp2
      go_ret
      exact ⟨ret_str (by rw [HD.out, HE.out]), hbel⟩
    · have hzb : ((a : Int) != 0) = true := by rw [bne_iff_ne]; omega
      have HS : Hid (Half (dp 18 n) (a / 10) (dig a :: l)) := Half_step _ _ _ HH.out hz
      have hcv := one_string (P := Try.prog) wr (E := 5) (S := 30) (T := 9) (48 + (a : Int) % 10) (by omega) (by omega) Try.underlying30 Try.underlying5 Try.underlying9
      have HL : Hid ((dig a :: l).length ≤ 19) := by
        rcases HS.out with ⟨_, h⟩ | ⟨_, f, _, h⟩
        · rw [h]; exact hdl
        · have := congrArg List.length h; rw [List.length_append] at this; show _ ≤ _; omega
      have hsz : (⟨l.toArray⟩ : ByteArray).size ≤ 19 := by simpa [ByteArray.size] using hl
      have hap : 0 < a := by omega
      clear hz
      rw [dig_of] at hcv
      go_wp2
      go_roundw
      case rel => exact ⟨a / 10, dig a :: l, by omega, HL.out, by go_num, str_cons _ _, HS.out, hbel.alloc hbel.size _⟩
      case measure => simp [intOf]; omega

set_option maxRecDepth 100000 in
set_option maxHeartbeats 400000 in
theorem sDec_neg (n : Nat) (w : World) (h0 : 0 < n) (h1 : n ≤ 9223372036854775808) :
    Calls Try.prog 11 #[.int .i64 (-(n : Int))] w fun e w' => e = .returned (.string ⟨(decL (-(n : Int))).toArray⟩) ∧ Below w.heap.size w w' := by
  have HD : Hid (decL (-(n : Int)) = 45 :: dp 18 n) := decL_neg n h0
  have hz : (-(n : Int) == 0) = false := by rw [beq_eq_false_iff_ne]; omega
  have hdl := (dp_length 18 n).2
  go_enter Try.func11, Try.ntmps11
  go_wp2
  go_loopw [0, 3, 5] (fun q v _ wr => ∃ (a : Nat) (l : List UInt8), a ≤ 9223372036854775808 ∧ l.length ≤ 19 ∧ q = .int .i64 (-(a : Int)) ∧ v = .string ⟨l.toArray⟩ ∧ Half (dp 18 n) a l ∧ Below w.heap.size w wr) (fun q _ _ _ => (-(intOf q)).toNat)
  case atStart => exact ⟨n, [], by omega, by simp, rfl, rfl, Or.inr ⟨by omega, 18, fits10_all n (by omega), by simp⟩, Below.refl _ _⟩
  case round =>
    obtain ⟨a, l, ha, hl, rfl, rfl, hh, hbel⟩ := hrel
    have HH : Hid (Half (dp 18 n) a l) := hh
    clear hh
    have hsz : (⟨l.toArray⟩ : ByteArray).size ≤ 19 := by simpa [ByteArray.size] using hl
    by_cases hz : a = 0
    · have hzb : (-(a : Int) != 0) = false := by rw [bne_eq_false_iff_eq]; omega
      have HE : Hid (l = dp 18 n) := by
        rcases HH.out with ⟨_, h⟩ | ⟨h, _⟩
        · exact h
        · exact absurd hz h
      clear hz
      go_wp2
      go_ret
      exact ⟨by rw [HD.out, ← HE.out, ← str_cons]; rfl, hbel⟩
    · have hzb : (-(a : Int) != 0) = true := by rw [bne_iff_ne]; omega
      have HS : Hid (Half (dp 18 n) (a / 10) (dig a :: l)) := Half_step _ _ _ HH.out hz
      have hcv := one_string (P := Try.prog) wr (E := 5) (S := 30) (T := 9) (48 + (a : Int) % 10) (by omega) (by omega) Try.underlying30 Try.underlying5 Try.underlying9
      have HL : Hid ((dig a :: l).length ≤ 19) := by
        rcases HS.out with ⟨_, h⟩ | ⟨_, f, _, h⟩
        · rw [h]; exact hdl
        · have := congrArg List.length h; rw [List.length_append] at this; show _ ≤ _; omega
      have hap : 0 < a := by omega
      clear hz
      rw [dig_of] at hcv
      have htd : (-(a : Int)).tdiv 10 = -((a : Int) / 10) := by rw [Int.neg_tdiv, Int.tdiv_eq_ediv_of_nonneg (by omega)]
      by_cases hm : a % 10 = 0
      · have htm : (-(a : Int)).tmod 10 = 0 := by rw [Int.neg_tmod, Int.tmod_eq_emod_of_nonneg (by omega)]; omega
        rw [show 48 + (a : Int) % 10 = 48 from by omega] at hcv
        clear hm
        go_wp2
        go_roundw
        case rel => exact ⟨a / 10, dig a :: l, by omega, HL.out, by go_num, str_cons _ _, HS.out, hbel.alloc hbel.size _⟩
        case measure => simp [intOf]; omega
      · have htm : (-(a : Int)).tmod 10 = -((a : Int) % 10) := by rw [Int.neg_tmod, Int.tmod_eq_emod_of_nonneg (by omega)]
        have hmp : 0 < (a : Int) % 10 := by omega
        clear hm
        go_wp2
        go_roundw
        case rel => exact ⟨a / 10, dig a :: l, by omega, HL.out, by go_num, str_cons _ _, HS.out, hbel.alloc hbel.size _⟩
        case measure => simp [intOf]; omega

end Go.Proofs.Ytfpbdalkjhcbgaj
