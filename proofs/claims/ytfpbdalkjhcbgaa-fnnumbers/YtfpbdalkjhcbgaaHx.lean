/- What spec.l1Digit, spec.Hex and impl.Hex answer. -/
import Derived.Test.YtfpbdalkjhcbgaaRows
import Derived.Test.YtfpbdalkjhcbgaaStep
import Derived.WalkKit
import Derived.WalkSpells
import Derived.WalkLawsBesides
namespace Go.Proofs.Ytfpbdalkjhcbgaa
open Go.RowKit

theorem Try.infoU8 : (Try.prog.info? 5).map (fun i => (i.zero, i.size, i.bytes)) = some (some (.int .u8 0), 1, 1) := by kernel_rfl

/-- the sign of a hexadecimal digit -/
def hx (k : Nat) : UInt8 := if k < 10 then UInt8.ofNat (48 + k) else UInt8.ofNat (87 + k)

def hexL (l : List UInt8) : List UInt8 := l.flatMap fun b => [hx (b.toNat / 16), hx (b.toNat % 16)]

theorem hexL_snoc (l : List UInt8) (b : UInt8) : hexL (l ++ [b]) = hexL l ++ [hx (b.toNat / 16), hx (b.toNat % 16)] := by simp [hexL]

theorem hexL_length (l : List UInt8) : (hexL l).length = 2 * l.length := by
  induction l with
  | nil => rfl
  | cons b l ih => simp [hexL] at ih ⊢; omega

def hexS : ByteArray := ⟨#[48, 49, 50, 51, 52, 53, 54, 55, 56, 57, 97, 98, 99, 100, 101, 102]⟩

theorem hx_at (k : Nat) (hk : k < 16) : ∀ h : k < (⟨#[48, 49, 50, 51, 52, 53, 54, 55, 56, 57, 97, 98, 99, 100, 101, 102]⟩ : ByteArray).size, ((⟨#[48, 49, 50, 51, 52, 53, 54, 55, 56, 57, 97, 98, 99, 100, 101, 102]⟩ : ByteArray)[k]'h) = hx k := by
  have key : ∀ i : Fin 16, ((⟨#[48, 49, 50, 51, 52, 53, 54, 55, 56, 57, 97, 98, 99, 100, 101, 102]⟩ : ByteArray)[i.val]'(i.isLt)) = hx i.val := by decide
  intro h
  exact key ⟨k, hk⟩

theorem u8_wrap (n : Int) (h0 : 0 ≤ n) (h1 : n < 256) : IntKind.u8.wrap n = n := by rw [IntKind.wrap_u8]; omega

set_option maxRecDepth 100000 in
set_option maxHeartbeats 400000 in
theorem iHex_any (s : ByteArray) (w : World) (hs : s.size ≤ 1048576) :
    Calls Try.prog 14 #[.string s] w fun e w' => e = .returned (.string ⟨(hexL s.data.toList).toArray⟩) ∧ Below w.heap.size w w' := by
  obtain ⟨i0, hi, hz0, hz1, hz2⟩ := info_parts Try.infoU8
  go_enter Try.func14, Try.ntmps14
  go_wp2_with (at_make; refine wpList_make_own _ rfl _ _ 22 rfl w.heap.size 5 i0 (.int .u8 0) 1 Try.underlying22 hi hz0 hz1 .i64 .i64 _ (2 * s.size) rfl rfl (by omega) (by rw [hz2]; omega) (by unfold maxLen; omega) (Nat.le_refl _) ?_; intro w1 hown1 hgrow1)
  have hbel2 : Below w.heap.size w w1 := (Below.refl _ _).grown hgrow1 (Nat.le_refl _) (fun _ h => by cases h)
  clear hgrow1 hi hz0 hz1 hz2
  go_loopw [3, 11] (fun v i wr => ∃ k : Nat, k ≤ s.size ∧ i = .int .i64 k ∧ wr.ownsRow w.heap.size 5 1 v (hexL (s.data.toList.take k)).length (bytesV (hexL (s.data.toList.take k))) ∧ Below w.heap.size w wr) (fun _ i _ => s.size - (intOf i).toNat)
  case atStart => exact ⟨0, Nat.zero_le _, rfl, by simpa [hexL, bytesV] using hown1, hbel2⟩
  case round =>
    obtain ⟨k, hk, rfl, hown, hbel⟩ := hrel
    by_cases hlt : k < s.size
    · have hc := s[k].toNat_lt
      have HT : Hid (hexL (s.data.toList.take (k + 1)) = hexL (s.data.toList.take k) ++ [hx (s[k].toNat / 16), hx (s[k].toNat % 16)]) := by rw [take_snoc s k hlt]; exact hexL_snoc _ _
      have hlen : (hexL (s.data.toList.take k)).length ≤ 2097152 := by rw [hexL_length, List.length_take]; omega
      have hw1 : IntKind.u8.wrap ((s[k].toNat : Int) / 16) = ((s[k].toNat / 16 : Nat) : Int) := by rw [u8_wrap _ (by omega) (by omega)]; omega
      have hw2 : (s[k].toNat : Int).tmod 16 = ((s[k].toNat % 16 : Nat) : Int) := by rw [Int.tmod_eq_emod_of_nonneg (by omega)]; omega
      have hb1 : s[k].toNat / 16 < 16 := by omega
      have hb2 : s[k].toNat % 16 < 16 := by omega
      generalize s[k].toNat / 16 = q1 at *
      generalize s[k].toNat % 16 = q2 at *
      have hb1i : (q1 : Int) < 16 := by omega
      have hb2i : (q2 : Int) < 16 := by omega
      have hx1 := hx_at q1 hb1
      have hx2 := hx_at q2 hb2
      go_wp2
      go_region_law (refine step_append rfl (.tmp 14) (.tmp 25) 22 5 rfl w.heap.size Try.underlying22 Try.infoU8 u3 (hexL (s.data.toList.take k)) ?_ ?_ ⟨wr.heap.size, 0, none⟩ [hx q1, hx q2] 2 ?_ ?_ ?_ ?_ ?_; (first | exact (hown.alloc _).drew | exact hown.drew.alloc _); (simp [Act.eval]); (simp [Act.eval]); (exact cell_two wr 5 (hx q1) (hx q2)); (simp; omega); (have := hbel.size; simp; omega); intro v' w1 hown1 hbel1)
      all_goals
        have hbel3 : Below w.heap.size w w1 := ((hbel.alloc hbel.size _).drew).trans hbel1
        clear hbel1 hw1 hw2 hx1 hx2 hb1i hb2i
        go_wp2
        go_roundw
        case rel => exact ⟨k + 1, by omega, by go_num, by rw [HT.out]; exact hown1, hbel3⟩
        case measure => simp [intOf]; omega
    · have hkd : s.data.toList.take k = s.data.toList := List.take_of_length_le (by rw [Array.length_toList]; have hss : s.data.size = s.size := rfl; omega)
      rw [hkd] at hown
      have hcv := row_string (P := Try.prog) (T := 9) Try.underlying22 Try.underlying5 Try.underlying9 hown
      clear hkd
      go_wp2
      go_ret
      exact ⟨rfl, hbel⟩

end Go.Proofs.Ytfpbdalkjhcbgaa
