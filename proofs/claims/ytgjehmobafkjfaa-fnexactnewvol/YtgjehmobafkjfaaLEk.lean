/- Marks of texts: what laws.markText answers. -/
import Derived.Test.YtgjehmobafkjfaaRows
import Derived.Test.YtgjehmobafkjfaaLEm
namespace Go.Proofs.Ytgjehmobafkjfaa
open Go.RowKit

def digs (k : Nat) (acc : List UInt8) : List UInt8 := if k = 0 then acc else digs (k / 10) (UInt8.ofNat (48 + k % 10) :: acc)
  termination_by k
  decreasing_by omega
theorem digs_zero (acc : List UInt8) : digs 0 acc = acc := by unfold digs; rfl
theorem digs_pos {k : Nat} (h : 0 < k) (acc : List UInt8) : digs k acc = digs (k / 10) (UInt8.ofNat (48 + k % 10) :: acc) := by
  rw [digs, if_neg (by omega)]
def mkT (k : Nat) : ByteArray := ⟨(109 :: digs k []).toArray⟩

set_option maxRecDepth 100000 in
set_option maxHeartbeats 1000000 in
theorem markText_any (k : Nat) (w : World) (h0 : 0 < k) (h1 : k ≤ 1000000000) :
    Calls Try.prog 21 #[.int .i64 k] w fun e w' => e = .returned (.string (mkT k)) ∧ Below w.heap.size w w' := by
  have hk : ¬ ((k : Int) ≤ 0) := by omega
  go_enter Try.func21, Try.ntmps21
  go_wp2
  go_loopw [0, 3] (fun q sv wr => ∃ (m : Nat) (l : List UInt8), m + l.length ≤ k ∧ q = .int .i64 m ∧ sv = .string ⟨l.toArray⟩ ∧ Hid (digs m l = digs k []) ∧ Below w.heap.size w wr) (fun q _ _ => (intOf q).toNat)
  case atStart => exact ⟨k, [], by simp, rfl, rfl, rfl, Below.refl _ _⟩
  case round =>
    obtain ⟨m, l, hm, rfl, rfl, HD, hbel⟩ := hrel
    by_cases hlt : 0 < m
    · have hm0 : (0 : Int) < (m : Int) := by omega
      have HG : Hid (digs (m / 10) (UInt8.ofNat (48 + m % 10) :: l) = digs k []) := by show _ = _; rw [← digs_pos hlt]; exact HD.out
      have hcv := one_string (P := Try.prog) wr (E := 5) (S := 47) (T := 9) (48 + (m : Int) % 10) (by omega) (by omega) Try.underlying47 Try.underlying5 Try.underlying9
      have hbl := below_lit wr (.cells #[.int .u8 (48 + (m : Int) % 10)] 5)
      go_wp2
      refine ⟨⟨m / 10, UInt8.ofNat (48 + m % 10) :: l, by simp; omega, by go_num, ?_, HG.out, hbel.trans (hbl.mono hbel.size)⟩, by simp [intOf]; omega⟩
      refine congrArg Value.string (list_ext ?_)
      simp [UInt8.ofNat_add]
    · have hm1 : m = 0 := by omega
      have HE : Hid (l = digs k []) := by show _ = _; rw [← HD.out, hm1, digs_zero]
      have hm0 : ¬ ((0 : Int) < (m : Int)) := by omega
      clear hm1
      go_wp2
      go_ret
      refine ⟨?_, hbel⟩
      rw [HE.out]
      refine congrArg (fun x => Ending.returned (Value.string x)) (list_ext ?_)
      simp [mkT]

end Go.Proofs.Ytgjehmobafkjfaa
