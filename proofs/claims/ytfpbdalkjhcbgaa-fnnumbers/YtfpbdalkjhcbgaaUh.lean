/- What spec.l1FromHex, impl.isDigit and impl.hexDigit answer; which rows of signs are hexadecimal. -/
import Derived.Test.YtfpbdalkjhcbgaaRows
import Derived.Test.YtfpbdalkjhcbgaaHx
import Derived.WalkKit
import Derived.WalkSpells
import Derived.WalkLawsBesides
namespace Go.Proofs.Ytfpbdalkjhcbgaa
open Go.RowKit

/-- the number of a hexadecimal digit; -1 of another sign -/
def unhx (c : UInt8) : Int := if 48 ≤ c.toNat ∧ c.toNat ≤ 57 then (c.toNat : Int) - 48 else if 97 ≤ c.toNat ∧ c.toNat ≤ 102 then (c.toNat : Int) - 87 else -1

theorem unhx_hx (k : Nat) (hk : k < 16) : unhx (hx k) = k := by
  have key : ∀ i : Fin 16, unhx (hx i.val) = (i.val : Int) := by decide
  exact key ⟨k, hk⟩

theorem unhx_bd (c : UInt8) : -1 ≤ unhx c ∧ unhx c < 16 := by
  unfold unhx
  split
  · omega
  · split <;> omega

theorem hx_unhx (c : UInt8) (h : 0 ≤ unhx c) : hx (unhx c).toNat = c := by
  have hc := c.toNat_lt
  unfold unhx at h ⊢
  split at h
  · rename_i h1
    rw [if_pos h1]
    unfold hx
    rw [if_pos (by omega), show 48 + ((c.toNat : Int) - 48).toNat = c.toNat from by omega]
    simp
  · rename_i h1
    split at h
    · rename_i h2
      rw [if_neg h1, if_pos h2]
      unfold hx
      rw [if_neg (by omega), show 87 + ((c.toNat : Int) - 87).toNat = c.toNat from by omega]
      simp
    · omega

theorem unhx_none (c : UInt8) (h : ∀ j, j < 16 → hx j ≠ c) : unhx c = -1 := by
  have hb := unhx_bd c
  by_cases h0 : 0 ≤ unhx c
  · exact absurd (hx_unhx c h0) (h _ (by omega))
  · omega

theorem isDigit_any (c : UInt8) (w : World) :
    Calls Try.prog 28 #[.int .u8 (c.toNat : Int)] w fun e w' => e = .returned (.bool (inB c.toNat 48 57)) ∧ w = w' := by
  go_enter Try.func28, Try.ntmps28
  go_wp2
  all_goals go_ret
  · exact ⟨ret_bool (by simp [inB]; omega), rfl⟩
  · exact ⟨ret_bool (by simp [inB]; omega), rfl⟩

set_option maxHeartbeats 400000 in
theorem hexDigit_any (c : UInt8) (w : World) :
    Calls Try.prog 21 #[.int .u8 (c.toNat : Int)] w fun e w' => e = .returned (.int .i64 (unhx c)) ∧ w = w' := by
  have hc := c.toNat_lt
  cases hd : inB (c.toNat : Int) 48 57
  · have h1 := inB_no hd
    cases hl : inB (c.toNat : Int) 97 102
    · have h2 := inB_no hl
      have HU : Hid (unhx c = -1) := by unfold unhx; rw [if_neg (by omega), if_neg (by omega)]; exact rfl
      rcases h2 with h2 | h2
      all_goals
        clear hl h1
        go_enter Try.func21, Try.ntmps21
        go_wp2_with (go_at_call 28; refine (isDigit_any c _).mono ?_; rintro e w' ⟨rfl, rfl⟩)
        go_ret
        exact ⟨ret_int (by rw [HU.out]), rfl⟩
    · have h2 := inB_le hl
      have HU : Hid (unhx c = (c.toNat : Int) - 97 + 10) := by unfold unhx; rw [if_neg (by omega), if_pos (by omega)]; show _ = _; omega
      clear hl h1
      go_enter Try.func21, Try.ntmps21
      go_wp2_with (go_at_call 28; refine (isDigit_any c _).mono ?_; rintro e w' ⟨rfl, rfl⟩)
      go_ret
      exact ⟨ret_int (by rw [HU.out]), rfl⟩
  · have h1 := inB_le hd
    have HU : Hid (unhx c = (c.toNat : Int) - 48) := by unfold unhx; rw [if_pos (by omega)]; exact rfl
    go_enter Try.func21, Try.ntmps21
    go_wp2_with (go_at_call 28; refine (isDigit_any c _).mono ?_; rintro e w' ⟨rfl, rfl⟩)
    go_ret
    exact ⟨ret_int (by rw [HU.out]), rfl⟩

end Go.Proofs.Ytfpbdalkjhcbgaa
