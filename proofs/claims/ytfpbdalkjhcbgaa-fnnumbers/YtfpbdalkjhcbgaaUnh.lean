/- What spec.Unhex and impl.Unhex answer. -/
import Derived.Test.YtfpbdalkjhcbgaaRows
import Derived.Test.YtfpbdalkjhcbgaaUh
import Derived.WalkKit
import Derived.WalkSpells
import Derived.WalkLawsBesides
import Derived.WalkMore
import Derived.LoopN
namespace Go.Proofs.Ytfpbdalkjhcbgaa
open Go.RowKit

/-- the bytes that a row of hexadecimal digits says; none of another row -/
def unhexL : List UInt8 → Option (List UInt8)
  | [] => some []
  | [_] => none
  | a :: b :: r => if unhx a < 0 ∨ unhx b < 0 then none else (unhexL r).map (UInt8.ofNat (16 * unhx a + unhx b).toNat :: ·)

theorem unhexL_odd : ∀ l : List UInt8, l.length % 2 = 1 → unhexL l = none
  | [], h => by simp at h
  | [_], _ => rfl
  | a :: b :: r, h => by
    have := unhexL_odd r (by simp at h; omega)
    simp [unhexL, this]

/-- behind k pairs that are good, m being their bytes -/
def Mid (l : List UInt8) (k : Nat) (m : List UInt8) : Prop := m.length = k ∧ unhexL l = (unhexL (l.drop (2 * k))).map (m ++ ·)

theorem Mid_start (l : List UInt8) : Mid l 0 [] := ⟨rfl, by cases h : unhexL l <;> simp [h]⟩

theorem drop_two (l : List UInt8) (k : Nat) (h : 2 * k + 1 < l.length) : l.drop (2 * k) = l[2 * k] :: l[2 * k + 1] :: l.drop (2 * (k + 1)) := by
  rw [List.drop_eq_getElem_cons (by omega), List.drop_eq_getElem_cons (i := 2 * k + 1) (by omega)]
  rfl

theorem Mid_bad (l : List UInt8) (k : Nat) (m : List UInt8) (h : 2 * k + 1 < l.length) (hm : Mid l k m) (hb : unhx l[2 * k] < 0 ∨ unhx l[2 * k + 1] < 0) : unhexL l = none := by
  rw [hm.2, drop_two l k h, unhexL, if_pos hb]; rfl

theorem Mid_good (l : List UInt8) (k : Nat) (m : List UInt8) (h : 2 * k + 1 < l.length) (hm : Mid l k m) (ha : 0 ≤ unhx l[2 * k]) (hb : 0 ≤ unhx l[2 * k + 1]) :
    Mid l (k + 1) (m ++ [UInt8.ofNat (16 * unhx l[2 * k] + unhx l[2 * k + 1]).toNat]) := by
  refine ⟨by simp [hm.1], ?_⟩
  rw [hm.2, drop_two l k h, unhexL, if_neg (by omega)]
  cases unhexL (l.drop (2 * (k + 1))) <;> simp

theorem Mid_end (l : List UInt8) (k : Nat) (m : List UInt8) (h : l.length ≤ 2 * k) (hm : Mid l k m) : unhexL l = some m := by
  rw [hm.2, List.drop_of_length_le h]; simp [unhexL]

def uhB (l : List UInt8) : Bool := (unhexL l).isSome
def uhL (l : List UInt8) : List UInt8 := (unhexL l).getD []

theorem uh_none {l : List UInt8} (h : unhexL l = none) : uhB l = false ∧ uhL l = [] := by simp [uhB, uhL, h]
theorem uh_some {l m : List UInt8} (h : unhexL l = some m) : uhB l = true ∧ uhL l = m := by simp [uhB, uhL, h]

theorem ret_uh {a b : List UInt8} {x y : Bool} (h : a = b) (g : x = y) : Ending.returned (.tuple #[.string ⟨a.toArray⟩, .bool x]) = .returned (.tuple #[.string ⟨b.toArray⟩, .bool y]) := by rw [h, g]

set_option maxRecDepth 100000 in
set_option maxHeartbeats 800000 in
theorem iUnhex_any (s : ByteArray) (w : World) (hs : s.size ≤ 1048576) :
    Calls Try.prog 13 #[.string s] w fun e w' => e = .returned (.tuple #[.string ⟨(uhL s.data.toList).toArray⟩, .bool (uhB s.data.toList)]) ∧ Below w.heap.size w w' := by
  have hss : s.data.toList.length = s.size := by rw [Array.length_toList]; rfl
  by_cases hodd : s.size % 2 = 1
  · have HU := uh_none (unhexL_odd s.data.toList (by omega))
    have HV : Hid (uhB s.data.toList = false ∧ uhL s.data.toList = []) := HU
    have hb : ((s.size : Int) % 2 != 0) = true := by rw [bne_iff_ne]; omega
    clear HU hss
    go_enter Try.func13, Try.ntmps13
    go_wp2
    go_step3
    go_wp2
    try rw [Exit.noGoto_ret]
    go_ret2
    exact ⟨ret_uh HV.out.2.symm HV.out.1.symm, Below.refl _ _⟩
  · have hb : ((s.size : Int) % 2 != 0) = false := by rw [bne_eq_false_iff_eq]; omega
    have HSS : Hid (s.data.toList.length = s.size) := hss
    obtain ⟨d, hd⟩ : ∃ d, s.size = 2 * d := ⟨s.size / 2, by omega⟩
    have hd1 : 2 * d ≤ s.size := by omega
    have hd2 : s.size ≤ 2 * d := by omega
    have hq : (s.size : Int) / 2 = d := by omega
    clear hss hd
    obtain ⟨i0, hi, hz0, hz1, hz2⟩ := info_parts Try.infoU8
    go_enter Try.func13, Try.ntmps13
    go_wp2
    go_step3
    go_wp2_with (at_make; refine wpList_make_own _ rfl _ _ 22 rfl w.heap.size 5 i0 (.int .u8 0) 1 Try.underlying22 hi hz0 hz1 .i64 .i64 _ d rfl rfl rfl (by rw [hz2]; omega) (by unfold maxLen; omega) (Nat.le_refl _) ?_; intro w1 hown1 hgrow1)
    have hbel2 : Below w.heap.size w w1 := (Below.refl _ _).grown hgrow1 (Nat.le_refl _) (fun _ h => by cases h)
    clear hgrow1 hi hz0 hz1 hz2
    go_step3
    go_wp2
    go_loopw [5, 20] (fun v i wr => ∃ (k : Nat) (m : List UInt8), k ≤ d ∧ i = .int .i64 k ∧ Mid s.data.toList k m ∧ wr.ownsRow w.heap.size 5 1 v m.length (bytesV m) ∧ Below w.heap.size w wr) (fun _ i _ => d - (intOf i).toNat)
    case atStart => exact ⟨0, [], by omega, rfl, Mid_start _, by simpa [bytesV] using hown1, hbel2⟩
    case round =>
      obtain ⟨k, m, hk, rfl, hm, hown, hbel⟩ := hrel
      have HM : Hid (Mid s.data.toList k m) := hm
      have hml : m.length ≤ 1048576 := by rw [hm.1]; omega
      clear hm
      by_cases hlt : k < d
      · have h1 : 2 * k + 1 < s.size := by omega
        by_cases hg : 0 ≤ unhx s[2 * k] ∧ 0 ≤ unhx s[2 * k + 1]
        · have hba := unhx_bd s[2 * k]
          have hbb := unhx_bd s[2 * k + 1]
          have HG : Hid (Mid s.data.toList (k + 1) (m ++ [UInt8.ofNat (16 * unhx s[2 * k] + unhx s[2 * k + 1]).toNat])) := Mid_good _ k m (by rw [HSS.out]; exact h1) HM.out hg.1 hg.2
          have hga := hg.1
          have hgb := hg.2
          clear hg
          go_wp2
          refine wp_loop_rounds 3 ?_
          rw [rounds_succ]
          go_wp2_with (go_at_call 21; refine (hexDigit_any _ _).mono ?_; rintro e w' ⟨rfl, rfl⟩)
          rw [rounds_succ]
          go_wp2_with (go_at_call 21; refine (hexDigit_any _ _).mono ?_; rintro e w' ⟨rfl, rfl⟩)
          rw [rounds_succ]
          go_wp2_with (at_builtin; refine append_byte wr rfl (.tmp 40) (.tmp 43) 22 5 rfl w.heap.size Try.underlying22 Try.infoU8 _ m (16 * unhx s[2 * k] + unhx s[2 * k + 1]) (by omega) (by omega) (by omega) hown rfl rfl hbel.size ?_; intro v' w1 hown1 hbel1)
          go_roundw
          case rel => exact ⟨k + 1, _, by omega, by go_num, HG.out, hown1, hbel.trans hbel1⟩
          case measure => simp [intOf]; omega
        · have HV : Hid (uhB s.data.toList = false ∧ uhL s.data.toList = []) := uh_none (Mid_bad _ k m (by rw [HSS.out]; exact h1) HM.out (by show unhx s[2 * k] < 0 ∨ unhx s[2 * k + 1] < 0; omega))
          have hmk : m.length ≤ k := by rw [HM.out.1]; exact Nat.le_refl _
          have hba := unhx_bd s[2 * k]
          by_cases hga : 0 ≤ unhx s[2 * k]
          · have hgb : unhx s[2 * k + 1] < 0 := by omega
            clear hg
            rcases hown.2 with ⟨rfl, h0⟩ | ⟨g, cap, cur, rfl, _, _, _, _, _, _⟩
            all_goals
              clear hown
              go_wp2
              refine wp_loop_rounds 3 ?_
              rw [rounds_succ]
              go_wp2_with (go_at_call 21; refine (hexDigit_any _ _).mono ?_; rintro e w' ⟨rfl, rfl⟩)
              rw [rounds_succ]
              go_wp2_with (go_at_call 21; refine (hexDigit_any _ _).mono ?_; rintro e w' ⟨rfl, rfl⟩)
              try rw [Exit.noGoto_ret]
              go_ret2
              exact ⟨ret_uh HV.out.2.symm HV.out.1.symm, hbel⟩
          · have hgb : unhx s[2 * k] < 0 := by omega
            clear hg hga
            rcases hown.2 with ⟨rfl, h0⟩ | ⟨g, cap, cur, rfl, _, _, _, _, _, _⟩
            all_goals
              clear hown
              go_wp2
              refine wp_loop_rounds 3 ?_
              rw [rounds_succ]
              go_wp2_with (go_at_call 21; refine (hexDigit_any _ _).mono ?_; rintro e w' ⟨rfl, rfl⟩)
              try rw [Exit.noGoto_ret]
              go_ret2
              exact ⟨ret_uh HV.out.2.symm HV.out.1.symm, hbel⟩
      · have HV : Hid (uhB s.data.toList = true ∧ uhL s.data.toList = m) := uh_some (Mid_end _ k m (by rw [HSS.out]; omega) HM.out)
        have hcv := row_string (P := Try.prog) (T := 9) Try.underlying22 Try.underlying5 Try.underlying9 hown
        have hmk : k ≤ m.length := by rw [HM.out.1]; exact Nat.le_refl _
        rcases hown.2 with ⟨rfl, h0⟩ | ⟨g, cap, cur, rfl, _, _, _, _, _, _⟩
        all_goals
          clear hown
          go_wp2
          try rw [Exit.noGoto_ret]
          go_ret2
          exact ⟨ret_uh HV.out.2.symm HV.out.1.symm, hbel⟩

end Go.Proofs.Ytfpbdalkjhcbgaa
