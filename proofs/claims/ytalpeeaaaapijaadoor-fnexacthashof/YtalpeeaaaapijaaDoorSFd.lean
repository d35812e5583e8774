/- Names: spec.Fold: its contract. -/
import Derived.Test.YtalpeeaaaapijaaDoorRows
import Derived.Test.YtalpeeaaaapijaaDoorSgn
import Derived.Test.YtalpeeaaaapijaaDoorTak
import Derived.Test.YtalpeeaaaapijaaDoorApt
namespace Go.Proofs.YtalpeeaaaapijaaDoor
open Go.RowKit

theorem foldN_ne (c : Int) : foldN c ≠ [] ∧ (foldN c).length ≤ 2 := by
  unfold foldN
  repeat' split
  all_goals simp
theorem flat_len (f : Int → List Int) (b : Nat) (h : ∀ c, (f c).length ≤ b) (l : List Int) : (l.flatMap f).length ≤ b * l.length := by
  induction l with
  | nil => simp
  | cons c l ih =>
    rw [List.flatMap_cons, List.length_append, List.length_cons, Nat.mul_add]
    have := h c
    omega

set_option maxRecDepth 100000 in
set_option maxHeartbeats 1000000 in
theorem sFold (v : Value) (l : List Int) (w : World) (hl : l.length ≤ 16777216) (hv : IntsAt w v l) :
    Calls Tryd.prog 36 #[v] w fun e w' => ∃ u, e = .returned u ∧ IntRow w' w.heap.size u (foldsN l) ∧ Below w.heap.size w w' := by
  obtain ⟨a, ca, rfl, hva⟩ := hv
  have HT := flatMap_take l foldN
  have HE : Hid ((l.take l.length).flatMap foldN = foldsN l) := by show _ = _; rw [List.take_length]; rfl
  have HL : ∀ k, ((l.take k).flatMap foldN).length ≤ 2 * l.length := fun k => Nat.le_trans (flat_len foldN 2 (fun c => (foldN_ne c).2) _) (by simp; omega)
  obtain ⟨n, HN⟩ : ∃ n, Hid (n = l.length) := ⟨_, rfl⟩
  rw [← HN.out] at hva hl HE HL ⊢
  generalize foldsN l = r at HE ⊢
  go_enter Tryd.func36, Tryd.ntmps36
  go_wp2
  go_loopw [3, 4] (fun o i wr => ∃ k : Nat, k ≤ n ∧ i = .int .i64 k ∧ IntRow wr w.heap.size o ((l.take k).flatMap foldN) ∧ Below w.heap.size w wr) (fun _ i _ => n - (intOf i).toNat)
  case atStart => exact ⟨0, Nat.zero_le _, rfl, by simpa using lit_at w #[] [] 0 rfl rfl (by decide), below_lit _ _⟩
  case round =>
    obtain ⟨k, hk, rfl, hown, hbel⟩ := hrel
    by_cases hlt : k < n
    · obtain ⟨b1, o1, rfl, hb1, hc1⟩ := hva k hlt
      have hc1' := (hbel.cell (p := ⟨b1, o1 + k, none⟩) hb1).trans hc1
      have HS : Hid ((l.take (k + 1)).flatMap foldN = (l.take k).flatMap foldN ++ foldN (l.getD k 0)) := HT k (by rw [← HN.out]; exact hlt)
      have hll := HL k
      have hnn := foldN_ne (l.getD k 0)
      have hH := fun w' => sFoldOf (l.getD k 0) w'
      generalize l.getD k 0 = d at hc1' HS hnn hH
      generalize (l.take k).flatMap foldN = q at hown HS hll
      generalize foldN d = m at HS hnn hH
      go_wp2_with (first | (go_at_call 56; refine (hH _).mono ?_; rintro e w2 ⟨u, rfl, hrow2, hb2⟩; have hown2 := hown.below hb2; have hbel2 := hbel.trans (hb2.mono hbel.size)) | (at_builtin; refine append_ints w2 rfl (.tmp 12) (.tmp 17) rfl w.heap.size _ u q m hnn.1 (by omega) hown2 hrow2.at rfl rfl hbel2.size ?_; intro v' w3 hown3 hbel3))
      go_roundw
      case rel => exact ⟨k + 1, by omega, by go_num, by rw [HS.out]; exact hown3, hbel2.trans hbel3⟩
      case measure => simp [intOf]; omega
    · obtain rfl : k = n := by omega
      rw [HE.out] at hown
      go_wp2
      go_ret
      exact ⟨_, rfl, hown, hbel⟩

end Go.Proofs.YtalpeeaaaapijaaDoor
