/- Names: spec.l4Take and spec.Fold: their contracts. -/
import Derived.Test.YtkgnlamlmnhleaaRows
import Derived.Test.YtkgnlamlmnhleaaSgn
import Derived.Test.YtkgnlamlmnhleaaPrt3
import Derived.Test.YtkgnlamlmnhleaaTak
import Derived.Test.YtkgnlamlmnhleaaApt
namespace Go.Proofs.Ytkgnlamlmnhleaa
open Go.RowKit

set_option maxRecDepth 100000 in
set_option maxHeartbeats 1000000 in
theorem take_step (c : Int) (tk : Int → List Int) (hne : ∀ d ∈ partsN c, tk d ≠ [] ∧ (tk d).length ≤ 9) (H : ∀ d ∈ partsN c, TakeSays d (tk d)) : TakeSays c (takeBy tk c) := by
  intro w
  have hP := sParts c w
  have hlen := partsN_le c
  by_cases h0 : partsN c = []
  · have HR : Hid (takeBy tk c = [c]) := by show _ = _; unfold takeBy; rw [if_pos h0]
    rw [h0] at hP
    generalize takeBy tk c = r at HR ⊢
    go_enter Try.func40, Try.ntmps40
    go_wp2_with fail
    refine hP.mono ?_
    rintro e w1 ⟨v, rfl, hrow, hb⟩
    obtain ⟨a, cap, rfl, -⟩ := hrow.at
    go_wp2
    go_ret
    rw [HR.out]
    refine ⟨.slice (some ⟨w1.heap.size, 0, none⟩) 1 1, rfl, ret_lit _ w _ _ 1 _ ?_ ?_ ?_ ?_ ?_⟩ <;> first | rfl | decide | exact hb | simp
  · have HR : Hid (takeBy tk c = (partsN c).flatMap tk) := by show _ = _; unfold takeBy; rw [if_neg h0]
    have HT := flatMap_take (partsN c) tk
    have HE : Hid (((partsN c).take (partsN c).length).flatMap tk = (partsN c).flatMap tk) := by show _ = _; rw [List.take_length]
    have HM : ∀ k, k < (partsN c).length → (partsN c).getD k 0 ∈ partsN c := fun k hk => by simp [List.getD, hk]
    have HL : ∀ k, k ≤ (partsN c).length → (((partsN c).take k).flatMap tk).length ≤ 9 * k := fun k => by
      induction k with
      | zero => intro _; simp
      | succ k ih =>
        intro hk
        rw [HT k (by omega), List.length_append]
        have := ih (by omega)
        have := (hne _ (HM k (by omega))).2
        omega
    generalize takeBy tk c = r at HR ⊢
    generalize partsN c = L at *
    have hpos : 0 < L.length := List.length_pos_iff.2 h0
    obtain ⟨n, HN⟩ : ∃ n, Hid (n = L.length) := ⟨_, rfl⟩
    go_enter Try.func40, Try.ntmps40
    go_wp2_with fail
    refine hP.mono ?_
    rintro e w1 ⟨v, rfl, hrow, hb⟩
    obtain ⟨a, cap, rfl, hva⟩ := hrow.at
    rw [← HN.out] at hva hlen hpos ⊢
    have hn0 : (n == 0) = false := by rw [beq_eq_false_iff_ne]; omega
    have hn1 : ((n : Int) == 0) = false := by rw [beq_eq_false_iff_ne]; omega
    go_wp2
    go_loopw [4, 5] (fun o i wr => ∃ k : Nat, k ≤ n ∧ i = .int .i64 k ∧ IntRow wr w1.heap.size o ((L.take k).flatMap tk) ∧ Below w1.heap.size w1 wr) (fun _ i _ => n - (intOf i).toNat)
    case atStart => exact ⟨0, Nat.zero_le _, rfl, by simpa using lit_at w1 #[] [] 0 rfl rfl (by decide), below_lit _ _⟩
    case round =>
      obtain ⟨k, hk, rfl, hown, hbel⟩ := hrel
      by_cases hlt : k < n
      · obtain ⟨b1, o1, rfl, hb1, hc1⟩ := hva k hlt
        have hc1' := (hbel.cell (p := ⟨b1, o1 + k, none⟩) hb1).trans hc1
        have hkL : k < L.length := by rw [← HN.out]; exact hlt
        have HS : Hid ((L.take (k + 1)).flatMap tk = (L.take k).flatMap tk ++ tk (L.getD k 0)) := HT k hkL
        have hd := HM k hkL
        have hH := H _ hd
        have hnn := hne _ hd
        have hll := HL k (by omega)
        generalize L.getD k 0 = d at hc1' HS hH hnn
        generalize (L.take k).flatMap tk = q at hown HS hll
        generalize tk d = m at HS hH hnn
        go_wp2_with (first | (go_at_call 40; refine (hH _).mono ?_; rintro e w2 ⟨u, rfl, hrow2, hb2⟩; have hown2 := hown.below hb2; have hbel2 := hbel.trans (hb2.mono hbel.size)) | (at_builtin; refine append_ints w2 rfl (.tmp 20) (.tmp 25) rfl w1.heap.size _ u q m hnn.1 (by omega) hown2 hrow2.at rfl rfl hbel2.size ?_; intro v' w3 hown3 hbel3))
        go_roundw
        case rel => exact ⟨k + 1, by omega, by go_num, by rw [HS.out]; exact hown3, hbel2.trans hbel3⟩
        case measure => simp [intOf]; omega
      · obtain rfl : k = n := by omega
        have HE' := HE.out
        rw [← HN.out] at HE'
        rw [HE'] at hown
        go_wp2
        go_ret
        exact ⟨_, rfl, by rw [HR.out]; exact hown.mono hb.size, hb.trans (hbel.mono hb.size)⟩

theorem sTake (c : Int) : TakeSays c (takeN c) := by
  have leaf : ∀ d, partsN d = [] → TakeSays d [d] := fun d hd => by
    have := take_step d (fun _ => [0]) (fun e he => by rw [hd] at he; cases he) (fun e he => by rw [hd] at he; cases he)
    unfold takeBy at this
    rwa [if_pos hd] at this
  have one : ∀ d, (∀ e ∈ partsN d, partsN e = []) → TakeSays d (take1 d) := fun d hd =>
    take_step d (fun e => [e]) (fun e _ => by simp) (fun e he => leaf e (hd e he))
  exact take_step c take1 (fun d hd => take1_ne d) (fun d hd => one d fun e he => parts_two c d e hd he)

end Go.Proofs.Ytkgnlamlmnhleaa
