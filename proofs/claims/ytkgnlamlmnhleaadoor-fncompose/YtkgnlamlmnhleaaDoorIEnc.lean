/- Signs: impl.Encode: its contract, over the library's contract of utf8.AppendRune. -/
import Derived.Test.YtkgnlamlmnhleaaDoorRows
import Derived.Test.YtkgnlamlmnhleaaDoorShelf
import Derived.Test.YtkgnlamlmnhleaaDoorEnc
import Derived.Test.YtkgnlamlmnhleaaDoorIBtw
import Derived.Test.YtkgnlamlmnhleaaDoorISgn
namespace Go.Proofs.YtkgnlamlmnhleaaDoor
open Go.RowKit

theorem encOne_isB (c : Int) (h0 : 0 ≤ c) (h1 : c ≤ 1114111) : ∀ x ∈ encOne c, isB x := by
  intro x hx
  unfold encOne at hx
  unfold isB
  revert hx
  (repeat' split) <;> simp <;> omega

theorem encodeZ_one (c : Int) (h : sgnB c = true) : Lib.encodeRuneZ c = encOne c := by
  have hb : 0 ≤ c ∧ c ≤ 1114111 ∧ ¬ (55296 ≤ c ∧ c ≤ 57343) := by
    simp [sgnB, inB] at h; omega
  unfold encOne
  split
  · exact Lib.encodeRuneZ_one (by omega) (by omega)
  · split
    · exact Lib.encodeRuneZ_two (by omega) (by omega)
    · split
      · exact Lib.encodeRuneZ_three (by omega)
      · exact Lib.encodeRuneZ_four (by omega) (by omega)

theorem runeCells_one (c : Int) (h : sgnB c = true) : Lib.runeCells c = bytesV (b8s (encOne c)) := by
  have hb := sgnB_le c h
  rw [bytesV_b8s _ (encOne_isB c hb.1 hb.2)]
  unfold Lib.runeCells
  rw [encodeZ_one c h]

theorem appRune_any (B : Nat) (v : Value) (l : List UInt8) (c : Int) (h : sgnB c = true) (w : World) (hown : w.ownsRow B 5 1 v l.length (bytesV l)) (hl : l.length ≤ 4194304) (hB : B ≤ w.heap.size) :
    Calls Tryd.prog 62 #[v, .int .i32 c] w fun e w' => ∃ v', e = .returned v' ∧ w'.ownsRow B 5 1 v' (l ++ b8s (encOne c)).length (bytesV (l ++ b8s (encOne c))) ∧ Below B w w' := by
  have hb := sgnB_le c h
  refine (Tryd.utf8_AppendRune_plain B v l.length (bytesV l) c (by omega) (by omega) w hown (by omega) hB).mono ?_
  rintro e w' ⟨v', rfl, hown', o, hg⟩
  refine ⟨v', rfl, ?_, ?_⟩
  · rw [runeCells_one c h] at hown'
    rw [bytesV_append, List.length_append]
    rwa [bytesV_length] at hown'
  · refine ((Below.refl B w).alloc hB o).grown hg (by simp; omega) ?_
    intro k hk
    exact (World.ownsRow.lt hown k hk).1

set_option maxRecDepth 100000 in
set_option maxHeartbeats 2000000 in
theorem iEncode (v : Value) (l : List Int) (w : World) (hl : l.length ≤ 1048576) (hv : IntsAt w v l) :
    Calls Tryd.prog 47 #[v] w fun e w' => e = .returned (.string ⟨(encN l).toArray⟩) ∧ Below w.heap.size w w' := by
  obtain ⟨a, ca, rfl, hva⟩ := hv
  have HBAD := encN_bad l
  have HALL := encN_all l
  have HST : ∀ k, k < l.length → encs (l.take (k + 1)) = encs (l.take k) ++ b8s (encOne (l.getD k 0)) := fun k hk => by rw [take_succ_getD l k hk, encs_snoc]
  have HLE : ∀ k, k ≤ l.length → (encs (l.take k)).length ≤ 4194304 := fun k hk => by
    have := encs_len (l.take k)
    simp at this; omega
  have HT : encs (l.take l.length) = encs l := by rw [List.take_length]
  have H0 : encs (l.take 0) = [] := by simp [encs]
  generalize encN l = r at HBAD HALL ⊢
  generalize encs l = rr at HALL HT
  obtain ⟨E, HE⟩ : ∃ E : Nat → List UInt8, Hid (E = fun k => encs (l.take k)) := ⟨_, rfl⟩
  have HST' : Hid (∀ k, k < l.length → E (k + 1) = E k ++ b8s (encOne (l.getD k 0))) := by rw [HE.out]; exact HST
  have HLE' : Hid (∀ k, k ≤ l.length → (E k).length ≤ 4194304) := by rw [HE.out]; exact HLE
  have HT' : Hid (E l.length = rr) := by rw [HE.out]; exact HT
  have H0' : Hid (E 0 = []) := by rw [HE.out]; exact H0
  clear HST HLE HT H0 HE
  obtain ⟨n, HN⟩ : ∃ n, Hid (n = l.length) := ⟨_, rfl⟩
  rw [← HN.out] at hva hl HBAD HALL HST' HLE' HT' ⊢
  go_enter Tryd.func47, Tryd.ntmps47
  go_wp2
  go_loopw [3, 8] (fun o i wr => ∃ k : Nat, k ≤ n ∧ i = .int .i64 k ∧ wr.ownsRow w.heap.size 5 1 o (E k).length (bytesV (E k)) ∧ (∀ t, t < k → sgnB (l.getD t 0) = true) ∧ Below w.heap.size w wr) (fun _ i _ => n - (intOf i).toNat)
  case atStart => exact ⟨0, Nat.zero_le _, rfl, by rw [H0'.out]; exact World.ownsRow_nil _ _ _ _, fun t ht => by omega, Below.refl _ _⟩
  case round =>
    obtain ⟨k, hk, rfl, hown, hall, hbel⟩ := hrel
    by_cases hlt : k < n
    · obtain ⟨b1, o1, rfl, hb1, hc1⟩ := hva k hlt
      have hc1' := (hbel.cell (p := ⟨b1, o1 + k, none⟩) hb1).trans hc1
      have HB : Hid (sgnB (l.getD k 0) = false → r = []) := HBAD k hlt
      have HS : Hid (E (k + 1) = E k ++ b8s (encOne (l.getD k 0))) := HST'.out k hlt
      have HL : (E k).length ≤ 4194304 := HLE'.out k hk
      have HA : Hid (sgnB (l.getD k 0) = true → ∀ t, t < k + 1 → sgnB (l.getD t 0) = true) := fun h t ht => by
        by_cases htk : t < k
        · exact hall t htk
        · obtain rfl : t = k := by omega
          exact h
      generalize l.getD k 0 = x at hc1' HB HS HA
      clear HBAD HALL hc1 hva hall
      cases hx : sgnB x
      · have HR := HB.out hx
        subst HR
        go_wp2_with (go_at_call 61; refine (isSign_any _ _).mono ?_; rintro e w' ⟨rfl, rfl⟩)
        go_ret
        exact ⟨rfl, hbel⟩
      · have hb := sgnB_le x hx
        have hb0 := hb.1
        have hb1' := hb.2
        go_wp2_with (first | (go_at_call 61; refine (isSign_any _ _).mono ?_; rintro e w' ⟨rfl, rfl⟩) | (go_at_call 62; refine (appRune_any w.heap.size _ (E k) x hx _ hown HL hbel.size).mono ?_; rintro e w1 ⟨v', rfl, hown1, hbel1⟩))
        go_roundw
        case rel => exact ⟨k + 1, by omega, by go_num, by rw [HS.out]; exact hown1, HA.out hx, hbel.trans hbel1⟩
        case measure => simp [intOf]; omega
    · obtain rfl : k = n := by omega
      have HR : Hid (r = rr) := HALL hall
      rw [HT'.out] at hown
      have hcv := row_string (P := Tryd.prog) (T := 9) Tryd.underlying22 Tryd.underlying5 Tryd.underlying9 hown
      go_wp2
      go_ret
      exact ⟨ret_str (by rw [HR.out]), hbel⟩

end Go.Proofs.YtkgnlamlmnhleaaDoor
