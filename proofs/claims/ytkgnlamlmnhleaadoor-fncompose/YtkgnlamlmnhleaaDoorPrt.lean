/- Signs: spec.l3Row. -/
import Derived.Test.YtkgnlamlmnhleaaDoorRows
import Derived.Test.YtkgnlamlmnhleaaDoorSgn
import Derived.Test.YtkgnlamlmnhleaaDoorKno
namespace Go.Proofs.YtkgnlamlmnhleaaDoor
open Go.RowKit

/-- the first of f 0 .. f (n - 1) that is not empty -/
def firstNE (f : Nat → List Int) : Nat → List Int
  | 0 => []
  | n + 1 => if firstNE f n = [] then f n else firstNE f n

theorem firstNE_no (f : Nat → List Int) (n : Nat) (h : ∀ t, t < n → f t = []) : firstNE f n = [] := by
  induction n with
  | zero => rfl
  | succ n ih => unfold firstNE; rw [if_pos (ih fun t ht => h t (by omega))]; exact h n (by omega)
theorem firstNE_yes (f : Nat → List Int) (n k : Nat) (hk : k < n) (h : ∀ t, t < k → f t = []) (hne : f k ≠ []) : firstNE f n = f k := by
  induction n with
  | zero => omega
  | succ n ih =>
    unfold firstNE
    by_cases e : k = n
    · subst e; rw [if_pos (firstNE_no f k h)]
    · rw [ih (by omega), if_neg hne]

def rowF (c : Int) (l : List Int) (s : ByteArray) (m : Int) (t : Nat) : List Int := if l.getD t 0 = c then [((s.data.getD t 0).toNat : Int), m] else []
def rowN (c : Int) (l : List Int) (s : ByteArray) (m : Int) : List Int := firstNE (rowF c l s m) l.length

set_option maxRecDepth 100000 in
set_option maxHeartbeats 400000 in
theorem l3Row_any (c m : Int) (v : Value) (l : List Int) (s : ByteArray) (w : World) (hs : l.length ≤ s.size) (hl : l.length ≤ 1000) (hv : IntsAt w v l) :
    Calls Tryd.prog 44 #[.int .i64 c, v, .string s, .int .i64 m] w fun e w' => ∃ u, e = .returned u ∧ IntRow w' w.heap.size u (rowN c l s m) ∧ Below w.heap.size w w' := by
  obtain ⟨a, ca, rfl, hva⟩ := hv
  have HY := fun k hk h hne => firstNE_yes (rowF c l s m) l.length k hk h hne
  have HN := firstNE_no (rowF c l s m) l.length
  have HR : Hid (rowN c l s m = firstNE (rowF c l s m) l.length) := rfl
  generalize rowN c l s m = r at HR ⊢
  obtain ⟨n, HL⟩ : ∃ n, Hid (n = l.length) := ⟨_, rfl⟩
  rw [← HL.out] at hva hl hs HY HN HR ⊢
  go_enter Tryd.func44, Tryd.ntmps44
  go_wp2
  go_loop [9] (fun i => ∃ k : Nat, k ≤ n ∧ i = .int .i64 k ∧ ∀ t, t < k → rowF c l s m t = []) (fun i => n - (intOf i).toNat)
  case atStart => exact ⟨0, Nat.zero_le _, rfl, fun t ht => by omega⟩
  case round =>
    obtain ⟨k, hk, rfl, hne⟩ := hrel
    by_cases hlt : k < n
    · obtain ⟨b1, o1, rfl, hb1, hc1⟩ := hva k hlt
      have HF : Hid (rowF c l s m k = if l.getD k 0 = c then [((s.data.getD k 0).toNat : Int), m] else []) := rfl
      obtain ⟨x, HX⟩ : ∃ x, Hid (x = l.getD k 0) := ⟨_, rfl⟩
      rw [← HX.out] at hc1 HF
      rcases Bool.eq_false_or_eq_true (x == c) with hx | hx
      · have hks : k < s.size := by omega
        have hbt := s[k].toNat_lt
        have HK : Hid (rowF c l s m k = [(s[k].toNat : Int), m]) := by
          show _ = _
          rw [HF.out, if_pos (by simpa using hx)]
          have h' : k < s.data.size := hks
          rw [Array.getD, dif_pos h']; rfl
        have HE : Hid (r = [(s[k].toNat : Int), m]) := by
          show _ = _
          rw [HR.out, HY k hlt hne (by rw [HK.out]; simp)]; exact HK.out
        go_wp2
        go_ret
        rw [HE.out]
        refine ⟨.slice (some ⟨w.heap.size, 0, none⟩) 2 2, rfl, ret_lit _ w _ _ 2 _ ?_ ?_ ?_ ?_ ?_⟩ <;> first | rfl | decide | exact Below.refl _ _ | simp
      · have HK : Hid (rowF c l s m k = []) := by
          show _ = _
          rw [HF.out, if_neg (by simpa using hx)]
        go_wp2
        go_round
        case rel => exact ⟨k + 1, by omega, by go_num, fun t ht => by
          by_cases htk : t < k
          · exact hne t htk
          · obtain rfl : t = k := by omega
            exact HK.out⟩
        case measure => simp [intOf]; omega
    · obtain rfl : k = n := by omega
      have HE : Hid (r = []) := by show _ = _; rw [HR.out, HN hne]
      go_wp2
      go_ret
      rw [HE.out]
      refine ⟨.slice (some ⟨w.heap.size, 0, none⟩) 0 0, rfl, ret_lit _ w _ _ 0 _ ?_ ?_ ?_ ?_ ?_⟩ <;> first | rfl | decide | exact Below.refl _ _ | simp

end Go.Proofs.YtkgnlamlmnhleaaDoor
