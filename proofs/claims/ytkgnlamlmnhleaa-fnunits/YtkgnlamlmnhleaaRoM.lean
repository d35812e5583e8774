/- Rows of rows of whole numbers: laws.markIntSS, heldIntSS. -/
import Derived.Test.YtkgnlamlmnhleaaRows
import Derived.Test.YtkgnlamlmnhleaaRoR
import Derived.Test.YtkgnlamlmnhleaaWRow
namespace Go.Proofs.Ytkgnlamlmnhleaa
open Go.RowKit

theorem own_cellD {w : World} {base n cap : Nat} {a : Option Addr} {us : List Value} (h : w.ownsRow base 24 1 (.slice a n cap) n us) (t : Nat) (ht : t < n) : ∃ b off, a = some ⟨b, off, none⟩ ∧ b < w.heap.size ∧ w.cell? ⟨b, off + t, none⟩ = some (vD us t) := by
  have hu : us.length = n := by have := h.1; omega
  rcases h.2 with ⟨e, h0⟩ | ⟨g, cap2, cur, e, hg, hh, hnc, hcp, hcs, htake⟩
  · omega
  · injection e with e1 e2 e3
    subst e1; subst e3
    refine ⟨g, 0, rfl, lt_of_block hh, ?_⟩
    rw [Nat.zero_add, World.ownsRow.cellAt h t (by omega), List.getElem?_eq_getElem (by omega)]
    simp [vD, List.getD, show t < us.length by omega]
/-- the first j rows marked -/
def mdS (k : Int) (ls : List (List Int)) (j t : Nat) : List Int := if t < j then marks (k + (tot (ls.take t) : Nat)) (lD ls t).length else lD ls t
structure MkS (w0 : World) (base : Nat) (v : Value) (us : List Value) (ls : List (List Int)) (n : Nat) (k : Int) (w : World) (j : Nat) : Prop where
  out : w.ownsRow base 24 1 v n us
  inn : ∀ t, t < n → IntRow w base (vD us t) (mdS k ls j t)
  bel : Below base w0 w
theorem MkS.step {w0 w w' : World} {base : Nat} {v : Value} {us : List Value} {ls : List (List Int)} {n : Nat} {k : Int} {j : Nat} (h : MkS w0 base v us ls n k w j) (hj : j < n)
    (ap : ∀ s t, s < n → t < n → s ≠ t → (vD us s).ownBlock = none ∨ (vD us s).ownBlock ≠ (vD us t).ownBlock) (hb : base ≤ w0.heap.size)
    (hr : IntRow w' base (vD us j) (marks (k + (tot (ls.take j) : Nat)) (lD ls j).length)) (hg : w.grownBy w' (vD us j).ownBlock) : MkS w0 base v us ls n k w' (j + 1) := by
  refine ⟨World.ownsRow.kept h.out hg (own_ne h.out (h.inn j hj) (by decide)), fun t ht => ?_, h.bel.trans (below_gbi hg (fun q hq => (World.ownsRow.lt (h.inn j hj) q hq).1) (Nat.le_trans hb h.bel.size))⟩
  by_cases e : t = j
  · subst e
    unfold mdS
    rw [if_pos (by omega)]
    exact hr
  · have := h.inn t ht
    have e2 : mdS k ls (j + 1) t = mdS k ls j t := by
      unfold mdS
      by_cases hc : t < j
      · rw [if_pos hc, if_pos (by omega)]
      · rw [if_neg hc, if_neg (by omega)]
    rw [e2]
    exact World.ownsRow.kept this hg (ap t j ht hj e)

set_option maxRecDepth 100000 in
set_option maxHeartbeats 1000000 in
theorem markSS_any (v : Value) (us : List Value) (ls : List (List Int)) (k : Int) (base : Nat) (w : World) (h : RwsRow w base v us ls) (hb : base ≤ w.heap.size) (hl : ls.length ≤ 16777216) (hk0 : 0 ≤ k) (hk1 : k + (tot ls : Nat) ≤ 1152921504606846976) :
    Calls Try.prog 22 #[v, .int .i64 k] w fun e w' => e = .returned (.int .i64 (k + (tot ls : Nat))) ∧ RwsRow w' base v us (mrkS k ls) ∧ Below base w w' := by
  have H0 : MkS w base v us ls ls.length k w 0 := ⟨h.out, fun t ht => by unfold mdS; rw [if_neg (by omega)]; exact h.inn t ht, Below.refl _ _⟩
  have HAP : Hid (∀ s t, s < ls.length → t < ls.length → s ≠ t → (vD us s).ownBlock = none ∨ (vD us s).ownBlock ≠ (vD us t).ownBlock) := h.ap
  have HEN : Hid (∀ w', MkS w base v us ls ls.length k w' ls.length → RwsRow w' base v us (mrkS k ls) ∧ Below base w w') := fun w' hm => by
    refine ⟨⟨by rw [mrkS_len]; exact hm.out, fun t ht => ?_, fun s t hs ht => h.ap s t (by rwa [mrkS_len] at hs) (by rwa [mrkS_len] at ht)⟩, hm.bel⟩
    rw [mrkS_len] at ht
    have := hm.inn t ht
    unfold mdS at this
    rw [if_pos ht] at this
    rw [mrkS_get ls k t ht]
    exact this
  have HTT : Hid (∀ t, t < ls.length → tot (ls.take (t + 1)) = tot (ls.take t) + (lD ls t).length) := fun t ht => tot_take ls t ht
  have HTL : ∀ t, tot (ls.take t) ≤ tot ls := tot_take_le ls
  have HTE : Hid (tot (ls.take ls.length) = tot ls) := by show _ = _; rw [List.take_length]
  obtain ⟨-, a, cap, rfl, -⟩ := h.at
  clear h
  obtain ⟨n, HN⟩ : ∃ n, Hid (n = ls.length) := ⟨_, rfl⟩
  rw [← HN.out] at H0 HAP HEN HTT HTE hl ⊢
  obtain ⟨T, HT⟩ : ∃ T, Hid (T = tot ls) := ⟨_, rfl⟩
  rw [← HT.out] at HTE HTL hk1 ⊢
  go_enter Try.func22, Try.ntmps22
  go_wp2
  go_loopw [1, 5] (fun kv iv wr => ∃ j : Nat, j ≤ n ∧ iv = .int .i64 j ∧ kv = .int .i64 (k + (tot (ls.take j) : Nat)) ∧ MkS w base (.slice a n cap) us ls n k wr j) (fun _ iv _ => n - (intOf iv).toNat)
  case atStart => exact ⟨0, Nat.zero_le _, rfl, by simp [tot], H0⟩
  case round =>
    obtain ⟨j, hj, rfl, rfl, hm⟩ := hrel
    by_cases hlt : j < n
    · obtain ⟨b1, o1, rfl, hb1, hc1⟩ := own_cellD hm.out j hlt
      have hin := hm.inn j hlt
      unfold mdS at hin
      rw [if_neg (by omega)] at hin
      have hT := HTT.out j hlt
      have hL := HTL (j + 1)
      have hcall := markIntS_any (vD us j) (lD ls j) (k + (tot (ls.take j) : Nat)) base wr (by omega) (by omega) (by omega) hin
      have HST : Hid (∀ w', IntRow w' base (vD us j) (marks (k + (tot (ls.take j) : Nat)) (lD ls j).length) → wr.grownBy w' (vD us j).ownBlock → MkS w base (.slice (some ⟨b1, o1, none⟩) n cap) us ls n k w' (j + 1)) := fun w' h1 h2 => hm.step hlt HAP.out hb h1 h2
      obtain ⟨p1, z1, hs1, -⟩ := hin.at
      have hjn : (j : Int) < (n : Int) := by omega
      have hj0 : (0 : Int) ≤ (j : Int) := by omega
      rw [hs1] at hc1 hcall HST
      have e1 : k + ((tot (ls.take j) : Nat) : Int) + ((lD ls j).length : Int) = k + ((tot (ls.take (j + 1)) : Nat) : Int) := by omega
      rw [e1] at hcall
      clear hT hL e1
      generalize (lD ls j).length = L at *
      generalize tot (ls.take j) = t0 at *
      clear hin hm HAP HEN hs1 HTT HTL
      go_wp2_with fail
      refine hcall.mono ?_
      rintro e w5 ⟨rfl, h5, g5⟩
      have h6 := HST.out w5 h5 g5
      go_wp2
      go_roundw
      case rel => exact ⟨j + 1, by omega, by go_num, rfl, h6⟩
      case measure => simp [intOf]; omega
    · obtain rfl : j = n := by omega
      rw [HTE.out]
      have h6 := HEN.out wr hm
      go_wp2
      go_ret
      exact ⟨rfl, h6⟩

set_option maxRecDepth 100000 in
set_option maxHeartbeats 1000000 in
theorem heldSS_marks (v : Value) (ls : List (List Int)) (k : Int) (w : World) (h : RwsAt w v (mrkS k ls)) (hl : ls.length ≤ 16777216) (hk0 : 0 ≤ k) (hk1 : k + (tot ls : Nat) ≤ 1152921504606846976) :
    Calls Try.prog 23 #[v, .int .i64 k] w fun e w' => e = .returned (.int .i64 (k + (tot ls : Nat))) ∧ w = w' := by
  have HTT : Hid (∀ t, t < ls.length → tot (ls.take (t + 1)) = tot (ls.take t) + (lD ls t).length) := fun t ht => tot_take ls t ht
  have HTL : ∀ t, tot (ls.take t) ≤ tot ls := tot_take_le ls
  have HTE : Hid (tot (ls.take ls.length) = tot ls) := by show _ = _; rw [List.take_length]
  have HGT : Hid (∀ t, t < ls.length → lD (mrkS k ls) t = marks (k + (tot (ls.take t) : Nat)) (lD ls t).length) := fun t ht => mrkS_get ls k t ht
  obtain ⟨us, a, cap, rfl, hv⟩ := h
  rw [mrkS_len] at hv ⊢
  obtain ⟨n, HN⟩ : ∃ n, Hid (n = ls.length) := ⟨_, rfl⟩
  rw [← HN.out] at hv HTT HTE HGT hl ⊢
  obtain ⟨T, HT⟩ : ∃ T, Hid (T = tot ls) := ⟨_, rfl⟩
  rw [← HT.out] at HTE HTL hk1 ⊢
  go_enter Try.func23, Try.ntmps23
  go_wp2
  go_loop [1, 5] (fun kv iv => ∃ j : Nat, j ≤ n ∧ iv = .int .i64 j ∧ kv = .int .i64 (k + (tot (ls.take j) : Nat))) (fun _ iv => n - (intOf iv).toNat)
  case atStart => exact ⟨0, Nat.zero_le _, rfl, by simp [tot]⟩
  case round =>
    obtain ⟨j, hj, rfl, rfl⟩ := hrel
    by_cases hlt : j < n
    · obtain ⟨⟨b1, o1, rfl, hb1, hc1⟩, hin⟩ := hv j hlt
      have hT := HTT.out j hlt
      have hL := HTL (j + 1)
      rw [HGT.out j hlt] at hin
      have hcall := heldIntS_marks (vD us j) (lD ls j).length (k + (tot (ls.take j) : Nat)) w (by omega) (by omega) (by omega) hin
      obtain ⟨p1, z1, hs1, -⟩ := hin
      have hjn : (j : Int) < (n : Int) := by omega
      have hj0 : (0 : Int) ≤ (j : Int) := by omega
      rw [hs1] at hc1 hcall
      have e1 : k + ((tot (ls.take j) : Nat) : Int) + ((lD ls j).length : Int) = k + ((tot (ls.take (j + 1)) : Nat) : Int) := by omega
      rw [e1] at hcall
      have hge : ¬ k + ((tot (ls.take (j + 1)) : Nat) : Int) < 0 := by omega
      clear hT hL e1
      generalize (marks (k + ((tot (ls.take j) : Nat) : Int)) (lD ls j).length).length = L at *
      generalize tot (ls.take j) = t0 at *
      clear hs1 HTT HTL HGT hv
      go_wp2_with fail
      refine hcall.mono ?_
      rintro e w5 ⟨rfl, rfl⟩
      go_wp2
      go_round
      case rel => exact ⟨j + 1, by omega, by go_num, rfl⟩
      case measure => simp [intOf]; omega
    · obtain rfl : j = n := by omega
      rw [HTE.out]
      go_wp2
      go_ret
      exact ⟨rfl, rfl⟩
end Go.Proofs.Ytkgnlamlmnhleaa
