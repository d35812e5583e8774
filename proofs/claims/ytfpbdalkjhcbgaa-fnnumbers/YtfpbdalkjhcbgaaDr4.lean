/- What spec.DrawVar, spec.DrawHex and spec.DrawReadVar answer: one and the same for the same bytes. -/
import Derived.Test.YtfpbdalkjhcbgaaRows
import Derived.Test.YtfpbdalkjhcbgaaDr3
import Derived.Test.YtfpbdalkjhcbgaaVr
import Derived.WalkKit
import Derived.WalkSpells
import Derived.WalkLawsBesides
namespace Go.Proofs.Ytfpbdalkjhcbgaa
open Go.RowKit

theorem drawVar_any (S : Src) (ok : S.ok) (w : World) (hl : Lies S w) :
    Calls Try.prog 5 #[.slice S.a S.len S.cap] w fun e w' => e = .returned (.int .i64 (nX S (s0 S))) ∧ Below w.heap.size w w' := by
  go_enter Try.func5, Try.ntmps5
  go_wp2_with fail
  refine (new_any S ok _ hl).mono ?_
  rintro e w1 ⟨rfl, c1, b1⟩
  go_wp2_with fail
  refine (num_any S ok _ _ _ c1).mono ?_
  rintro e w2 ⟨rfl, c2, b2⟩
  go_wp2
  go_ret
  exact ⟨rfl, b1.trans (below_gb b2 (Nat.le_refl _) c1.size)⟩

theorem drawHex_any (S : Src) (ok : S.ok) (w : World) (hl : Lies S w) :
    Calls Try.prog 6 #[.slice S.a S.len S.cap] w fun e w' => e = .returned (.string ⟨(tL S 40 (s0 S)).toArray⟩) ∧ Below w.heap.size w w' := by
  go_enter Try.func6, Try.ntmps6
  go_wp2_with fail
  refine (new_any S ok _ hl).mono ?_
  rintro e w1 ⟨rfl, c1, b1⟩
  go_wp2_with fail
  refine (text_any S ok 40 (by decide) (by decide) _ _ _ c1).mono ?_
  rintro e w2 ⟨rfl, c2, b2⟩
  go_wp2
  go_ret
  exact ⟨rfl, b1.trans (below_gb b2 (Nat.le_refl _) c1.size)⟩

/-- what Var makes of any number -/
def varA (n : Int) : List UInt8 := if inB n 0 562949953421311 then varL 6 n else []

theorem sVar_any (n : Int) (w : World) : Calls Try.prog 22 #[.int .i64 n] w fun e w' => e = .returned (.string ⟨(varA n).toArray⟩) ∧ Below w.heap.size w w' := by
  cases h : inB n 0 562949953421311
  · refine (sVar_no n w h).mono ?_
    rintro e w' ⟨rfl, rfl⟩
    exact ⟨by unfold varA; rw [h]; rfl, Below.refl _ _⟩
  · refine (sVar_yes n w h).mono ?_
    rintro e w' ⟨rfl, hb⟩
    exact ⟨by unfold varA; rw [h]; rfl, hb⟩

theorem iVar_any (n : Int) (w : World) : Calls Try.prog 7 #[.int .i64 n] w fun e w' => e = .returned (.string ⟨(varA n).toArray⟩) ∧ Below w.heap.size w w' := by
  cases h : inB n 0 562949953421311
  · refine (iVar_no n w h).mono ?_
    rintro e w' ⟨rfl, rfl⟩
    exact ⟨by unfold varA; rw [h]; rfl, Below.refl _ _⟩
  · refine (iVar_yes n w h).mono ?_
    rintro e w' ⟨rfl, hb⟩
    exact ⟨by unfold varA; rw [h]; rfl, hb⟩

theorem varL_length : ∀ f n, 1 ≤ (varL f n).length ∧ (varL f n).length ≤ f + 1
  | 0, n => by simp [varL]
  | f + 1, n => by
    have := varL_length f (n / 128)
    unfold varL
    split <;> simp <;> omega

theorem varA_length (n : Int) : (varA n).length ≤ 7 := by
  unfold varA
  split
  · exact (varL_length 6 n).2
  · simp

set_option maxHeartbeats 400000 in
theorem drawReadVar_any (S : Src) (ok : S.ok) : ∃ v : ByteArray, v.size ≤ 200 ∧ ∀ (w : World), Lies S w →
    Calls Try.prog 15 #[.slice S.a S.len S.cap] w fun e w' => e = .returned (.string v) ∧ Below w.heap.size w w' := by
  obtain ⟨n, HN⟩ : ∃ n, Hid (n = nX S (s0 S)) := ⟨_, rfl⟩
  obtain ⟨s1, HS1⟩ : ∃ s1, Hid (s1 = nS S (s0 S)) := ⟨_, rfl⟩
  obtain ⟨t, HT⟩ : ∃ t, Hid (t = tL S 4 s1) := ⟨_, rfl⟩
  obtain ⟨s2, HS2⟩ : ∃ s2, Hid (s2 = tS S 4 s1) := ⟨_, rfl⟩
  have htl : t.length ≤ 4 := by have := tL_length S 4 s1 (by decide); rw [← HT.out] at this; omega
  have hvl := varA_length n
  obtain ⟨va, HV⟩ : ∃ va : ByteArray, Hid (va = ⟨(varA n).toArray⟩) := ⟨_, rfl⟩
  obtain ⟨ta, HTA⟩ : ∃ ta : ByteArray, Hid (ta = ⟨t.toArray⟩) := ⟨_, rfl⟩
  have hva : va.size ≤ 7 := by rw [HV.out]; simpa [ByteArray.size] using hvl
  have hta : ta.size ≤ 4 := by rw [HTA.out]; simpa [ByteArray.size] using htl
  have hsum : (va ++ ta).size ≤ 100 := by rw [app_size]; omega
  clear htl hvl
  obtain ⟨v, hv1, hv2⟩ := spoil_any S ok (va ++ ta) hsum (bS S 4 s2)
  have HV2 : Hid (∀ (p : Nat) (w : World), At S p (bS S 4 s2) w → Calls Try.prog 24 #[.pointer (some ⟨p, 0, none⟩), .string (va ++ ta)] w fun e w' => e = .returned (.string v) ∧ w.grownBy w' (some p)) := hv2
  clear hv2
  cases hb : (bX S 4 s2 == 0)
  · refine ⟨va ++ ta, by omega, fun w hl => ?_⟩
    go_enter Try.func15, Try.ntmps15
    go_wp2_with fail
    refine (new_any S ok _ hl).mono ?_
    rintro e w1 ⟨rfl, c1, b1⟩
    go_wp2_with fail
    refine (num_any S ok _ _ _ c1).mono ?_
    rintro e w2 ⟨rfl, c2, b2⟩
    rw [← HN.out]
    rw [← HS1.out] at c2
    have B2 : Below w.heap.size w w2 := b1.trans (below_gb b2 (Nat.le_refl _) c1.size)
    have hs2 := c2.size
    clear b1 b2 c1
    go_wp2_with fail
    refine (sVar_any _ _).mono ?_
    rintro e w3 ⟨rfl, b3⟩
    have c3 := c2.below (b3.mono (by omega))
    have B3 : Below w.heap.size w w3 := B2.trans (b3.mono B2.size)
    rw [← HV.out]
    clear b3 c2 B2
    go_wp2_with fail
    refine (text_any S ok 4 (by decide) (by decide) _ _ _ c3).mono ?_
    rintro e w4 ⟨rfl, c4, b4⟩
    have B4 : Below w.heap.size w w4 := B3.trans (below_gb b4 (Nat.le_refl _) c3.size)
    rw [← HT.out, ← HTA.out]
    rw [← HS2.out] at c4
    clear b4 c3 B3
    go_wp2_with fail
    refine (once_any S ok 4 _ _ _ c4).mono ?_
    rintro e w5 ⟨rfl, c5, b5⟩
    have B5 : Below w.heap.size w w5 := B4.trans (below_gb b5 (Nat.le_refl _) c4.size)
    rw [hb]
    go_wp2
    go_ret
    exact ⟨rfl, B5⟩
  · refine ⟨v, hv1, fun w hl => ?_⟩
    go_enter Try.func15, Try.ntmps15
    go_wp2_with fail
    refine (new_any S ok _ hl).mono ?_
    rintro e w1 ⟨rfl, c1, b1⟩
    go_wp2_with fail
    refine (num_any S ok _ _ _ c1).mono ?_
    rintro e w2 ⟨rfl, c2, b2⟩
    rw [← HN.out]
    rw [← HS1.out] at c2
    have B2 : Below w.heap.size w w2 := b1.trans (below_gb b2 (Nat.le_refl _) c1.size)
    have hs2 := c2.size
    clear b1 b2 c1
    go_wp2_with fail
    refine (sVar_any _ _).mono ?_
    rintro e w3 ⟨rfl, b3⟩
    have c3 := c2.below (b3.mono (by omega))
    have B3 : Below w.heap.size w w3 := B2.trans (b3.mono B2.size)
    rw [← HV.out]
    clear b3 c2 B2
    go_wp2_with fail
    refine (text_any S ok 4 (by decide) (by decide) _ _ _ c3).mono ?_
    rintro e w4 ⟨rfl, c4, b4⟩
    have B4 : Below w.heap.size w w4 := B3.trans (below_gb b4 (Nat.le_refl _) c3.size)
    rw [← HT.out, ← HTA.out]
    rw [← HS2.out] at c4
    clear b4 c3 B3
    go_wp2_with fail
    refine (once_any S ok 4 _ _ _ c4).mono ?_
    rintro e w5 ⟨rfl, c5, b5⟩
    have B5 : Below w.heap.size w w5 := B4.trans (below_gb b5 (Nat.le_refl _) c4.size)
    rw [hb]
    clear b5 c4 B4
    go_wp2_with fail
    refine (HV2.out _ _ c5).mono ?_
    rintro e w6 ⟨rfl, b6⟩
    go_wp2
    go_ret
    exact ⟨rfl, B5.trans (below_gb b6 (Nat.le_refl _) c5.size)⟩

end Go.Proofs.Ytfpbdalkjhcbgaa
