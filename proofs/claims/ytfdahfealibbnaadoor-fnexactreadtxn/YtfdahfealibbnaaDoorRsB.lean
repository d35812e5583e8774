/- Blocks, spec: l7Take, l7Alike. -/
import Derived.Test.YtfdahfealibbnaaDoorRows
import Derived.Test.YtfdahfealibbnaaDoorRsA
import Derived.Test.YtfdahfealibbnaaDoorStS
namespace Go.Proofs.YtfdahfealibbnaaDoor
open Go.RowKit Go.Sort

theorem ext_mid (l : List UInt8) (a b : Nat) : (bA l).extract a (a + b) = bA ((l.drop a).take b) := list_ext (by simp [bA])
theorem tak_end {l : List UInt8} {p : Int} (hl : l.length ≤ 1048576) (h0 : -1 ≤ p) (h1 : p ≤ 1099511627776) : -1 ≤ (takS l p).2 ∧ (takS l p).2 ≤ l.length ∧ (takS l p).1.length ≤ l.length := by
  have hv := vars_end l 1 p hl h0 h1
  unfold takS
  split
  · simp
  · rename_i h
    have hn : 0 ≤ (varsS l 1 p).1[0]! := by
      by_cases hp : p < 0 ∨ (l.length : Int) < p
      · rw [vars_out hp] at h; simp at h
      · obtain ⟨q, rfl⟩ : ∃ q : Nat, p = (q : Int) := ⟨p.toNat, by omega⟩
        by_cases hk : rdK (l.drop q) = 0
        · rw [vars_no (by omega) hk] at h; simp at h
        · rw [vars_yes (by omega) hk]; exact (rdN_in _).1
    refine ⟨by show -1 ≤ _ + _; omega, by show _ + _ ≤ _; omega, ?_⟩
    simp only [List.length_take, List.length_drop]; omega

set_option maxRecDepth 100000 in
set_option maxHeartbeats 1000000 in
theorem l7Take_any (l : List UInt8) (p : Int) (w : World) (hl : l.length ≤ 1048576) (hp0 : -1 ≤ p) (hp1 : p ≤ 1099511627776) :
    Calls Tryd.prog 33 #[.string (bA l), .int .i64 p] w fun e w' => e = .returned (.tuple #[.string (bA (takS l p).1), .int .i64 (takS l p).2]) ∧ Below w.heap.size w w' := by
  have HV := l7Vars_any l p 1 w hl hp0 hp1 (by omega)
  have hve := vars_end l 1 p hl hp0 hp1
  have hz := bA_size l
  have HX : Hid (∀ a b : Nat, (bA l).extract a (a + b) = bA ((l.drop a).take b)) := fun a b => ext_mid l a b
  have hn0 : (varsS l 1 p).2 < 0 ∨ (0 ≤ (varsS l 1 p).1[0]! ∧ (varsS l 1 p).1[0]! ≤ 562949953421311) := by
    by_cases hp : p < 0 ∨ (l.length : Int) < p
    · rw [vars_out hp]; left; simp
    · obtain ⟨q, rfl⟩ : ∃ q : Nat, p = (q : Int) := ⟨p.toNat, by omega⟩
      by_cases hk : rdK (l.drop q) = 0
      · rw [vars_no (by omega) hk]; left; simp
      · rw [vars_yes (by omega) hk]; right; exact rdN_in _
  have HT : Hid (takS l p = if (varsS l 1 p).2 < 0 ∨ (l.length : Int) - (varsS l 1 p).2 < (varsS l 1 p).1[0]! then ([], -1) else ((l.drop (varsS l 1 p).2.toNat).take (varsS l 1 p).1[0]!.toNat, (varsS l 1 p).2 + (varsS l 1 p).1[0]!)) := rfl
  obtain ⟨R, HR⟩ : ∃ R, Hid (R = takS l p) := ⟨_, rfl⟩
  rw [← HR.out] at HT ⊢
  generalize varsS l 1 p = P at *
  obtain ⟨ps, pe⟩ := P
  dsimp only at *
  by_cases hneg : pe < 0
  · have hR : Hid (R = ([], -1)) := by show _ = _; rw [HT.out, if_pos (.inl hneg)]
    rw [hR.out]
    have hemp : bA [] = ⟨#[]⟩ := rfl
    rw [hemp]
    generalize bA l = s at *
    clear HT hn0
    go_enter Tryd.func33, Tryd.ntmps33
    go_wp2_with (go_at_call 32; refine HV.mono ?_; rintro e w1 ⟨u, rfl, hrow, b1⟩)
    exact bodyPost_ret (results_tmp2 (t := 4) (u := 5) Tryd.results33 _ _ _) rfl ⟨rfl, b1⟩
  · obtain ⟨z, hzz⟩ : ∃ z, ps = [z] := List.length_eq_one_iff.1 (hve.2.2.1 (by omega))
    subst hzz
    obtain ⟨k, rfl⟩ : ∃ k : Nat, pe = (k : Int) := ⟨pe.toNat, by omega⟩
    have hz1 : 0 ≤ z ∧ z ≤ 562949953421311 := by
      rcases hn0 with h | h
      · omega
      · exact h
    obtain ⟨m, rfl⟩ : ∃ m : Nat, z = (m : Int) := ⟨z.toNat, by omega⟩
    have hkl : k ≤ l.length := by have := hve.2.2.2 (by omega); omega
    have hT := HT.out
    have e0 : ([(m : Int)] : List Int)[0]! = (m : Int) := rfl
    rw [e0, Int.toNat_natCast, Int.toNat_natCast] at hT
    have HC : Hid (∀ u w', IntRow w' w.heap.size u [(m : Int)] → ∃ g cap, u = .slice (some ⟨g, 0, none⟩) 1 cap ∧ w'.cell? ⟨g, 0, none⟩ = some (.int .i64 m)) := fun u w' h => by
      obtain ⟨a, cc, e, hc⟩ := h.at
      obtain ⟨b, off, h1, -, h3⟩ := hc 0 (by simp)
      rcases h.2 with ⟨_, h0⟩ | ⟨g, cap, cur, rfl, hg, hh, _⟩
      · simp at h0
      · refine ⟨g, cap, rfl, ?_⟩
        simp only [Value.slice.injEq] at e
        rw [← e.1] at h1
        cases h1
        simpa using h3
    by_cases hgt : (l.length : Int) - (k : Int) < (m : Int)
    · rw [if_pos (.inr hgt)] at hT
      rw [hT]
      have hemp : bA [] = ⟨#[]⟩ := rfl
      rw [hemp]
      have hgt' : ((bA l).size : Int) - (k : Int) < (m : Int) := by rw [hz]; exact hgt
      clear hz HT hT hve hn0 HX
      have hs1 : (bA l).size ≤ 1048576 := by rw [bA_size]; exact hl
      generalize bA l = s at *
      go_enter Tryd.func33, Tryd.ntmps33
      go_wp2_with (go_at_call 32; refine HV.mono ?_; rintro e w1 ⟨u, rfl, hrow, b1⟩; obtain ⟨g, cap, rfl, hc⟩ := HC.out _ _ hrow)
      exact bodyPost_ret (results_tmp2 (t := 4) (u := 5) Tryd.results33 _ _ _) rfl ⟨rfl, b1⟩
    · rw [if_neg (by omega)] at hT
      rw [hT]
      have hgt' : ¬ (((bA l).size : Int) - (k : Int) < (m : Int)) := by rw [hz]; exact hgt
      have hks : k + m ≤ (bA l).size := by rw [hz]; omega
      have hx := HX.out k m
      clear hz HT hT hve hn0 HX
      have hs1 : (bA l).size ≤ 1048576 := by rw [bA_size]; exact hl
      rw [← hx]
      clear hx
      generalize bA l = s at *
      have t1 : ((k : Int) + (m : Int)).toNat = k + m := by omega
      have t2 : (0 : Int) ≤ (k : Int) := by omega
      have t3 : (k : Int) ≤ (k : Int) + (m : Int) := by omega
      have t4 : (k : Int) + (m : Int) ≤ (s.size : Int) := by omega
      go_enter Tryd.func33, Tryd.ntmps33
      go_wp2_with (go_at_call 32; refine HV.mono ?_; rintro e w1 ⟨u, rfl, hrow, b1⟩; obtain ⟨g, cap, rfl, hc⟩ := HC.out _ _ hrow)
      go_quiet (fail)
      go_wp2
      exact bodyPost_ret (results_tmp2 (t := 4) (u := 5) Tryd.results33 _ _ _) rfl ⟨rfl, below_drewN b1 _⟩

end Go.Proofs.YtfdahfealibbnaaDoor
