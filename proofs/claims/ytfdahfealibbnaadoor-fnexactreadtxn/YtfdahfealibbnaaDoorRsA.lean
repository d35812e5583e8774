/- Blocks, spec: l7Vars, l7Take. -/
import Derived.Test.YtfdahfealibbnaaDoorRows
import Derived.Test.YtfdahfealibbnaaDoorRbI
import Derived.Test.YtfdahfealibbnaaDoorRsT
import Derived.Test.YtfdahfealibbnaaDoorIntS
namespace Go.Proofs.YtfdahfealibbnaaDoor
open Go.RowKit Go.Sort

theorem vars_out {l : List UInt8} {m : Nat} {p : Int} (h : p < 0 ∨ (l.length : Int) < p) : varsS l (m + 1) p = ([], -1) := by rw [varsS, if_pos h]
theorem vars_no {l : List UInt8} {m q : Nat} (hq : q ≤ l.length) (h : rdK (l.drop q) = 0) : varsS l (m + 1) (q : Int) = ([], -1) := by
  rw [varsS, if_neg (by omega), Int.toNat_natCast, if_pos h]
theorem vars_yes {l : List UInt8} {m q : Nat} (hq : q ≤ l.length) (h : rdK (l.drop q) ≠ 0) : varsS l (m + 1) (q : Int) = (rdN (l.drop q) :: (varsS l m ((q : Int) + rdK (l.drop q))).1, (varsS l m ((q : Int) + rdK (l.drop q))).2) := by
  rw [varsS, if_neg (by omega), Int.toNat_natCast, if_neg h]
/-- where they end, or -1; how many there are -/
theorem vars_end : ∀ (l : List UInt8) (n : Nat) (p : Int), l.length ≤ 1048576 → -1 ≤ p → p ≤ 1099511627776 → -1 ≤ (varsS l n p).2 ∧ (varsS l n p).2 ≤ 1099511627776 ∧ (0 ≤ (varsS l n p).2 → (varsS l n p).1.length = n) ∧ (0 < n → (varsS l n p).2 ≤ l.length)
  | l, 0, p, _, h0, h1 => ⟨h0, h1, fun _ => rfl, fun h => by omega⟩
  | l, n + 1, p, hl, h0, h1 => by
    by_cases hp : p < 0 ∨ (l.length : Int) < p
    · rw [vars_out hp]
      exact ⟨by decide, by decide, fun h => (by simp at h), fun _ => by simp⟩
    · obtain ⟨q, rfl⟩ : ∃ q : Nat, p = (q : Int) := ⟨p.toNat, by omega⟩
      have hq : q ≤ l.length := by omega
      by_cases hk : rdK (l.drop q) = 0
      · rw [vars_no hq hk]
        exact ⟨by decide, by decide, fun h => (by simp at h), fun _ => by simp⟩
      · rw [vars_yes hq hk]
        have hr := rdK_le (l.drop q)
        rw [List.length_drop] at hr
        have ih := vars_end l n ((q : Int) + rdK (l.drop q)) hl (by omega) (by omega)
        refine ⟨ih.1, ih.2.1, fun h => by simp only [List.length_cons]; rw [ih.2.2.1 h], fun _ => ?_⟩
        cases n with
        | zero => show (q : Int) + rdK (l.drop q) ≤ _; omega
        | succ n => exact ih.2.2.2 (by omega)

set_option maxRecDepth 100000 in
set_option maxHeartbeats 1000000 in
theorem l7Vars_any (l : List UInt8) (p0 : Int) (n : Nat) (w : World) (hl : l.length ≤ 1048576) (hp0 : -1 ≤ p0) (hp1 : p0 ≤ 1099511627776) (hn : n ≤ 3) :
    Calls Tryd.prog 32 #[.string (bA l), .int .i64 p0, .int .i64 n] w fun e w' => ∃ u, e = .returned (.tuple #[u, .int .i64 (varsS l n p0).2]) ∧ IntRow w' w.heap.size u (varsS l n p0).1 ∧ Below w.heap.size w w' := by
  have hz := bA_size l
  have HE : Hid (∀ q : Nat, q ≤ l.length → (bA l).extract q (bA l).size = bA (l.drop q)) := fun q _ => ext_rest l q
  have HRV : Hid (∀ (q : Nat) w', Calls Tryd.prog 50 #[.string (bA (l.drop q))] w' fun e w'' => e = .returned (.tuple #[.int .i64 (rdN (l.drop q)), .int .i64 (rdK (l.drop q))]) ∧ Below w'.heap.size w' w'') := fun q w' => (sReadVar_any (bA (l.drop q)) w' (by rw [bA_size, List.length_drop]; unfold maxLen; omega)).mono fun e w'' ⟨a, k, h1, h2, h3⟩ => by
    rw [bA_list] at h2
    obtain ⟨rfl, rfl⟩ := rd_eq h2
    exact ⟨h1, h3⟩
  obtain ⟨S, HS⟩ : ∃ S, Hid (S = varsS l n p0) := ⟨_, rfl⟩
  rw [← HS.out]
  obtain ⟨s, HSS⟩ : ∃ s, Hid (s = bA l) := ⟨_, rfl⟩
  rw [← HSS.out] at HE hz ⊢
  have hss : s.size ≤ 1048576 := by omega
  have HZ : Hid (s.size = l.length) := hz
  clear hz
  have HRET : Hid (∀ (u : Value) (os : List Int) (z : Int) (wz : World), (os, z) = S → IntRow wz w.heap.size u os → Below w.heap.size w wz → ∃ u', Ending.returned (.tuple #[u, .int .i64 z]) = .returned (.tuple #[u', .int .i64 S.2]) ∧ IntRow wz w.heap.size u' S.1 ∧ Below w.heap.size w wz) := fun u os z wz h h1 h2 => ⟨u, by rw [← h], by rw [← h]; exact h1, h2⟩
  go_enter Tryd.func32, Tryd.ntmps32
  go_wp2
  go_loopw [1, 8, 9] (fun pv o i wr => ∃ (k : Nat) (p : Int) (os : List Int), k ≤ n ∧ pv = .int .i64 p ∧ i = .int .i64 k ∧ (-1 ≤ p ∧ p ≤ 1099511627776) ∧ os.length = k ∧ IntRow wr w.heap.size o os ∧ Hid ((os ++ (varsS l (n - k) p).1, (varsS l (n - k) p).2) = S) ∧ Below w.heap.size w wr) (fun _ _ i _ => n - (intOf i).toNat)
  case atStart => exact ⟨0, p0, [], Nat.zero_le _, rfl, rfl, ⟨hp0, hp1⟩, rfl, lit_at w #[] [] 0 rfl rfl (by decide), by show _ = _; rw [HS.out]; rfl, below_lit _ _⟩
  case round =>
    obtain ⟨k, p, os, hk, rfl, rfl, ⟨hpa, hpb⟩, hol, hown, HV, hbel⟩ := hrel
    by_cases hlt : k < n
    · have hlt' : (k : Int) < (n : Int) := by omega
      obtain ⟨m, hm⟩ : ∃ m, n - k = m + 1 := ⟨n - k - 1, by omega⟩
      have hv := HV.out
      rw [hm] at hv
      have HM : Hid (n - (k + 1) = m) := by show _ = _; omega
      by_cases hpn : p < 0
      · rw [vars_out (.inl hpn)] at hv
        have hv : Hid ((os, -1) = S) := by show _ = _; simpa using hv
        go_wp2
        exact bodyPost_ret (results_tmp2 (t := 6) (u := 7) Tryd.results32 _ _ _) rfl (HRET.out _ os _ wr hv.out hown hbel)
      · obtain ⟨q, rfl⟩ : ∃ q : Nat, p = (q : Int) := ⟨p.toNat, by omega⟩
        have hqn : ¬ ((q : Int) < 0) := by omega
        by_cases hpl : l.length < q
        · have hpl' : (s.size : Int) < (q : Int) := by have := HZ.out; omega
          rw [vars_out (.inr (by omega))] at hv
          have hv : Hid ((os, -1) = S) := by show _ = _; simpa using hv
          go_wp2
          exact bodyPost_ret (results_tmp2 (t := 6) (u := 7) Tryd.results32 _ _ _) rfl (HRET.out _ os _ wr hv.out hown hbel)
        · have hpl' : ¬ ((s.size : Int) < (q : Int)) := by have := HZ.out; omega
          have hex := HE.out q (by omega)
          have hR := HRV.out q wr
          have hr := rdK_le (l.drop q)
          rw [List.length_drop] at hr
          have hqs : q ≤ s.size := by have := HZ.out; omega
          by_cases hk0 : rdK (l.drop q) = 0
          · rw [vars_no (by omega) hk0] at hv
            rw [hk0] at hR
            have hv : Hid ((os, -1) = S) := by show _ = _; simpa using hv
            generalize rdN (l.drop q) = rn at *
            go_wp2_with (go_at_call 50; refine hR.mono ?_; rintro e w1 ⟨rfl, b1⟩)
            exact bodyPost_ret (results_tmp2 (t := 6) (u := 7) Tryd.results32 _ _ _) rfl (HRET.out _ os _ w1 hv.out (hown.below b1) (hbel.trans (b1.mono hbel.size)))
          · rw [vars_yes (by omega) hk0] at hv
            generalize rdN (l.drop q) = rn at *
            generalize rdK (l.drop q) = rk at *
            have hrk : ((rk : Int) == 0) = false := by simp; omega
            have hv : Hid (((os ++ [rn]) ++ (varsS l m ((q : Int) + rk)).1, (varsS l m ((q : Int) + rk)).2) = S) := by show _ = _; rw [← hv]; simp
            have hol1 : os.length + 1 ≤ 1099511627776 := by omega
            go_wp2_with (first
              | (go_at_call 50; refine hR.mono ?_; rintro e w1 ⟨rfl, b1⟩; have hown1 := hown.below b1; have hb1 := hbel.trans (b1.mono hbel.size))
              | (at_builtin; refine append_int w1 rfl (.tmp 37) (.tmp 39) rfl w.heap.size _ os rn hol1 hown1 rfl rfl hb1.size ?_; intro v' w2 hown2 hbel2))
            go_roundw
            case rel => exact ⟨k + 1, (q : Int) + rk, os ++ [rn], by omega, by go_num, by go_num, ⟨by omega, by omega⟩, by simp; omega, hown2, by show _ = _; rw [HM.out]; exact hv.out, hb1.trans hbel2⟩
            case measure => simp [intOf]; omega
    · obtain rfl : k = n := by omega
      have hv := HV.out
      rw [Nat.sub_self] at hv
      have hv : Hid ((os, p) = S) := by show _ = _; simpa [varsS] using hv
      go_wp2
      exact bodyPost_ret (results_tmp2 (t := 6) (u := 7) Tryd.results32 _ _ _) rfl (HRET.out _ os _ wr hv.out hown hbel)

end Go.Proofs.YtfdahfealibbnaaDoor
