/- Blocks, spec: l7Vars, l7Take. Blocks, spec: l7Take, l7Alike. Journals, spec: ReadTxn. -/
import Derived.Test.YtfdahfealibbnaaDoorRows
import Derived.Test.YtfdahfealibbnaaDoorRbI
import Derived.Test.YtfdahfealibbnaaDoorRsT
import Derived.Test.YtfdahfealibbnaaDoorIntS
import Derived.Test.YtfdahfealibbnaaDoorStS
import Derived.Test.YtfdahfealibbnaaDoorIJq
import Derived.Test.YtfdahfealibbnaaDoorSJn
namespace Go.Proofs.YtfdahfealibbnaaDoor

section
open Go.RowKit Go.Sort

theorem vars_out {l : List UInt8} {m : Nat} {p : Int} (h : p < 0 ∨ (l.length : Int) < p) : varsS l (m + 1) p = ([], -1) := by rw [varsS, if_pos h]
theorem vars_no {l : List UInt8} {m q : Nat} (hq : q ≤ l.length) (h : rdK (l.drop q) = 0) : varsS l (m + 1) (q : Int) = ([], -1) := by
  rw [varsS, if_neg (by omega), Int.toNat_natCast, if_pos h]
theorem vars_yes {l : List UInt8} {m q : Nat} (hq : q ≤ l.length) (h : rdK (l.drop q) ≠ 0) : varsS l (m + 1) (q : Int) = (rdN (l.drop q) :: (varsS l m ((q : Int) + rdK (l.drop q))).1, (varsS l m ((q : Int) + rdK (l.drop q))).2) := by
  rw [varsS, if_neg (by omega), Int.toNat_natCast, if_neg h]
/-- where they end, or -1; how many there are -/
theorem vars_end : ∀ (l : List UInt8) (n : Nat) (p : Int), l.length ≤ 1048576 → -1 ≤ p → p ≤ 1099511627776 → -1 ≤ (varsS l n p).2 ∧ (varsS l n p).2 ≤ 1099511627776 ∧ (0 ≤ (varsS l n p).2 → (varsS l n p).1.length = n) ∧ (0 < n → (varsS l n p).2 ≤ l.length)
  | l, 0, p, _, h0, h1 => ⟨h0, h1, fun _ => rfl, fun h => by omega⟩
  | l, n + 1, p, hl, h0, h1 => by
    by_cases hp : p < 0 ∨ (l.length : Int) < p
    · rw [vars_out hp]
      exact ⟨by decide, by decide, fun h => (by simp at h), fun _ => by simp⟩
    · obtain ⟨q, rfl⟩ : ∃ q : Nat, p = (q : Int) := ⟨p.toNat, by omega⟩
      have hq : q ≤ l.length := by omega
      by_cases hk : rdK (l.drop q) = 0
      · rw [vars_no hq hk]
        exact ⟨by decide, by decide, fun h => (by simp at h), fun _ => by simp⟩
      · rw [vars_yes hq hk]
        have hr := rdK_le (l.drop q)
        rw [List.length_drop] at hr
        have ih := vars_end l n ((q : Int) + rdK (l.drop q)) hl (by omega) (by omega)
        refine ⟨ih.1, ih.2.1, fun h => by simp only [List.length_cons]; rw [ih.2.2.1 h], fun _ => ?_⟩
        cases n with
        | zero => show (q : Int) + rdK (l.drop q) ≤ _; omega
        | succ n => exact ih.2.2.2 (by omega)

set_option maxRecDepth 100000 in
set_option maxHeartbeats 1000000 in
theorem l7Vars_any (l : List UInt8) (p0 : Int) (n : Nat) (w : World) (hl : l.length ≤ 1048576) (hp0 : -1 ≤ p0) (hp1 : p0 ≤ 1099511627776) (hn : n ≤ 3) :
    Calls Tryd.prog 32 #[.string (bA l), .int .i64 p0, .int .i64 n] w fun e w' => ∃ u, e = .returned (.tuple #[u, .int .i64 (varsS l n p0).2]) ∧ IntRow w' w.heap.size u (varsS l n p0).1 ∧ Below w.heap.size w w' := by
  have hz := bA_size l
  have HE : Hid (∀ q : Nat, q ≤ l.length → (bA l).extract q (bA l).size = bA (l.drop q)) := fun q _ => ext_rest l q
  have HRV : Hid (∀ (q : Nat) w', Calls Tryd.prog 50 #[.string (bA (l.drop q))] w' fun e w'' => e = .returned (.tuple #[.int .i64 (rdN (l.drop q)), .int .i64 (rdK (l.drop q))]) ∧ Below w'.heap.size w' w'') := fun q w' => (sReadVar_any (bA (l.drop q)) w' (by rw [bA_size, List.length_drop]; unfold maxLen; omega)).mono fun e w'' ⟨a, k, h1, h2, h3⟩ => by
    rw [bA_list] at h2
    obtain ⟨rfl, rfl⟩ := rd_eq h2
    exact ⟨h1, h3⟩
  obtain ⟨S, HS⟩ : ∃ S, Hid (S = varsS l n p0) := ⟨_, rfl⟩
  rw [← HS.out]
  obtain ⟨s, HSS⟩ : ∃ s, Hid (s = bA l) := ⟨_, rfl⟩
  rw [← HSS.out] at HE hz ⊢
  have hss : s.size ≤ 1048576 := by omega
  have HZ : Hid (s.size = l.length) := hz
  clear hz
  have HRET : Hid (∀ (u : Value) (os : List Int) (z : Int) (wz : World), (os, z) = S → IntRow wz w.heap.size u os → Below w.heap.size w wz → ∃ u', Ending.returned (.tuple #[u, .int .i64 z]) = .returned (.tuple #[u', .int .i64 S.2]) ∧ IntRow wz w.heap.size u' S.1 ∧ Below w.heap.size w wz) := fun u os z wz h h1 h2 => ⟨u, by rw [← h], by rw [← h]; exact h1, h2⟩
  go_enter Tryd.func32, Tryd.ntmps32
  go_wp2
  go_loopw [1, 8, 9] (fun pv o i wr => ∃ (k : Nat) (p : Int) (os : List Int), k ≤ n ∧ pv = .int .i64 p ∧ i = .int .i64 k ∧ (-1 ≤ p ∧ p ≤ 1099511627776) ∧ os.length = k ∧ IntRow wr w.heap.size o os ∧ Hid ((os ++ (varsS l (n - k) p).1, (varsS l (n - k) p).2) = S) ∧ Below w.heap.size w wr) (fun _ _ i _ => n - (intOf i).toNat)
  case atStart => exact ⟨0, p0, [], Nat.zero_le _, rfl, rfl, ⟨hp0, hp1⟩, rfl, lit_at w #[] [] 0 rfl rfl (by decide), by show _ = _; rw [HS.out]; rfl, below_lit _ _⟩
  case round =>
    obtain ⟨k, p, os, hk, rfl, rfl, ⟨hpa, hpb⟩, hol, hown, HV, hbel⟩ := hrel
    by_cases hlt : k < n
    · have hlt' : (k : Int) < (n : Int) := by omega
      obtain ⟨m, hm⟩ : ∃ m, n - k = m + 1 := ⟨n - k - 1, by omega⟩
      have hv := HV.out
      rw [hm] at hv
      have HM : Hid (n - (k + 1) = m) := by show _ = _; omega
      by_cases hpn : p < 0
      · rw [vars_out (.inl hpn)] at hv
        have hv : Hid ((os, -1) = S) := by show _ = _; simpa using hv
        go_wp2
        exact bodyPost_ret (results_tmp2 (t := 6) (u := 7) Tryd.results32 _ _ _) rfl (HRET.out _ os _ wr hv.out hown hbel)
      · obtain ⟨q, rfl⟩ : ∃ q : Nat, p = (q : Int) := ⟨p.toNat, by omega⟩
        have hqn : ¬ ((q : Int) < 0) := by omega
        by_cases hpl : l.length < q
        · have hpl' : (s.size : Int) < (q : Int) := by have := HZ.out; omega
          rw [vars_out (.inr (by omega))] at hv
          have hv : Hid ((os, -1) = S) := by show _ = _; simpa using hv
          go_wp2
          exact bodyPost_ret (results_tmp2 (t := 6) (u := 7) Tryd.results32 _ _ _) rfl (HRET.out _ os _ wr hv.out hown hbel)
        · have hpl' : ¬ ((s.size : Int) < (q : Int)) := by have := HZ.out; omega
          have hex := HE.out q (by omega)
          have hR := HRV.out q wr
          have hr := rdK_le (l.drop q)
          rw [List.length_drop] at hr
          have hqs : q ≤ s.size := by have := HZ.out; omega
          by_cases hk0 : rdK (l.drop q) = 0
          · rw [vars_no (by omega) hk0] at hv
            rw [hk0] at hR
            have hv : Hid ((os, -1) = S) := by show _ = _; simpa using hv
            generalize rdN (l.drop q) = rn at *
            go_wp2_with (go_at_call 50; refine hR.mono ?_; rintro e w1 ⟨rfl, b1⟩)
            exact bodyPost_ret (results_tmp2 (t := 6) (u := 7) Tryd.results32 _ _ _) rfl (HRET.out _ os _ w1 hv.out (hown.below b1) (hbel.trans (b1.mono hbel.size)))
          · rw [vars_yes (by omega) hk0] at hv
            generalize rdN (l.drop q) = rn at *
            generalize rdK (l.drop q) = rk at *
            have hrk : ((rk : Int) == 0) = false := by simp; omega
            have hv : Hid (((os ++ [rn]) ++ (varsS l m ((q : Int) + rk)).1, (varsS l m ((q : Int) + rk)).2) = S) := by show _ = _; rw [← hv]; simp
            have hol1 : os.length + 1 ≤ 1099511627776 := by omega
            go_wp2_with (first
              | (go_at_call 50; refine hR.mono ?_; rintro e w1 ⟨rfl, b1⟩; have hown1 := hown.below b1; have hb1 := hbel.trans (b1.mono hbel.size))
              | (at_builtin; refine append_int w1 rfl (.tmp 37) (.tmp 39) rfl w.heap.size _ os rn hol1 hown1 rfl rfl hb1.size ?_; intro v' w2 hown2 hbel2))
            go_roundw
            case rel => exact ⟨k + 1, (q : Int) + rk, os ++ [rn], by omega, by go_num, by go_num, ⟨by omega, by omega⟩, by simp; omega, hown2, by show _ = _; rw [HM.out]; exact hv.out, hb1.trans hbel2⟩
            case measure => simp [intOf]; omega
    · obtain rfl : k = n := by omega
      have hv := HV.out
      rw [Nat.sub_self] at hv
      have hv : Hid ((os, p) = S) := by show _ = _; simpa [varsS] using hv
      go_wp2
      exact bodyPost_ret (results_tmp2 (t := 6) (u := 7) Tryd.results32 _ _ _) rfl (HRET.out _ os _ wr hv.out hown hbel)
end

section
open Go.RowKit Go.Sort

theorem ext_mid (l : List UInt8) (a b : Nat) : (bA l).extract a (a + b) = bA ((l.drop a).take b) := list_ext (by simp [bA])
theorem tak_end {l : List UInt8} {p : Int} (hl : l.length ≤ 1048576) (h0 : -1 ≤ p) (h1 : p ≤ 1099511627776) : -1 ≤ (takS l p).2 ∧ (takS l p).2 ≤ l.length ∧ (takS l p).1.length ≤ l.length := by
  have hv := vars_end l 1 p hl h0 h1
  unfold takS
  split
  · simp
  · rename_i h
    have hn : 0 ≤ (varsS l 1 p).1[0]! := by
      by_cases hp : p < 0 ∨ (l.length : Int) < p
      · rw [vars_out hp] at h; simp at h
      · obtain ⟨q, rfl⟩ : ∃ q : Nat, p = (q : Int) := ⟨p.toNat, by omega⟩
        by_cases hk : rdK (l.drop q) = 0
        · rw [vars_no (by omega) hk] at h; simp at h
        · rw [vars_yes (by omega) hk]; exact (rdN_in _).1
    refine ⟨by show -1 ≤ _ + _; omega, by show _ + _ ≤ _; omega, ?_⟩
    simp only [List.length_take, List.length_drop]; omega

set_option maxRecDepth 100000 in
set_option maxHeartbeats 1000000 in
theorem l7Take_any (l : List UInt8) (p : Int) (w : World) (hl : l.length ≤ 1048576) (hp0 : -1 ≤ p) (hp1 : p ≤ 1099511627776) :
    Calls Tryd.prog 33 #[.string (bA l), .int .i64 p] w fun e w' => e = .returned (.tuple #[.string (bA (takS l p).1), .int .i64 (takS l p).2]) ∧ Below w.heap.size w w' := by
  have HV := l7Vars_any l p 1 w hl hp0 hp1 (by omega)
  have hve := vars_end l 1 p hl hp0 hp1
  have hz := bA_size l
  have HX : Hid (∀ a b : Nat, (bA l).extract a (a + b) = bA ((l.drop a).take b)) := fun a b => ext_mid l a b
  have hn0 : (varsS l 1 p).2 < 0 ∨ (0 ≤ (varsS l 1 p).1[0]! ∧ (varsS l 1 p).1[0]! ≤ 562949953421311) := by
    by_cases hp : p < 0 ∨ (l.length : Int) < p
    · rw [vars_out hp]; left; simp
    · obtain ⟨q, rfl⟩ : ∃ q : Nat, p = (q : Int) := ⟨p.toNat, by omega⟩
      by_cases hk : rdK (l.drop q) = 0
      · rw [vars_no (by omega) hk]; left; simp
      · rw [vars_yes (by omega) hk]; right; exact rdN_in _
  have HT : Hid (takS l p = if (varsS l 1 p).2 < 0 ∨ (l.length : Int) - (varsS l 1 p).2 < (varsS l 1 p).1[0]! then ([], -1) else ((l.drop (varsS l 1 p).2.toNat).take (varsS l 1 p).1[0]!.toNat, (varsS l 1 p).2 + (varsS l 1 p).1[0]!)) := rfl
  obtain ⟨R, HR⟩ : ∃ R, Hid (R = takS l p) := ⟨_, rfl⟩
  rw [← HR.out] at HT ⊢
  generalize varsS l 1 p = P at *
  obtain ⟨ps, pe⟩ := P
  dsimp only at *
  by_cases hneg : pe < 0
  · have hR : Hid (R = ([], -1)) := by show _ = _; rw [HT.out, if_pos (.inl hneg)]
    rw [hR.out]
    have hemp : bA [] = ⟨#[]⟩ := rfl
    rw [hemp]
    generalize bA l = s at *
    clear HT hn0
    go_enter Tryd.func33, Tryd.ntmps33
    go_wp2_with (go_at_call 32; refine HV.mono ?_; rintro e w1 ⟨u, rfl, hrow, b1⟩)
    exact bodyPost_ret (results_tmp2 (t := 4) (u := 5) Tryd.results33 _ _ _) rfl ⟨rfl, b1⟩
  · obtain ⟨z, hzz⟩ : ∃ z, ps = [z] := List.length_eq_one_iff.1 (hve.2.2.1 (by omega))
    subst hzz
    obtain ⟨k, rfl⟩ : ∃ k : Nat, pe = (k : Int) := ⟨pe.toNat, by omega⟩
    have hz1 : 0 ≤ z ∧ z ≤ 562949953421311 := by
      rcases hn0 with h | h
      · omega
      · exact h
    obtain ⟨m, rfl⟩ : ∃ m : Nat, z = (m : Int) := ⟨z.toNat, by omega⟩
    have hkl : k ≤ l.length := by have := hve.2.2.2 (by omega); omega
    have hT := HT.out
    have e0 : ([(m : Int)] : List Int)[0]! = (m : Int) := rfl
    rw [e0, Int.toNat_natCast, Int.toNat_natCast] at hT
    have HC : Hid (∀ u w', IntRow w' w.heap.size u [(m : Int)] → ∃ g cap, u = .slice (some ⟨g, 0, none⟩) 1 cap ∧ w'.cell? ⟨g, 0, none⟩ = some (.int .i64 m)) := fun u w' h => by
      obtain ⟨a, cc, e, hc⟩ := h.at
      obtain ⟨b, off, h1, -, h3⟩ := hc 0 (by simp)
      rcases h.2 with ⟨_, h0⟩ | ⟨g, cap, cur, rfl, hg, hh, _⟩
      · simp at h0
      · refine ⟨g, cap, rfl, ?_⟩
        simp only [Value.slice.injEq] at e
        rw [← e.1] at h1
        cases h1
        simpa using h3
    by_cases hgt : (l.length : Int) - (k : Int) < (m : Int)
    · rw [if_pos (.inr hgt)] at hT
      rw [hT]
      have hemp : bA [] = ⟨#[]⟩ := rfl
      rw [hemp]
      have hgt' : ((bA l).size : Int) - (k : Int) < (m : Int) := by rw [hz]; exact hgt
      clear hz HT hT hve hn0 HX
      have hs1 : (bA l).size ≤ 1048576 := by rw [bA_size]; exact hl
      generalize bA l = s at *
      go_enter Tryd.func33, Tryd.ntmps33
      go_wp2_with (go_at_call 32; refine HV.mono ?_; rintro e w1 ⟨u, rfl, hrow, b1⟩; obtain ⟨g, cap, rfl, hc⟩ := HC.out _ _ hrow)
      exact bodyPost_ret (results_tmp2 (t := 4) (u := 5) Tryd.results33 _ _ _) rfl ⟨rfl, b1⟩
    · rw [if_neg (by omega)] at hT
      rw [hT]
      have hgt' : ¬ (((bA l).size : Int) - (k : Int) < (m : Int)) := by rw [hz]; exact hgt
      have hks : k + m ≤ (bA l).size := by rw [hz]; omega
      have hx := HX.out k m
      clear hz HT hT hve hn0 HX
      have hs1 : (bA l).size ≤ 1048576 := by rw [bA_size]; exact hl
      rw [← hx]
      clear hx
      generalize bA l = s at *
      have t1 : ((k : Int) + (m : Int)).toNat = k + m := by omega
      have t2 : (0 : Int) ≤ (k : Int) := by omega
      have t3 : (k : Int) ≤ (k : Int) + (m : Int) := by omega
      have t4 : (k : Int) + (m : Int) ≤ (s.size : Int) := by omega
      go_enter Tryd.func33, Tryd.ntmps33
      go_wp2_with (go_at_call 32; refine HV.mono ?_; rintro e w1 ⟨u, rfl, hrow, b1⟩; obtain ⟨g, cap, rfl, hc⟩ := HC.out _ _ hrow)
      go_quiet (fail)
      go_wp2
      exact bodyPost_ret (results_tmp2 (t := 4) (u := 5) Tryd.results33 _ _ _) rfl ⟨rfl, below_drewN b1 _⟩
end

section
open Go.RowKit Go.Sort

/-- what is read of n writes by places, acc being read -/
theorem outsS_none {l : List UInt8} {n i : Nat} {p q : Int} {acc : List Wr} (h : outsS l n p = (outsS l (n - i) q).map fun e => (acc ++ e.1, e.2)) (hi : i < n) (he : outS l q = none) : outsS l n p = none := by
  obtain ⟨m, hm⟩ : ∃ m, n - i = m + 1 := ⟨n - i - 1, by omega⟩
  rw [h, hm, outsS, he]; rfl
theorem outsS_some {l : List UInt8} {n i : Nat} {p q q' : Int} {acc : List Wr} {e : Wr} (h : outsS l n p = (outsS l (n - i) q).map fun e => (acc ++ e.1, e.2)) (hi : i < n) (he : outS l q = some (e, q')) : outsS l n p = (outsS l (n - (i + 1)) q').map fun z => ((acc ++ [e]) ++ z.1, z.2) := by
  obtain ⟨m, hm⟩ : ∃ m, n - i = m + 1 := ⟨n - i - 1, by omega⟩
  rw [h, hm, outsS, he, show n - (i + 1) = m by omega]
  simp only [Option.bind_some]
  cases outsS l m q' with
  | none => rfl
  | some q => simp
/-- a row of two numbers, as the walk reads it -/
theorem two_ints {w : World} {base : Nat} {u : Value} {a b : Int} (h : IntRow w base u [a, b]) : ∃ g cap, u = .slice (some ⟨g, 0, none⟩) 2 cap ∧ base ≤ g ∧ w.cell? ⟨g, 0, none⟩ = some (.int .i64 a) ∧ w.cell? ⟨g, 1, none⟩ = some (.int .i64 b) := by
  obtain ⟨aa, cc, e, hc⟩ := h.at
  obtain ⟨b0, off0, h1, -, h3⟩ := hc 0 (by simp)
  obtain ⟨b1, off1, k1, -, k3⟩ := hc 1 (by simp)
  rcases h.2 with ⟨_, h0⟩ | ⟨g, cap, cur, rfl, hg, hh, _⟩
  · simp at h0
  · refine ⟨g, cap, rfl, hg, ?_, ?_⟩
    · simp only [Value.slice.injEq] at e
      rw [← e.1] at h1
      cases h1
      simpa using h3
    · simp only [Value.slice.injEq] at e
      rw [← e.1] at k1
      cases k1
      simpa using k3
theorem one_int {w : World} {base : Nat} {u : Value} {a : Int} (h : IntRow w base u [a]) : ∃ g cap, u = .slice (some ⟨g, 0, none⟩) 1 cap ∧ base ≤ g ∧ w.cell? ⟨g, 0, none⟩ = some (.int .i64 a) := by
  obtain ⟨aa, cc, e, hc⟩ := h.at
  obtain ⟨b0, off0, h1, -, h3⟩ := hc 0 (by simp)
  rcases h.2 with ⟨_, h0⟩ | ⟨g, cap, cur, rfl, hg, hh, _⟩
  · simp at h0
  · refine ⟨g, cap, rfl, hg, ?_⟩
    simp only [Value.slice.injEq] at e
    rw [← e.1] at h1
    cases h1
    simpa using h3
/-- on the way: the answer's block, the row of the head's numbers, the transaction's box and row -/
structure QxSt (w : World) (g q : Nat) (sq : Int) (n : Int) (u : Value) (acc : List Wr) (wr : World) : Prop where
  res : wr.heap[w.heap.size]? = some (.cells #[.int .i64 0, .slice none 0 0] 29)
  c0 : wr.cell? ⟨g, 0, none⟩ = some (.int .i64 sq)
  c1 : wr.cell? ⟨g, 1, none⟩ = some (.int .i64 n)
  glt : w.heap.size < g ∧ g < q
  box : wr.heap[q]? = some (.cells #[.int .i64 sq, u] 29)
  row : WrRow wr (q + 1) u acc
  bel : Below w.heap.size w wr
theorem QxSt.below {w wr w' : World} {g q : Nat} {sq n : Int} {u : Value} {acc : List Wr} (h : QxSt w g q sq n u acc wr) (hb : Below wr.heap.size wr w') : QxSt w g q sq n u acc w' :=
  ⟨(hb.block _ (lt_of_block h.res)).trans h.res, (hb.cell (p := ⟨g, 0, none⟩) (World.block_lt_of_cell? _ _ h.c0)).trans h.c0, (hb.cell (p := ⟨g, 1, none⟩) (World.block_lt_of_cell? _ _ h.c1)).trans h.c1, h.glt, (hb.block _ (lt_of_block h.box)).trans h.box, h.row.below hb, h.bel.trans (hb.mono h.bel.size)⟩
theorem QxSt.app {w wr w9 : World} {g q : Nat} {sq n : Int} {u v' : Value} {acc acc' : List Wr} (h : QxSt w g q sq n u acc wr) (gb : wr.grownBy w9 u.ownBlock) (hr : WrRow w9 (q + 1) v' acc') :
    (w9.cell? ⟨q, 1, none⟩ = some u ∧ w9.frozen? ⟨q, 1, none⟩ = false) ∧ QxSt w g q sq n v' acc' (w9.setCell ⟨q, 1, none⟩ v') := by
  have hlt := h.glt
  have hne : ∀ k, k ≤ q → k < wr.heap.size → w9.heap[k]? = wr.heap[k]? := fun k hk hs => gb.block k hs (fun e => by have := (World.ownsRow.lt h.row k e.symm).1; omega)
  have hq := lt_of_block h.box
  have hbox := (hne q (Nat.le_refl _) hq).trans h.box
  have hset : ∀ k, k ≠ q → (w9.setCell ⟨q, 1, none⟩ v').heap[k]? = w9.heap[k]? := fun k hk => Below.heap_setCell _ _ _ k hk
  have hG : (w9.setCell ⟨q, 1, none⟩ v').heap[g]? = wr.heap[g]? := (hset g (by omega)).trans (hne g (by omega) (by omega))
  have hb : Below w.heap.size w (w9.setCell ⟨q, 1, none⟩ v') := (h.bel.grown gb h.bel.size (fun k hk => by have := (World.ownsRow.lt h.row k hk).1; omega)).setCell (by show w.heap.size ≤ q; omega) _
  exact ⟨⟨Joins.cell_of_block hbox 1, Joins.unfrozen_of_block hbox 1⟩, ⟨(hset _ (by omega)).trans ((hne _ (by omega) (lt_of_block h.res)).trans h.res), (World.cell?_of_block (a := ⟨g, 0, none⟩) hG).trans h.c0, (World.cell?_of_block (a := ⟨g, 1, none⟩) hG).trans h.c1, h.glt, Joins.block_setCell (i := 1) hbox v', own_low hr (by omega) _ _, hb⟩⟩

theorem vars_nums : ∀ (l : List UInt8) (n : Nat) (p : Int), ∀ z ∈ (varsS l n p).1, 0 ≤ z ∧ z ≤ 562949953421311
  | l, 0, p, z, h => by simp [varsS] at h
  | l, n + 1, p, z, h => by
    rw [varsS] at h
    split at h
    · simp at h
    · split at h
      · simp at h
      · rcases List.mem_cons.1 h with rfl | h
        · exact rdN_in _
        · exact vars_nums l n _ z h
theorem tak_neg {l : List UInt8} {p : Int} (h : p < 0) : (takS l p).2 = -1 := by
  unfold takS
  have hv : varsS l 1 p = ([], -1) := vars_out (.inl h)
  rw [hv, if_pos (.inl (by show (-1 : Int) < 0; omega))]
theorem len_two {α : Type} {l : List α} (h : l.length = 2) : ∃ a b, l = [a, b] := by
  match l, h with
  | [a, b], _ => exact ⟨a, b, rfl⟩

set_option maxRecDepth 100000 in
set_option maxHeartbeats 2000000 in
theorem sReadTxn (s : ByteArray) (w : World) (hl : s.size ≤ 1048576) :
    Calls Tryd.prog 11 #[.string s] w fun e w' => SaysR (readT s) w e w' := by
  have B0 := below_lit w (.cells #[.int .i64 0, .slice none 0 0] 29)
  have hp0 := (MapKept.heap_alloc w (.cells #[.int .i64 0, .slice none 0 0] 29)).1
  have S0 : (w.alloc (.cells #[.int .i64 0, .slice none 0 0] 29)).heap.size = w.heap.size + 1 := by simp
  obtain ⟨w0, HW0⟩ : ∃ w0, Hid (w0 = w.alloc (.cells #[.int .i64 0, .slice none 0 0] 29)) := ⟨_, rfl⟩
  have hf : w.alloc (.cells #[.int .i64 0, .slice none 0 0] 29) = w0 := HW0.out.symm
  rw [hf] at B0 hp0 S0
  have HN : Hid (∀ w', readT s = none → Below w.heap.size w w' → SaysR (readT s) w (.returned (.tuple #[.agg #[.int .i64 0, .slice none 0 0], .bool false])) w') := fun w' h1 h2 => .inr ⟨h1, rfl, h2⟩
  have HY : Hid (∀ t u w', readT s = some t → WrRow w' w.heap.size u t.outs → Below w.heap.size w w' → SaysR (readT s) w (.returned (.tuple #[.agg #[.int .i64 t.seq, u], .bool true])) w') := fun t u w' h1 h3 h4 => .inl ⟨t, u, h1, rfl, h3, h4⟩
  have HRS := readT_S s
  -- the answer is none, laid into a world in which the answer's block is as it was
  have HFN : Hid (∀ wr, readT s = none → wr.heap[w.heap.size]? = some (.cells #[.int .i64 0, .slice none 0 0] 29) → Below w.heap.size w wr → Hid (((wr.setCell ⟨w.heap.size, 0, none⟩ (.int .i64 0)).setCell ⟨w.heap.size, 1, none⟩ (.slice none 0 0)).heap[w.heap.size]? = some (.cells #[.int .i64 0, .slice none 0 0] 29 (0, 0))) ∧ Hid (SaysR (readT s) w (.returned (.tuple #[.agg #[.int .i64 0, .slice none 0 0], .bool false])) ((wr.setCell ⟨w.heap.size, 0, none⟩ (.int .i64 0)).setCell ⟨w.heap.size, 1, none⟩ (.slice none 0 0)))) := fun wr h1 h2 h3 =>
    ⟨put2d _ _ h2, HN.out _ h1 ((h3.setCell (Nat.le_refl _) _).setCell (Nat.le_refl _) _)⟩
  by_cases hbig : 4000 < s.size
  · have hnone : readT s = none := by unfold readT; rw [if_pos hbig]
    have hb4 : (4000 : Int) < (s.size : Int) := by omega
    obtain ⟨K1, K2⟩ := HFN.out w0 hnone hp0 B0
    clear HFN HN HY HRS hnone
    generalize readT s = o at *
    have c0 := Joins.cell_of_block hp0 0
    have c1 := Joins.cell_of_block hp0 1
    have f0 := fun i => Joins.unfrozen_of_block hp0 i
    dsimp at c0 c1
    go_enter Tryd.func11, Tryd.ntmps11
    go_wp2
    exact bodyPost_ret (results_txnb Tryd.results11 _ _ w.heap.size _ _ rfl rfl rfl K1.out) rfl K2.out
  · have hb4 : ¬ ((4000 : Int) < (s.size : Int)) := by omega
    rw [if_neg hbig] at HRS
    obtain ⟨l, hsl⟩ : ∃ l, l = s.data.toList := ⟨_, rfl⟩
    have hll : l.length ≤ 1048576 := by rw [hsl, size_list]; exact hl
    have HV1 := l7Vars_any l 5 2 w0 hll (by decide) (by decide) (by decide)
    have HVA := fun p w' h0 h1 => l7Vars_any l p 1 w' hll h0 h1 (by decide)
    have HTA := fun p w' h0 h1 => l7Take_any l p w' hll h0 h1
    have hsb : bA l = s := by rw [hsl]; exact bA_of s
    rw [hsb] at HV1 HVA HTA
    rw [← hsl] at HRS
    have HTX : Hid (txnS l = if (varsS l 2 5).2 < 0 ∨ 17 < (varsS l 2 5).1[1]! then none else (outsS l (varsS l 2 5).1[1]!.toNat (varsS l 2 5).2).bind fun e => some ⟨(varsS l 2 5).1[0]!, e.1⟩) := rfl
    have hve := vars_end l 2 5 hll (by decide) (by decide)
    have hvn := vars_nums l 2 5
    have HSN : Hid (txnS l = none → readT s = none) := fun h => by rw [HRS, h]; rfl
    have HSS : Hid (∀ t, txnS l = some t → readT s = if showN t = s then some t else none) := fun t h => by rw [HRS, h]; rfl
    clear HRS hsl hsb
    obtain ⟨P, HPP⟩ : ∃ P, Hid (P = varsS l 2 5) := ⟨_, rfl⟩
    rw [← HPP.out] at HV1 HTX hve hvn
    obtain ⟨ps, pe⟩ := P
    dsimp only at *
    generalize txnS l = tx at HTX HSN HSS
    generalize readT s = o at *
    by_cases hneg : pe < 0
    · have hnone : o = none := HSN.out (by rw [HTX.out, if_pos (.inl hneg)])
      clear HTX HSN HSS
      go_enter Tryd.func11, Tryd.ntmps11
      go_wp2_with fail
      refine HV1.mono ?_
      rintro e w1 ⟨u, rfl, hrow, b1⟩
      have hp1 := (b1.block _ (by omega)).trans hp0
      have B1 := B0.trans (b1.mono B0.size)
      obtain ⟨K1, K2⟩ := HFN.out w1 hnone hp1 B1
      have c0 := Joins.cell_of_block hp1 0
      have c1 := Joins.cell_of_block hp1 1
      have f0 := fun i => Joins.unfrozen_of_block hp1 i
      dsimp at c0 c1
      obtain ⟨ua, uc, hu, -⟩ := hrow.at
      subst hu
      clear HFN HN HY hnone hrow HPP
      go_wp2
      exact bodyPost_ret (results_txnb Tryd.results11 _ _ w.heap.size _ _ rfl rfl rfl K1.out) rfl K2.out
    · obtain ⟨a, b, hab⟩ := len_two (hve.2.2.1 (by omega))
      subst hab
      have hb0 := hvn b (by simp)
      have ha0 := hvn a (by simp)
      have e1 : ([a, b] : List Int)[1]! = b := rfl
      have e0 : ([a, b] : List Int)[0]! = a := rfl
      rw [e1, e0] at HTX
      by_cases h17 : 17 < b
      · have hnone : o = none := HSN.out (by rw [HTX.out, if_pos (.inr h17)])
        clear HTX HSN HSS
        go_enter Tryd.func11, Tryd.ntmps11
        go_wp2_with fail
        refine HV1.mono ?_
        rintro e w1 ⟨u, rfl, hrow, b1⟩
        have hp1 := (b1.block _ (by omega)).trans hp0
        have B1 := B0.trans (b1.mono B0.size)
        obtain ⟨K1, K2⟩ := HFN.out w1 hnone hp1 B1
        have c0 := Joins.cell_of_block hp1 0
        have c1 := Joins.cell_of_block hp1 1
        have f0 := fun i => Joins.unfrozen_of_block hp1 i
        dsimp at c0 c1
        obtain ⟨g, cap, rfl, hg, d0, d1⟩ := two_ints hrow
        clear HFN HN HY hnone hrow HPP
        go_wp2
        exact bodyPost_ret (results_txnb Tryd.results11 _ _ w.heap.size _ _ rfl rfl rfl K1.out) rfl K2.out
      · obtain ⟨n, rfl⟩ : ∃ n : Nat, b = (n : Int) := ⟨b.toNat, by omega⟩
        have hn17 : n ≤ 17 := by omega
        have HTX : Hid (tx = (outsS l n pe).bind fun e => some ⟨a, e.1⟩) := by
          have := HTX.out
          rw [if_neg (by omega), Int.toNat_natCast] at this
          exact this
        have HSH : Hid (∀ acc u w', WrsAt w' u acc → Calls Tryd.prog 7 #[.agg #[.int .i64 a, u]] w' fun e w'' => e = .returned (.string (showN ⟨a, acc⟩)) ∧ Below w'.heap.size w' w'') := fun acc u w' h => sShowTxn _ ⟨a, acc⟩ w' ⟨u, rfl, h⟩
        have hpe0 : -1 ≤ pe := hve.1
        have hpe1 : pe ≤ 1099511627776 := hve.2.1
        clear hve hvn
        go_enter Tryd.func11, Tryd.ntmps11
        go_wp2_with fail
        refine HV1.mono ?_
        rintro e w1 ⟨u, rfl, hrow, b1⟩
        have hp1 := (b1.block _ (by omega)).trans hp0
        have B1 := B0.trans (b1.mono B0.size)
        obtain ⟨g, cap, rfl, hg, d0, d1⟩ := two_ints hrow
        have BX := below_lit w1 (.cells #[.int .i64 a, .slice none 0 0] 29)
        have ST : QxSt w g w1.heap.size a n (.slice none 0 0) [] (w1.alloc (.cells #[.int .i64 a, .slice none 0 0] 29)) :=
          ⟨(BX.block _ (lt_of_block hp1)).trans hp1, (BX.cell (p := ⟨g, 0, none⟩) (World.block_lt_of_cell? _ _ d0)).trans d0, (BX.cell (p := ⟨g, 1, none⟩) (World.block_lt_of_cell? _ _ d1)).trans d1, ⟨by omega, World.block_lt_of_cell? _ _ d0⟩, (MapKept.heap_alloc w1 _).1, nil_wrs _ _, B1.trans (BX.mono B1.size)⟩
        have HST0 : Hid _ := ST
        have h17' : ¬ ((17 : Int) < (n : Int)) := by omega
        clear ST hrow HV1 BX
        go_wp2
        go_loopw [5, 7] (fun at_ i wr => ∃ (k : Nat) (p : Int) (acc : List Wr) (u : Value), k ≤ n ∧ i = .int .i64 k ∧ at_ = .int .i64 p ∧ (-1 ≤ p ∧ p ≤ 1099511627776) ∧ Hid (outsS l n pe = (outsS l (n - k) p).map fun e => (acc ++ e.1, e.2)) ∧ acc.length = k ∧ Hid (QxSt w g w1.heap.size a n u acc wr)) (fun _ i _ => n - (intOf i).toNat)
        case atStart => exact ⟨0, pe, [], .slice none 0 0, Nat.zero_le _, rfl, rfl, ⟨hpe0, hpe1⟩, by show _ = _; simp, rfl, HST0⟩
        case round =>
          obtain ⟨k, p, acc, u, hk, rfl, rfl, ⟨hq0, hq1⟩, HEN, hacc, HST⟩ := hrel
          have d0 := HST.out.c0
          have d1 := HST.out.c1
          by_cases hlt : k < n
          · have hlt' : (k : Int) < (n : Int) := by omega
            have HV := HVA p wr hq0 hq1
            have hve := vars_end l 1 p hll hq0 hq1
            have hte := tak_end (l := l) (p := (varsS l 1 p).2) hll hve.1 hve.2.1
            have HT := fun w' => HTA (varsS l 1 p).2 w' hve.1 hve.2.1
            have HO : Hid (outS l p = if (takS l (varsS l 1 p).2).2 < 0 then none else some (⟨(varsS l 1 p).1[0]!, bA (takS l (varsS l 1 p).2).1⟩, (takS l (varsS l 1 p).2).2)) := rfl
            have hneg2 : (varsS l 1 p).2 < 0 → (takS l (varsS l 1 p).2).2 = -1 := fun h => tak_neg h
            have HNO : Hid (outS l p = none → o = none) := fun h => HSN.out (by rw [HTX.out, outsS_none HEN.out hlt h]; rfl)
            have HYS : Hid (∀ e q', outS l p = some (e, q') → outsS l n pe = (outsS l (n - (k + 1)) q').map fun z => ((acc ++ [e]) ++ z.1, z.2)) := fun e q' h => outsS_some HEN.out hlt h
            generalize outS l p = O at HO HNO HYS
            obtain ⟨V, HVV⟩ : ∃ V, Hid (V = varsS l 1 p) := ⟨_, rfl⟩
            rw [← HVV.out] at HV hve hte HT HO hneg2
            obtain ⟨vs, ve⟩ := V
            dsimp only at HV hve hte HT HO hneg2
            obtain ⟨K, HKK⟩ : ∃ K, Hid (K = takS l ve) := ⟨_, rfl⟩
            rw [← HKK.out] at hte HT HO hneg2
            obtain ⟨kt, ke⟩ := K
            dsimp only at hte HT HO hneg2
            have hkts : (bA kt).size = kt.length := bA_size kt
            generalize bA kt = kx at HT HO hkts
            clear HPP HVV HKK
            by_cases hke : ke < 0
            · have hnone : o = none := HNO.out (by rw [HO.out, if_pos hke])
              clear HO HNO HYS HTX HSN HSS
              go_wp2_with fail
              refine HV.mono ?_
              rintro e w2 ⟨u2, rfl, hrow2, b2⟩
              obtain ⟨ua2, uc2, hu2, -⟩ := hrow2.at
              subst hu2
              go_wp2_with fail
              refine (HT w2).mono ?_
              rintro e w3 ⟨rfl, b3⟩
              have st3 := (HST.out.below b2).below b3
              obtain ⟨K1, K2⟩ := HFN.out w3 hnone st3.res st3.bel
              have c0 := Joins.cell_of_block st3.res 0
              have c1 := Joins.cell_of_block st3.res 1
              have f0 := fun i => Joins.unfrozen_of_block st3.res i
              dsimp at c0 c1
              clear HFN HN HY hnone hrow2 st3 HST
              go_wp2
              exact bodyPost_ret (results_txnb Tryd.results11 _ _ w.heap.size _ _ rfl rfl rfl K1.out) rfl K2.out
            · have hvn : ¬ ve < 0 := fun h => by have := hneg2 h; omega
              obtain ⟨z, hz⟩ : ∃ z, vs = [z] := List.length_eq_one_iff.1 (hve.2.2.1 (by omega))
              subst hz
              have e0 : ([z] : List Int)[0]! = z := rfl
              have HEN' : Hid (outsS l n pe = (outsS l (n - (k + 1)) ke).map fun y => ((acc ++ [⟨z, kx⟩]) ++ y.1, y.2)) := HYS.out ⟨z, kx⟩ ke (by rw [HO.out, if_neg hke, e0])
              have haccl : acc.length + 1 ≤ 1099511627776 := by omega
              have hkb : ke ≤ 1099511627776 := by omega
              clear HO HNO HYS hneg2 hve
              go_wp2_with fail
              refine HV.mono ?_
              rintro e w2 ⟨u2, rfl, hrow2, b2⟩
              obtain ⟨g2, cap2, rfl, hg2, y0⟩ := one_int hrow2
              go_wp2_with fail
              refine (HT w2).mono ?_
              rintro e w3 ⟨rfl, b3⟩
              have y3 : w3.drew.cell? ⟨g2, 0, none⟩ = some (.int .i64 z) := (b3.cell (p := ⟨g2, 0, none⟩) (World.block_lt_of_cell? _ _ y0)).trans y0
              have y3' : w3.cell? ⟨g2, 0, none⟩ = some (.int .i64 z) := y3
              have ST3 := ((HST.out.below b2).below b3).below ((Below.refl w3.heap.size w3).drew)
              have c4 : w3.drew.cell? ⟨w1.heap.size, 1, none⟩ = some u := Joins.cell_of_block ST3.box 1
              have c4' : w3.cell? ⟨w1.heap.size, 1, none⟩ = some u := c4
              have ST8 := (((HST.out.below b2).below b3).below (below_lit w3 (.cells #[.int .i64 z, .string kx] 43))).below ((Below.refl _ (w3.alloc (.cells #[.int .i64 z, .string kx] 43))).drew)
              have c8 : (w3.alloc (.cells #[.int .i64 z, .string kx] 43)).cell? ⟨w1.heap.size, 1, none⟩ = some u := Joins.cell_of_block ST8.box 1
              have hblk8 : (w3.alloc (.cells #[.int .i64 z, .string kx] 43)).drew.heap[w3.heap.size]? = some (.cells #[.int .i64 z, .string kx] 43) := (MapKept.heap_alloc w3 (.cells #[.int .i64 z, .string kx] 43)).1
              have hz3 : w1.heap.size < w3.heap.size := lt_of_block ST3.box
              have hb8 : w1.heap.size + 1 ≤ (w3.alloc (.cells #[.int .i64 z, .string kx] 43)).drew.heap.size := by show w1.heap.size + 1 ≤ (w3.alloc (.cells #[.int .i64 z, .string kx] 43)).heap.size; simp; omega
              have hq7 : ¬ w1.heap.size = w3.heap.size := by omega
              have hq7' : ¬ w3.heap.size = w1.heap.size := by omega
              have HS8 : Hid (QxSt w g w1.heap.size a n u acc (w3.alloc (.cells #[.int .i64 z, .string kx] 43)).drew) := ST8
              clear hrow2 ST3 ST8 HST hz3
              go_wp2
              go_region_law
                ((refine step_append_wr1 (by rfl) (.tmp 56) (.tmp 62) (by rfl) (w1.heap.size + 1) u acc ⟨z, kx⟩ HS8.out.row (by rfl) w3.heap.size 1 (by rfl) hblk8 haccl hb8 ?_; intro v' w9 hr9 hg9; obtain ⟨⟨c9, f9⟩, ST9⟩ := HS8.out.app hg9 hr9; obtain ⟨va, vc, hv9, -, -⟩ := hr9.at; rw [List.length_append, List.length_singleton, hacc] at hv9; subst hv9; have ST9 : Hid (QxSt w g w1.heap.size a n (.slice va (k + 1) vc) (acc ++ [⟨z, kx⟩]) (w9.setCell ⟨w1.heap.size, 1, none⟩ (.slice va (k + 1) vc))) := ST9))
              all_goals go_wp2
              all_goals go_roundw
              all_goals first
                | exact ⟨k + 1, ke, acc ++ [⟨z, kx⟩], _, by omega, by go_num, rfl, ⟨by omega, hkb⟩, HEN', by simp; omega, ST9⟩
                | (simp [intOf]; omega)
          · obtain rfl : k = n := by omega
            have hz := HEN.out
            rw [Nat.sub_self, outsS] at hz
            simp only [Option.map_some, List.append_nil] at hz
            have htx : tx = some ⟨a, acc⟩ := by rw [HTX.out, hz]; rfl
            have hoo := HSS.out _ htx
            have st := HST.out
            obtain ⟨ua, uc, hu, -, -⟩ := st.row.at
            rw [hacc] at hu
            subst hu
            have b0 := Joins.cell_of_block st.box 0
            have b1' := Joins.cell_of_block st.box 1
            dsimp at b0 b1'
            have HS := HSH.out acc _ wr st.row.at
            generalize showN ⟨a, acc⟩ = sh at hoo HS
            have HOO : Hid (o = if sh = s then some ⟨a, acc⟩ else none) := hoo
            clear hz HTX HSN HSS htx hoo HSH
            go_wp2_with fail
            refine HS.mono ?_
            rintro e w4 ⟨rfl, b4⟩
            have st4 := st.below b4
            have b0 := Joins.cell_of_block st4.box 0
            have b1' := Joins.cell_of_block st4.box 1
            have c0 := Joins.cell_of_block st4.res 0
            have c1 := Joins.cell_of_block st4.res 1
            have f0 := fun i => Joins.unfrozen_of_block st4.res i
            dsimp at c0 c1 b0 b1'
            have hgl := st4.glt
            by_cases he : sh = s
            · have hbe : (sh.toList == s.toList) = true := by simp [he]
              have hsome : o = some ⟨a, acc⟩ := by rw [HOO.out, if_pos he]
              have K1 : Hid (((w4.setCell ⟨w.heap.size, 0, none⟩ (.int .i64 a)).setCell ⟨w.heap.size, 1, none⟩ (.slice ua k uc)).heap[w.heap.size]? = some (.cells #[.int .i64 a, .slice ua k uc] 29 (0, 0))) := put2d _ _ st4.res
              have K2 : Hid (SaysR o w (.returned (.tuple #[.agg #[.int .i64 a, .slice ua k uc], .bool true])) ((w4.setCell ⟨w.heap.size, 0, none⟩ (.int .i64 a)).setCell ⟨w.heap.size, 1, none⟩ (.slice ua k uc))) := HY.out ⟨a, acc⟩ (.slice ua k uc) _ hsome (WrRow.mono (own_low (own_low st4.row (g := w.heap.size) (by omega) 0 (.int .i64 a)) (g := w.heap.size) (by omega) 1 (.slice ua k uc)) (by omega)) ((st4.bel.setCell (p := ⟨w.heap.size, 0, none⟩) (Nat.le_refl _) (.int .i64 a)).setCell (p := ⟨w.heap.size, 1, none⟩) (Nat.le_refl _) (.slice ua k uc))
              clear HFN HN HY hsome st st4 HST HOO he
              go_wp2
              exact bodyPost_ret (results_txnb Tryd.results11 _ _ w.heap.size _ _ rfl rfl rfl K1.out) rfl K2.out
            · have hbe : (sh.toList == s.toList) = false := by rw [text_beq]; exact decide_eq_false he
              have hnone : o = none := by rw [HOO.out, if_neg he]
              obtain ⟨K1, K2⟩ := HFN.out w4 hnone st4.res st4.bel
              clear HFN HN HY hnone st st4 HST HOO he
              go_wp2
              exact bodyPost_ret (results_txnb Tryd.results11 _ _ w.heap.size _ _ rfl rfl rfl K1.out) rfl K2.out
end

end Go.Proofs.YtfdahfealibbnaaDoor
