/- The law of the syllables: its walk. -/
import Derived.Test.YtalpeeaaaapijaaRows
import Derived.Test.YtalpeeaaaapijaaKno
import Derived.Test.YtalpeeaaaapijaaSmI
import Derived.Test.YtalpeeaaaapijaaIPrt
namespace Go.Proofs.Ytalpeeaaaapijaa
open Go.RowKit

def HCode (w : World) (a : Option Addr) (len : Nat) (zs : List Int) : Prop :=
  len ≤ 1048576 ∧ (∀ t, 0 ≤ zs.getD t 0 ∧ zs.getD t 0 ≤ 255) ∧ ∀ t, t < len → ∃ b off, a = some ⟨b, off, none⟩ ∧ w.cell? ⟨b, off + t, none⟩ = some (.int .u8 (zs.getD t 0))

set_option maxRecDepth 100000 in
theorem at_any (a : Option Addr) (len cap : Nat) (zs : List Int) (w : World) (hc : HCode w a len zs) (i : Nat) (hi : i ≤ 3) (ii : Int) (hii : ii = i) :
    ∃ x : Int, 0 ≤ x ∧ x ≤ 255 ∧ Calls Try.prog 15 #[.slice a len cap, .int .i64 ii] w fun e w' => e = .returned (.int .i64 x) ∧ w = w' := by
  subst hii
  obtain ⟨hlen, hz, hcell⟩ := hc
  by_cases h : i < len
  · obtain ⟨b, off, rfl, hc1⟩ := hcell i h
    refine ⟨zs.getD i 0, (hz i).1, (hz i).2, ?_⟩
    have hb := hz i
    generalize zs.getD i 0 = x at hc1 hb ⊢
    have h' : (i : Int) < len := by omega
    have h0 : (0 : Int) ≤ i := by omega
    go_enter Try.func15, Try.ntmps15
    go_wp2
    go_ret
    exact ⟨ret_int (by first | rfl | (simp; done) | (simp; omega)), rfl⟩
  · refine ⟨(((i : Int) * 37 + (len : Int) * 11) % 256), by omega, by omega, ?_⟩
    have hm : ((i : Int) * 37 + (len : Int) * 11).tmod 256 = ((i : Int) * 37 + (len : Int) * 11) % 256 := Int.tmod_eq_emod_of_nonneg (by omega)
    go_enter Try.func15, Try.ntmps15
    go_wp2
    go_ret
    exact ⟨ret_int hm, rfl⟩

theorem known_lead (a : Int) (h0 : 0 ≤ a) (h1 : a < 11172) : knB (leadP a) = true := by
  unfold knB
  rw [knAny_yes _ 22 (by decide) (inB_mk (by show 4352 ≤ _; unfold leadP; omega) (by show _ ≤ 4370; unfold leadP; omega))]
  simp [leadP]; omega
theorem known_vow (a : Int) : knB (vowP a) = true := by
  unfold knB
  rw [knAny_yes _ 23 (by decide) (inB_mk (by show 4449 ≤ _; unfold vowP; omega) (by show _ ≤ 4469; unfold vowP; omega))]
  simp [vowP]; omega
theorem known_tail (a : Int) (h : a % 28 ≠ 0) : knB (tailP a) = true := by
  unfold knB
  rw [knAny_yes _ 24 (by decide) (inB_mk (by show 4520 ≤ _; unfold tailP; rw [if_neg h]; omega) (by show _ ≤ 4546; unfold tailP; rw [if_neg h]; omega))]
  simp [tailP, h]; omega

theorem syl_two (a : Int) (h0 : 0 ≤ a) (h : a % 28 = 0) : partsOf [leadP a, vowP a, tailP a] = [leadP a, vowP a] := by
  have h1 : leadP a ≠ 0 := by unfold leadP; omega
  have h2 : vowP a ≠ 0 := by unfold vowP; omega
  simp [partsOf, h1, h2, tailP, h]
theorem syl_three (a : Int) (h0 : 0 ≤ a) (h : a % 28 ≠ 0) : partsOf [leadP a, vowP a, tailP a] = [leadP a, vowP a, tailP a] := by
  have h1 : leadP a ≠ 0 := by unfold leadP; omega
  have h2 : vowP a ≠ 0 := by unfold vowP; omega
  have h3 : tailP a ≠ 0 := by unfold tailP; rw [if_neg h]; omega
  simp [partsOf, h1, h2, h3]
theorem syl_len (a : Int) (h0 : 0 ≤ a) : 2 ≤ (partsOf [leadP a, vowP a, tailP a]).length ∧ (partsOf [leadP a, vowP a, tailP a]).length ≤ 3 := by
  by_cases h : a % 28 = 0
  · rw [syl_two a h0 h]; simp
  · rw [syl_three a h0 h]; simp
theorem syl_inj (a b : Int) (ha : 0 ≤ a) (hb : 0 ≤ b) (e : partsOf [leadP a, vowP a, tailP a] = partsOf [leadP b, vowP b, tailP b]) : a = b := by
  by_cases h1 : a % 28 = 0
  · by_cases h2 : b % 28 = 0
    · rw [syl_two a ha h1, syl_two b hb h2] at e
      simp [leadP, vowP] at e; omega
    · rw [syl_two a ha h1, syl_three b hb h2] at e
      simp at e
  · by_cases h2 : b % 28 = 0
    · rw [syl_three a ha h1, syl_two b hb h2] at e
      simp at e
    · rw [syl_three a ha h1, syl_three b hb h2] at e
      simp [leadP, vowP, tailP, h1, h2] at e; omega

theorem known_val (c : Int) (b : Bool) (hb : knB c = b) (w : World) :
    Calls Try.prog 16 #[.int .i64 c] w fun e w' => e = .returned (.bool b) ∧ Below w.heap.size w w' := by
  subst hb; exact sKnown c w

theorem IntsAt.two {w : World} {v : Value} {p q : Int} (h : IntsAt w v [p, q]) :
    ∃ b off cap, v = .slice (some ⟨b, off, none⟩) 2 cap ∧ b < w.heap.size ∧ w.cell? ⟨b, off, none⟩ = some (.int .i64 p) ∧ w.cell? ⟨b, off + 1, none⟩ = some (.int .i64 q) := by
  obtain ⟨a, cap, rfl, hc⟩ := h
  obtain ⟨b, off, rfl, hb, c0⟩ := hc 0 (by simp)
  obtain ⟨b1, off1, e1, _, c1⟩ := hc 1 (by simp)
  cases e1
  exact ⟨b, off, cap, rfl, hb, c0, c1⟩
theorem IntsAt.three {w : World} {v : Value} {p q r : Int} (h : IntsAt w v [p, q, r]) :
    ∃ b off cap, v = .slice (some ⟨b, off, none⟩) 3 cap ∧ b < w.heap.size ∧ w.cell? ⟨b, off, none⟩ = some (.int .i64 p) ∧ w.cell? ⟨b, off + 1, none⟩ = some (.int .i64 q) ∧ w.cell? ⟨b, off + 2, none⟩ = some (.int .i64 r) := by
  obtain ⟨a, cap, rfl, hc⟩ := h
  obtain ⟨b, off, rfl, hb, c0⟩ := hc 0 (by simp)
  obtain ⟨b1, off1, e1, _, c1⟩ := hc 1 (by simp)
  obtain ⟨b2, off2, e2, _, c2⟩ := hc 2 (by simp)
  cases e1
  cases e2
  exact ⟨b, off, cap, rfl, hb, c0, c1, c2⟩

set_option maxRecDepth 100000 in
set_option maxHeartbeats 1600000 in
theorem hangul_walk (ad : Option Addr) (len cap : Nat) (zs : List Int) (w : World) (hc : HCode w ad len zs) :
    Calls Try.prog 4 #[.slice ad len cap] w fun e w' => e = .returned (.bool true) ∧ Below w.heap.size w w' := by
  have hlen : len ≤ 1048576 := hc.1
  obtain ⟨x0, g0, g0', H0⟩ := at_any ad len cap zs w hc 0 (by decide) 0 rfl
  obtain ⟨x1, g1, g1', H1⟩ := at_any ad len cap zs w hc 1 (by decide) 1 rfl
  obtain ⟨x2, g2, g2', H2⟩ := at_any ad len cap zs w hc 2 (by decide) 2 rfl
  obtain ⟨x3, g3, g3', H3⟩ := at_any ad len cap zs w hc 3 (by decide) 3 rfl
  clear hc
  obtain ⟨a, HA⟩ : ∃ a, a = (x0 * 256 + x1) % 11172 := ⟨_, rfl⟩
  obtain ⟨b, HB⟩ : ∃ b, b = (x2 * 256 + x3) % 11172 := ⟨_, rfl⟩
  have TA : (x0 * 256 + x1).tmod 11172 = a := by rw [HA]; exact Int.tmod_eq_emod_of_nonneg (by omega)
  have TB : (x2 * 256 + x3).tmod 11172 = b := by rw [HB]; exact Int.tmod_eq_emod_of_nonneg (by omega)
  have a0 : 0 ≤ a := by omega
  have a1 : a < 11172 := by omega
  have b0 : 0 ≤ b := by omega
  have b1 : b < 11172 := by omega
  clear HA HB
  have PA := fun w' => iPartsH (44032 + a) (inB_mk (by omega) (by omega)) w'
  have PB := fun w' => iPartsH (44032 + b) (inB_mk (by omega) (by omega)) w'
  rw [show (44032 : Int) + a - 44032 = a by omega] at PA
  rw [show (44032 : Int) + b - 44032 = b by omega] at PB
  have HI : Hid (partsOf [leadP a, vowP a, tailP a] = partsOf [leadP b, vowP b, tailP b] → a = b) := syl_inj a b a0 b0
  have HE : Hid (a = b → partsOf [leadP a, vowP a, tailP a] = partsOf [leadP b, vowP b, tailP b]) := fun e => by rw [e]
  have LB := syl_len b b0
  generalize partsOf [leadP b, vowP b, tailP b] = B at PB HI HE LB
  have hp0 : 4352 ≤ leadP a ∧ leadP a ≤ 4370 := by unfold leadP; omega
  have hp1 : 4449 ≤ vowP a ∧ vowP a ≤ 4469 := by unfold vowP; omega
  have K0 := fun w' => known_val (leadP a) true (known_lead a a0 a1) w'
  have K1 := fun w' => known_val (vowP a) true (known_vow a) w'
  by_cases h28 : a % 28 = 0
  · rw [syl_two a a0 h28] at PA HI HE
    have HN : Hid ((leadP a - 4352) * 588 + (vowP a - 4449) * 28 = a) := by show _ = _; unfold leadP vowP; omega
    generalize leadP a = p0 at PA HI HE K0 HN hp0
    generalize vowP a = p1 at PA HI HE K1 HN hp1
    clear h28
    by_cases hab : a = b
    · have hAB : Hid ([p0, p1] = B) := HE.out hab
      subst hab
      go_enter Try.func4, Try.ntmps4
      go_wp2_with (first | (go_at_call 8; go_in))
      refine H0.mono ?_
      rintro e w' ⟨rfl, rfl⟩
      go_wp2_with fail
      refine H1.mono ?_
      rintro e w' ⟨rfl, rfl⟩
      go_wp2_with fail
      refine H2.mono ?_
      rintro e w' ⟨rfl, rfl⟩
      go_wp2_with fail
      refine H3.mono ?_
      rintro e w' ⟨rfl, rfl⟩
      go_wp2_with fail
      refine (PA _).mono ?_
      rintro e w1 ⟨v1, rfl, r1, d1⟩
      go_wp2_with fail
      refine (PB _).mono ?_
      rintro e w2 ⟨v2, rfl, r2, d2⟩
      have D2 : Below w.heap.size w w2 := d1.trans (d2.mono d1.size)
      have q1 := (r1.below d2).at
      have q2 := r2.at
      have S1 := sameInts_any v1 v2 [p0, p1] B w2 (by simp) q1 q2
      obtain ⟨bb, off, cp, rfl, hbb, c0, c1⟩ := q1.two
      obtain ⟨a2, cp2, rfl, -⟩ := q2
      rw [decide_eq_true hAB.out] at S1
      go_wp2_with (go_at_call 11; refine S1.mono ?_; rintro e w3 ⟨rfl, d3⟩)
      have e0 := (d3.cell (p := ⟨bb, off, none⟩) hbb).trans c0
      have e1 := (d3.cell (p := ⟨bb, off + 1, none⟩) hbb).trans c1
      have D3 : Below w.heap.size w w3 := D2.trans (d3.mono D2.size)
      have hN := HN.out
      go_quiet (fail)
      go_wp2_with fail
      refine (K0 _).mono ?_
      rintro e w4 ⟨rfl, d4⟩
      have e2 := (((below_drewN d3 _).trans (d4.mono d3.size)).cell (p := ⟨bb, off + 1, none⟩) hbb).trans c1
      have D4 : Below w.heap.size w w4 := (below_drewN D3 _).trans (d4.mono D3.size)
      go_wp2_with fail
      refine (K1 _).mono ?_
      rintro e w5 ⟨rfl, d5⟩
      have D5 : Below w.heap.size w w5 := D4.trans (d5.mono D4.size)
      go_wp2
      go_ret
      exact ⟨rfl, D5⟩
    · have hab1 : (a == b) = false := by simpa using hab
      have hab2 : decide (a = b) = false := by simpa using hab
      have hab3 : ((44032 + a : Int) == 44032 + b) = false := by rw [beq_eq_false_iff_ne]; omega
      go_enter Try.func4, Try.ntmps4
      go_wp2_with (first | (go_at_call 8; go_in))
      refine H0.mono ?_
      rintro e w' ⟨rfl, rfl⟩
      go_wp2_with fail
      refine H1.mono ?_
      rintro e w' ⟨rfl, rfl⟩
      go_wp2_with fail
      refine H2.mono ?_
      rintro e w' ⟨rfl, rfl⟩
      go_wp2_with fail
      refine H3.mono ?_
      rintro e w' ⟨rfl, rfl⟩
      go_wp2_with fail
      refine (PA _).mono ?_
      rintro e w1 ⟨v1, rfl, r1, d1⟩
      go_wp2_with fail
      refine (PB _).mono ?_
      rintro e w2 ⟨v2, rfl, r2, d2⟩
      have D2 : Below w.heap.size w w2 := d1.trans (d2.mono d1.size)
      have q1 := (r1.below d2).at
      have q2 := r2.at
      have S1 := sameInts_any v1 v2 [p0, p1] B w2 (by simp) q1 q2
      obtain ⟨bb, off, cp, rfl, hbb, c0, c1⟩ := q1.two
      obtain ⟨a2, cp2, rfl, -⟩ := q2
      rw [decide_eq_false (fun e => hab (HI.out e))] at S1
      go_wp2_with (go_at_call 11; refine S1.mono ?_; rintro e w3 ⟨rfl, d3⟩)
      have e0 := (d3.cell (p := ⟨bb, off, none⟩) hbb).trans c0
      have e1 := (d3.cell (p := ⟨bb, off + 1, none⟩) hbb).trans c1
      have D3 : Below w.heap.size w w3 := D2.trans (d3.mono D2.size)
      have hN := HN.out
      go_quiet (fail)
      go_wp2_with fail
      refine (K0 _).mono ?_
      rintro e w4 ⟨rfl, d4⟩
      have e2 := (((below_drewN d3 _).trans (d4.mono d3.size)).cell (p := ⟨bb, off + 1, none⟩) hbb).trans c1
      have D4 : Below w.heap.size w w4 := (below_drewN D3 _).trans (d4.mono D3.size)
      go_wp2_with fail
      refine (K1 _).mono ?_
      rintro e w5 ⟨rfl, d5⟩
      have D5 : Below w.heap.size w w5 := D4.trans (d5.mono D4.size)
      go_wp2
      go_ret
      exact ⟨rfl, D5⟩
  · rw [syl_three a a0 h28] at PA HI HE
    have HN : Hid ((leadP a - 4352) * 588 + (vowP a - 4449) * 28 + tailP a - 4519 = a) := by show _ = _; unfold leadP vowP tailP; rw [if_neg h28]; omega
    have hp2 : 4520 ≤ tailP a ∧ tailP a ≤ 4546 := by unfold tailP; rw [if_neg h28]; omega
    have K2 := fun w' => known_val (tailP a) true (known_tail a h28) w'
    generalize leadP a = p0 at PA HI HE K0 HN hp0
    generalize vowP a = p1 at PA HI HE K1 HN hp1
    generalize tailP a = p2 at PA HI HE K2 HN hp2
    clear h28
    by_cases hab : a = b
    · have hAB : Hid ([p0, p1, p2] = B) := HE.out hab
      subst hab
      go_enter Try.func4, Try.ntmps4
      go_wp2_with (first | (go_at_call 8; go_in))
      refine H0.mono ?_
      rintro e w' ⟨rfl, rfl⟩
      go_wp2_with fail
      refine H1.mono ?_
      rintro e w' ⟨rfl, rfl⟩
      go_wp2_with fail
      refine H2.mono ?_
      rintro e w' ⟨rfl, rfl⟩
      go_wp2_with fail
      refine H3.mono ?_
      rintro e w' ⟨rfl, rfl⟩
      go_wp2_with fail
      refine (PA _).mono ?_
      rintro e w1 ⟨v1, rfl, r1, d1⟩
      go_wp2_with fail
      refine (PB _).mono ?_
      rintro e w2 ⟨v2, rfl, r2, d2⟩
      have D2 : Below w.heap.size w w2 := d1.trans (d2.mono d1.size)
      have q1 := (r1.below d2).at
      have q2 := r2.at
      have S1 := sameInts_any v1 v2 [p0, p1, p2] B w2 (by simp) q1 q2
      obtain ⟨bb, off, cp, rfl, hbb, c0, c1, c2⟩ := q1.three
      obtain ⟨a2, cp2, rfl, -⟩ := q2
      rw [decide_eq_true hAB.out] at S1
      go_wp2_with (go_at_call 11; refine S1.mono ?_; rintro e w3 ⟨rfl, d3⟩)
      have e0 := (d3.cell (p := ⟨bb, off, none⟩) hbb).trans c0
      have e1 := (d3.cell (p := ⟨bb, off + 1, none⟩) hbb).trans c1
      have e1' := (d3.cell (p := ⟨bb, off + 2, none⟩) hbb).trans c2
      have D3 : Below w.heap.size w w3 := D2.trans (d3.mono D2.size)
      have hN := HN.out
      go_quiet (fail)
      go_wp2_with fail
      refine (K0 _).mono ?_
      rintro e w4 ⟨rfl, d4⟩
      have e2 := (((below_drewN d3 _).trans (d4.mono d3.size)).cell (p := ⟨bb, off + 1, none⟩) hbb).trans c1
      have D4 : Below w.heap.size w w4 := (below_drewN D3 _).trans (d4.mono D3.size)
      go_wp2_with fail
      refine (K1 _).mono ?_
      rintro e w5 ⟨rfl, d5⟩
      have D5 : Below w.heap.size w w5 := D4.trans (d5.mono D4.size)
      have D45 := ((below_drewN d3 _).trans (d4.mono d3.size))
      have e3 := ((D45.trans (d5.mono D45.size)).cell (p := ⟨bb, off + 2, none⟩) hbb).trans c2
      go_wp2_with fail
      refine (K2 _).mono ?_
      rintro e w6 ⟨rfl, d6⟩
      have D6 : Below w.heap.size w w6 := D5.trans (d6.mono D5.size)
      go_wp2
      go_ret
      exact ⟨rfl, D6⟩
    · have hab1 : (a == b) = false := by simpa using hab
      have hab2 : decide (a = b) = false := by simpa using hab
      have hab3 : ((44032 + a : Int) == 44032 + b) = false := by rw [beq_eq_false_iff_ne]; omega
      go_enter Try.func4, Try.ntmps4
      go_wp2_with (first | (go_at_call 8; go_in))
      refine H0.mono ?_
      rintro e w' ⟨rfl, rfl⟩
      go_wp2_with fail
      refine H1.mono ?_
      rintro e w' ⟨rfl, rfl⟩
      go_wp2_with fail
      refine H2.mono ?_
      rintro e w' ⟨rfl, rfl⟩
      go_wp2_with fail
      refine H3.mono ?_
      rintro e w' ⟨rfl, rfl⟩
      go_wp2_with fail
      refine (PA _).mono ?_
      rintro e w1 ⟨v1, rfl, r1, d1⟩
      go_wp2_with fail
      refine (PB _).mono ?_
      rintro e w2 ⟨v2, rfl, r2, d2⟩
      have D2 : Below w.heap.size w w2 := d1.trans (d2.mono d1.size)
      have q1 := (r1.below d2).at
      have q2 := r2.at
      have S1 := sameInts_any v1 v2 [p0, p1, p2] B w2 (by simp) q1 q2
      obtain ⟨bb, off, cp, rfl, hbb, c0, c1, c2⟩ := q1.three
      obtain ⟨a2, cp2, rfl, -⟩ := q2
      rw [decide_eq_false (fun e => hab (HI.out e))] at S1
      go_wp2_with (go_at_call 11; refine S1.mono ?_; rintro e w3 ⟨rfl, d3⟩)
      have e0 := (d3.cell (p := ⟨bb, off, none⟩) hbb).trans c0
      have e1 := (d3.cell (p := ⟨bb, off + 1, none⟩) hbb).trans c1
      have e1' := (d3.cell (p := ⟨bb, off + 2, none⟩) hbb).trans c2
      have D3 : Below w.heap.size w w3 := D2.trans (d3.mono D2.size)
      have hN := HN.out
      go_quiet (fail)
      go_wp2_with fail
      refine (K0 _).mono ?_
      rintro e w4 ⟨rfl, d4⟩
      have e2 := (((below_drewN d3 _).trans (d4.mono d3.size)).cell (p := ⟨bb, off + 1, none⟩) hbb).trans c1
      have D4 : Below w.heap.size w w4 := (below_drewN D3 _).trans (d4.mono D3.size)
      go_wp2_with fail
      refine (K1 _).mono ?_
      rintro e w5 ⟨rfl, d5⟩
      have D5 : Below w.heap.size w w5 := D4.trans (d5.mono D4.size)
      have D45 := ((below_drewN d3 _).trans (d4.mono d3.size))
      have e3 := ((D45.trans (d5.mono D45.size)).cell (p := ⟨bb, off + 2, none⟩) hbb).trans c2
      go_wp2_with fail
      refine (K2 _).mono ?_
      rintro e w6 ⟨rfl, d6⟩
      have D6 : Below w.heap.size w w6 := D5.trans (d6.mono D5.size)
      go_wp2
      go_ret
      exact ⟨rfl, D6⟩

end Go.Proofs.Ytalpeeaaaapijaa
