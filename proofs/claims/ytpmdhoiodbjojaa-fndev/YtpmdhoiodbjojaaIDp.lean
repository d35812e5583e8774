/- Devices, impl: isNoWrite, slices.ContainsFunc of it, writesFit, DevOk. -/
import Derived.Test.YtpmdhoiodbjojaaRows
import Derived.Test.YtpmdhoiodbjojaaLDw
import Derived.Test.YtpmdhoiodbjojaaTlT
import Derived.Test.YtpmdhoiodbjojaaIBtw
import Derived.Test.YtpmdhoiodbjojaaSDp
namespace Go.Proofs.Ytpmdhoiodbjojaa
open Go.RowKit

theorem wrB_eq (x : Wr) : wrB x = (inB x.block 0 17 && !decide (4000 < x.text.size)) := by
  unfold wrB inB
  rw [Bool.eq_iff_iff]
  simp
  omega

set_option maxRecDepth 100000 in
set_option maxHeartbeats 1000000 in
theorem isNoWrite_any (x : Wr) (w : World) :
    Calls Try.prog 61 #[.agg #[.int .i64 x.block, .string x.text]] w fun e w' => e = .returned (.bool (!wrB x)) ∧ Below w.heap.size w w' := by
  have hb := below_lit w (.cells #[.int .i64 x.block, .string x.text] 35)
  have HE : Hid ((!wrB x) = (!inB x.block 0 17 || decide (4000 < x.text.size))) := by show _ = _; rw [wrB_eq]; simp
  have HB := fun w' => btw_any x.block 0 17 w'
  have HF := fun w' => fit_one x.text w'
  generalize (!wrB x) = r at *
  generalize inB x.block 0 17 = q at *
  generalize decide (4000 < x.text.size) = q2 at *
  obtain ⟨b, t⟩ := x
  dsimp only at *
  cases q with
  | false =>
    go_enter Try.func61, Try.ntmps61
    go_wp2_with (first | (go_at_call 66; refine (HB _).mono ?_; rintro e w2 ⟨rfl, rfl⟩) | (go_at_call 43; refine (HF _).mono ?_; rintro e w2 ⟨rfl, rfl⟩))
    go_ret
    exact ⟨ret_bool (by rw [HE.out]; rfl), hb⟩
  | true =>
    go_enter Try.func61, Try.ntmps61
    go_wp2_with (first | (go_at_call 66; refine (HB _).mono ?_; rintro e w2 ⟨rfl, rfl⟩) | (go_at_call 43; refine (HF _).mono ?_; rintro e w2 ⟨rfl, rfl⟩))
    go_ret
    exact ⟨ret_bool (by rw [HE.out]; rfl), hb⟩

set_option maxRecDepth 100000 in
set_option maxHeartbeats 1000000 in
theorem indexW_any (v : Value) (L : List Wr) (w : World) (hl : L.length ≤ 9223372036854775807) (hv : WrsAt w v L) :
    Calls Try.prog 65 #[v, .func (.func 61) #[] #[]] w fun e w' => ∃ z : Int, e = .returned (.int .i64 z) ∧ Hid (decide (0 ≤ z) = !wrsB L) ∧ Below w.heap.size w w' := by
  obtain ⟨a, ca, rfl, -, hva⟩ := hv
  have HEND : Hid ((∀ t, t < L.length → wrB L[t]! = true) → decide ((0 : Int) ≤ -1) = !wrsB L) := fun h => by
    have : wrsB L = true := by
      unfold wrsB
      rw [List.all_eq_true]
      intro x hx
      obtain ⟨i, hi, rfl⟩ := List.getElem_of_mem hx
      have := h i hi
      rwa [getElem!_pos L i hi] at this
    rw [this]; rfl
  have HYES : Hid (∀ k : Nat, k < L.length → ¬ wrB L[k]! = true → decide ((0 : Int) ≤ k) = !wrsB L) := fun k hk h => by
    have : wrsB L = false := by
      rw [Bool.eq_false_iff]
      intro e
      unfold wrsB at e
      rw [List.all_eq_true] at e
      exact h (by rw [getElem!_pos L k hk]; exact e _ (List.getElem_mem hk))
    rw [this, decide_eq_true (by omega)]; rfl
  obtain ⟨n, HN⟩ : ∃ n, Hid (n = L.length) := ⟨_, rfl⟩
  rw [← HN.out] at hva hl HEND HYES ⊢
  go_enter Try.func65, Try.ntmps65
  go_wp2
  go_loopw [8] (fun i wr => ∃ k : Nat, k ≤ n ∧ i = .int .i64 k ∧ Hid (∀ t, t < k → wrB L[t]! = true) ∧ Below w.heap.size w wr) (fun i _ => n - (intOf i).toNat)
  case atStart => exact ⟨0, Nat.zero_le _, rfl, fun t ht => by omega, Below.refl _ _⟩
  case round =>
    obtain ⟨k, hk, rfl, HK, hbel⟩ := hrel
    by_cases hlt : k < n
    · obtain ⟨b1, o1, rfl, hb1, hc1⟩ := hva k hlt
      have hc1 := hc1.below hb1 hbel
      have HF := fun w' => isNoWrite_any L[k]! w'
      have HY := HYES.out k hlt
      have HX : Hid (wrB L[k]! = true → ∀ t, t < k + 1 → wrB L[t]! = true) := fun h t ht => by
        by_cases e : t = k
        · rw [e]; exact h
        · exact HK.out t (by omega)
      have hkn : (k : Int) < (n : Int) := by omega
      have hk0 : (0 : Int) ≤ (k : Int) := by omega
      generalize L[k]! = s at *
      have c0 := hc1.c0
      have c1 := hc1.c1
      clear hc1 hva
      generalize wrB s = q at *
      cases q with
      | false =>
        have HY2 : Hid _ := HY (by simp)
        clear HX HY
        go_wp2_with (go_at_call 61; refine (HF _).mono ?_; rintro e w' ⟨rfl, b'⟩)
        go_ret
        exact ⟨_, rfl, HY2, hbel.trans (b'.mono hbel.size)⟩
      | true =>
        have HX2 : Hid _ := HX.out rfl
        clear HX HY
        go_wp2_with (go_at_call 61; refine (HF _).mono ?_; rintro e w' ⟨rfl, b'⟩)
        go_roundw
        case rel => exact ⟨k + 1, by omega, by go_num, HX2, hbel.trans (b'.mono hbel.size)⟩
        case measure => simp [intOf]; omega
    · obtain rfl : k = n := by omega
      have HE : Hid _ := HEND.out HK.out
      go_wp2
      go_ret
      exact ⟨-1, rfl, HE, hbel⟩

set_option maxRecDepth 100000 in
set_option maxHeartbeats 1000000 in
theorem containsW_any (v : Value) (L : List Wr) (w : World) (hl : L.length ≤ 9223372036854775807) (hv : WrsAt w v L) :
    Calls Try.prog 60 #[v, .func (.func 61) #[] #[]] w fun e w' => e = .returned (.bool (!wrsB L)) ∧ Below w.heap.size w w' := by
  have HI := indexW_any v L w hl hv
  obtain ⟨a, ca, rfl, -, -⟩ := hv
  generalize (!wrsB L) = r at *
  go_enter Try.func60, Try.ntmps60
  go_wp2_with (go_at_call 65; refine HI.mono ?_; rintro e w' ⟨z, rfl, HZ, b'⟩)
  go_ret
  exact ⟨ret_bool HZ.out, b'⟩

set_option maxRecDepth 100000 in
set_option maxHeartbeats 1000000 in
theorem writesFit_any (v : Value) (L : List Wr) (room : Int) (w : World) (hl : L.length ≤ 9223372036854775807) (hv : WrsAt w v L) :
    Calls Try.prog 44 #[v, .int .i64 room] w fun e w' => e = .returned (.bool (decide ((L.length : Int) ≤ room) && wrsB L)) ∧ Below w.heap.size w w' := by
  have HI := containsW_any v L w hl hv
  obtain ⟨a, ca, rfl, -, -⟩ := hv
  generalize wrsB L = r at *
  generalize L.length = n at *
  by_cases h : (n : Int) ≤ room
  · rw [decide_eq_true h]
    go_enter Try.func44, Try.ntmps44
    go_wp2_with (go_at_call 60; refine HI.mono ?_; rintro e w' ⟨rfl, b'⟩)
    go_ret
    exact ⟨by cases r <;> rfl, b'⟩
  · rw [decide_eq_false h]
    go_enter Try.func44, Try.ntmps44
    go_wp2_with fail
    go_ret
    exact ⟨by simp, Below.refl _ _⟩

set_option maxRecDepth 100000 in
set_option maxHeartbeats 1000000 in
theorem iDevOk (v : Value) (d : Dv) (w : World) (hl : d.blocks.length ≤ 9223372036854775807) (hl2 : d.pend.length ≤ 9223372036854775807) (hv : DevAt w v d) :
    Calls Try.prog 17 #[v] w fun e w' => e = .returned (.bool (devB d)) ∧ Below w.heap.size w w' := by
  obtain ⟨a, b, rfl, ha, hb⟩ := hv
  have B0 := below_lit w (.cells #[a, b] 27)
  have S0 : (w.alloc (.cells #[a, b] 27)).heap.size = w.heap.size + 1 := by simp
  have H1 := containsFit a d.blocks _ hl (ha.below B0)
  have H2 := writesFit_any b d.pend 40 _ hl2 (hb.below B0)
  rw [S0] at H2
  have HE : Hid (devB d = (decide (d.blocks.length = 18) && (!(d.blocks.any fun t => decide (4000 < t.size)) && (decide ((d.pend.length : Int) ≤ 40) && wrsB d.pend)))) := by
    show _ = _
    unfold devB txtB
    rw [Bool.eq_iff_iff]
    simp only [Bool.and_eq_true, decide_eq_true_eq, Bool.not_eq_true', List.all_eq_true, List.any_eq_false]
    constructor
    · rintro ⟨⟨h1, h2⟩, h3, h4⟩
      exact ⟨h1, fun x hx => by have := h3 x hx; omega, by omega, h4⟩
    · rintro ⟨h1, h3, h2, h4⟩
      exact ⟨⟨h1, by omega⟩, fun x hx => by have := h3 x hx; omega, h4⟩
  generalize devB d = r at *
  generalize (d.blocks.any fun t => decide (4000 < t.size)) = q1 at *
  generalize (decide ((d.pend.length : Int) ≤ 40) && wrsB d.pend) = q2 at *
  obtain ⟨aa, ca, rfl, -, -⟩ := ha
  generalize hn : d.blocks.length = n at *
  by_cases h18 : n = 18
  · subst h18
    cases q1 with
    | true =>
      go_enter Try.func17, Try.ntmps17
      go_wp2_with (first | (go_at_call 42; refine H1.mono ?_; rintro e w2 ⟨rfl, rfl⟩) | (go_at_call 44; refine H2.mono ?_; rintro e w3 ⟨rfl, b3⟩))
      go_ret
      exact ⟨ret_bool (by rw [HE.out]; rfl), B0⟩
    | false =>
      go_enter Try.func17, Try.ntmps17
      go_wp2_with (first | (go_at_call 42; refine H1.mono ?_; rintro e w2 ⟨rfl, rfl⟩) | (go_at_call 44; refine H2.mono ?_; rintro e w3 ⟨rfl, b3⟩))
      go_ret
      exact ⟨ret_bool (by rw [HE.out]; rfl), B0.trans (b3.mono (by omega))⟩
  · have hne : ((n : Int) == 18) = false := by simp; omega
    have HE : Hid (r = false) := by show _ = _; rw [HE.out, decide_eq_false h18]; rfl
    clear h18
    go_enter Try.func17, Try.ntmps17
    go_wp2_with fail
    go_ret
    exact ⟨ret_bool HE.out.symm, B0⟩

end Go.Proofs.Ytpmdhoiodbjojaa
