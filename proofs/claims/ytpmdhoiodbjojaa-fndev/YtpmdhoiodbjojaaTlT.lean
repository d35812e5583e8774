/- Texts that are too long: impl.tooLong; slices.ContainsFunc of it. -/
import Derived.Test.YtpmdhoiodbjojaaRows
import Derived.Test.YtpmdhoiodbjojaaStS
import Derived.Deep.RegionHeld3
namespace Go.Proofs.Ytpmdhoiodbjojaa
open Go.RowKit Go.Sort

set_option maxRecDepth 100000 in
theorem fit_one (s : ByteArray) (w : World) : Calls Try.prog 43 #[.string s] w fun e w' => e = .returned (.bool (decide (4000 < s.size))) ∧ w = w' := by
  go_enter Try.func43, Try.ntmps43
  go_wp2
  go_ret
  exact ⟨ret_bool (by simp; omega), rfl⟩

set_option maxRecDepth 100000 in
set_option maxHeartbeats 1000000 in
theorem indexFit (v : Value) (L : List ByteArray) (w : World) (hl : L.length ≤ 9223372036854775807) (hv : TxtsAt w v L) :
    Calls Try.prog 59 #[v, .func (.func 43) #[] #[]] w fun e w' => ∃ z : Int, e = .returned (.int .i64 z) ∧ Hid (0 ≤ z ↔ ∃ t ∈ L, 4000 < t.size) ∧ w = w' := by
  obtain ⟨a, ca, rfl, -, hva⟩ := hv
  have HEND : Hid ((∀ t, t < L.length → ¬ 4000 < L[t]!.size) → ((0 : Int) ≤ -1 ↔ ∃ t ∈ L, 4000 < t.size)) := fun h => ⟨fun h2 => by omega, fun ⟨t, ht, h2⟩ => by
    obtain ⟨i, hi, rfl⟩ := List.getElem_of_mem ht
    have := h i hi
    rw [getElem!_pos L i hi] at this
    exact absurd h2 this⟩
  have HYES : Hid (∀ k : Nat, k < L.length → 4000 < L[k]!.size → ((0 : Int) ≤ k ↔ ∃ t ∈ L, 4000 < t.size)) := fun k hk h => ⟨fun _ => ⟨L[k]!, by rw [getElem!_pos L k hk]; exact List.getElem_mem hk, h⟩, fun _ => by omega⟩
  obtain ⟨n, HN⟩ : ∃ n, Hid (n = L.length) := ⟨_, rfl⟩
  rw [← HN.out] at hva hl HEND HYES ⊢
  go_enter Try.func59, Try.ntmps59
  go_wp2
  go_loopw [8] (fun i wr => ∃ k : Nat, k ≤ n ∧ i = .int .i64 k ∧ Hid (∀ t, t < k → ¬ 4000 < L[t]!.size) ∧ w = wr) (fun i _ => n - (intOf i).toNat)
  case atStart => exact ⟨0, Nat.zero_le _, rfl, fun t ht => by omega, rfl⟩
  case round =>
    obtain ⟨k, hk, rfl, HK, rfl⟩ := hrel
    by_cases hlt : k < n
    · obtain ⟨b1, o1, rfl, hb1, hc1⟩ := hva k hlt
      have HF := fun w' => fit_one L[k]! w'
      have HY := HYES.out k hlt
      have HX : Hid (¬ 4000 < L[k]!.size → ∀ t, t < k + 1 → ¬ 4000 < L[t]!.size) := fun h t ht => by
        by_cases e : t = k
        · rw [e]; exact h
        · exact HK.out t (by omega)
      have hkn : (k : Int) < (n : Int) := by omega
      have hk0 : (0 : Int) ≤ (k : Int) := by omega
      generalize L[k]! = s at *
      by_cases hs : 4000 < s.size
      · have HY : Hid _ := HY hs
        rw [decide_eq_true hs] at HF
        clear HX hs hva
        go_wp2_with (go_at_call 43; refine (HF _).mono ?_; rintro e w' ⟨rfl, rfl⟩)
        go_ret
        exact ⟨_, rfl, HY, rfl⟩
      · have HX : Hid _ := HX.out hs
        rw [decide_eq_false hs] at HF
        clear HY hs hva
        go_wp2_with (go_at_call 43; refine (HF _).mono ?_; rintro e w' ⟨rfl, rfl⟩)
        go_roundw
        case rel => exact ⟨k + 1, by omega, by go_num, HX, trivial⟩
        case measure => simp [intOf]; omega
    · obtain rfl : k = n := by omega
      have HE : Hid _ := HEND.out HK.out
      go_wp2
      go_ret
      exact ⟨-1, rfl, HE, rfl⟩

set_option maxRecDepth 100000 in
set_option maxHeartbeats 1000000 in
theorem containsFit (v : Value) (L : List ByteArray) (w : World) (hl : L.length ≤ 9223372036854775807) (hv : TxtsAt w v L) :
    Calls Try.prog 42 #[v, .func (.func 43) #[] #[]] w fun e w' => e = .returned (.bool (L.any fun t => decide (4000 < t.size))) ∧ w = w' := by
  have HI := indexFit v L w hl hv
  obtain ⟨a, ca, rfl, -, -⟩ := hv
  have HB : Hid (∀ z : Int, (0 ≤ z ↔ ∃ t ∈ L, 4000 < t.size) → decide (0 ≤ z) = L.any fun t => decide (4000 < t.size)) := fun z h => by
    rw [Bool.eq_iff_iff, decide_eq_true_eq, h]; simp
  generalize (L.any fun t => decide (4000 < t.size)) = r at *
  go_enter Try.func42, Try.ntmps42
  go_wp2_with (go_at_call 59; refine HI.mono ?_; rintro e w' ⟨z, rfl, HZ, rfl⟩)
  go_ret
  exact ⟨ret_bool (HB.out z HZ.out), rfl⟩

end Go.Proofs.Ytpmdhoiodbjojaa
