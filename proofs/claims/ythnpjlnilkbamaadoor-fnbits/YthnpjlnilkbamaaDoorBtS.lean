/- A bitmap: spec.BitsOk, Runs, FindRun, FreeOf, SetRun. -/
import Derived.Test.YthnpjlnilkbamaaDoorRows
import Derived.Test.YthnpjlnilkbamaaDoorBtT
import Derived.Test.YthnpjlnilkbamaaDoorRnR
import Derived.Test.YthnpjlnilkbamaaDoorBoL
namespace Go.Proofs.YthnpjlnilkbamaaDoor
open Go.RowKit Go.Sort

theorem sBitsOk (v : Value) (b : List Bool) (w : World) (hv : BosAt w v b) :
    Calls Tryd.prog 11 #[v] w fun e w' => e = .returned (.bool (decide (b.length = 24))) ∧ w = w' := by
  obtain ⟨a, ca, rfl, -, -⟩ := hv
  have hd : ((b.length : Int) == 24) = decide (b.length = 24) := by rw [Bool.eq_iff_iff, beq_iff_eq, decide_eq_true_eq]; omega
  generalize decide (b.length = 24) = r at hd ⊢
  go_enter Tryd.func11, Tryd.ntmps11
  go_wp2
  go_ret
  first | exact ⟨rfl, rfl⟩ | exact ⟨ret_bool hd, rfl⟩

theorem runStep_free {b : List Bool} {s : Nat × List Rn} {k : Nat} (h : k < b.length) (hb : b[k]! = false) : runStep b s k = s := by unfold runStep; rw [if_pos ⟨h, hb⟩]
theorem runStep_set {b : List Bool} {s : Nat × List Rn} {k : Nat} (h : ¬ (k < b.length ∧ b[k]! = false)) : runStep b s k = (k + 1, if s.1 < k then s.2 ++ [⟨s.1, (k : Int) - s.1⟩] else s.2) := by unfold runStep; rw [if_neg h]

set_option maxRecDepth 100000 in
set_option maxHeartbeats 1000000 in
theorem sRuns (v : Value) (b : List Bool) (w : World) (hv : BosAt w v b) :
    Calls Tryd.prog 17 #[v] w fun e w' => ∃ u, e = .returned u ∧ RnRow w' w.heap.size u (runsN b) ∧ Below w.heap.size w w' := by
  have B0 := below_lit w (.cells #[] 34)
  have R0 := lit_Rns w
  have HB := sBitsOk v b _ (hv.below B0)
  by_cases hb : b.length = 24
  · rw [decide_eq_true hb] at HB
    have HU : Hid (∀ k, k ≤ 25 → RunI b k (runsUp b k)) := fun k hk => runsUp_is b k (by omega)
    have HST : Hid (∀ k, runsUp b (k + 1) = runStep b (runsUp b k) k) := fun k => rfl
    have HE : Hid (runsN b = (runsUp b 25).2) := by show _ = _; unfold runsN; rw [if_pos hb]
    have H0 : Hid (runsUp b 0 = (0, [])) := rfl
    obtain ⟨a, ca, rfl, -, hva⟩ := hv
    rw [hb] at hva HB ⊢
    have HBL : Hid (b.length = 24) := hb
    generalize runsN b = res at HE ⊢
    clear hb
    go_enter Tryd.func17, Tryd.ntmps17
    go_wp2_with (go_at_call 11; refine HB.mono ?_; rintro e w1 ⟨rfl, rfl⟩)
    clear HB
    generalize (w.alloc (.cells #[] 34)) = w1 at *
    go_loopw [3, 4, 5] (fun u fv iv wr => ∃ (k : Nat) (f : Nat) (l : List Rn), k ≤ 25 ∧ iv = .int .i64 k ∧ fv = .int .i64 f ∧ Hid (runsUp b k = (f, l)) ∧ RnRow wr w.heap.size u l ∧ Below w.heap.size w wr) (fun _ _ iv _ => 25 - (intOf iv).toNat)
    case atStart => exact ⟨0, 0, [], by omega, rfl, rfl, H0, R0, B0⟩
    case round =>
      obtain ⟨k, f, l, hk, rfl, rfl, HR, hrow, hbel⟩ := hrel
      have HI := HU.out k hk
      rw [HR.out] at HI
      have hfk : f ≤ k := HI.le
      have hll : l.length ≤ 25 := by
        rcases Nat.lt_or_ge l.length 26 with h | h
        · omega
        · exfalso
          have hR : RnR l := ⟨HI.gap, fun r hr => by have := HI.one r hr; have := HBL.out; omega⟩
          rcases rn_len l hR 0 (fun r hr => (hR.one r hr).1) (by omega) with h2 | h2
          · omega
          · rw [h2] at h; simp at h
      clear HI
      by_cases hlt : k ≤ 24
      · have hs := hbel.size
        have hwf : IntKind.i64.wrap ((k : Int) - (f : Int)) = (k : Int) - (f : Int) := by rw [IntKind.wrap_i64]; omega
        by_cases h24 : k < 24
        · obtain ⟨b1, o1, rfl, hb1, hc1⟩ := hva k h24
          have c0 := (hc1.below hb1 hbel).c0
          rw [Nat.mul_one] at c0
          have HF : Hid (b[k]! = false → runsUp b (k + 1) = (f, l)) := fun h => by rw [HST.out, HR.out]; exact runStep_free (by have := HBL.out; omega) h
          have HS : Hid (b[k]! = true → runsUp b (k + 1) = (k + 1, if f < k then l ++ [⟨f, (k : Int) - f⟩] else l)) := fun h => by rw [HST.out, HR.out]; exact runStep_set (by rw [h]; simp)
          generalize b[k]! = x at c0 HF HS
          clear hc1 hva
          cases x with
          | false =>
            have HF2 : Hid _ := HF.out rfl
            clear HF HS
            go_wp2
            go_roundw
            case rel => exact ⟨k + 1, f, l, by omega, by go_num, rfl, HF2, hrow, hbel⟩
            case measure => simp [intOf]; omega
          | true =>
            have HS2 := HS.out rfl
            clear HF HS
            by_cases h1 : f < k
            · rw [if_pos h1] at HS2
              have HS3 : Hid _ := HS2
              clear HS2
              go_wp2_with (at_builtin; refine append_Rns _ rfl (.tmp 31) (.tmp 37) rfl w.heap.size _ _ l [⟨f, (k : Int) - f⟩] (by simp; omega) (hrow.below (below_lit _ _)) (one_Rn _ ⟨f, (k : Int) - f⟩) rfl rfl (Nat.le_trans hs (below_lit _ _).size) ?_; intro v8 w8 row8 b8; have hb8 := (hbel.trans ((below_lit _ _).mono hs)).trans b8)
              go_roundw
              case rel => exact ⟨k + 1, k + 1, _, by omega, by go_num, by go_num, HS3, row8, hb8⟩
              case measure => simp [intOf]; omega
            · rw [if_neg h1] at HS2
              have HS3 : Hid _ := HS2
              clear HS2
              go_wp2
              go_roundw
              case rel => exact ⟨k + 1, k + 1, l, by omega, by go_num, by go_num, HS3, hrow, hbel⟩
              case measure => simp [intOf]; omega
        · obtain rfl : k = 24 := by omega
          have HS2 : runsUp b 25 = (25, if f < 24 then l ++ [⟨f, ((24 : Nat) : Int) - f⟩] else l) := by rw [HST.out, HR.out]; exact runStep_set (by have := HBL.out; omega)
          clear hva
          by_cases h1 : f < 24
          · rw [if_pos h1] at HS2
            have HS3 : Hid _ := HS2
            clear HS2
            go_wp2_with (at_builtin; refine append_Rns _ rfl (.tmp 31) (.tmp 37) rfl w.heap.size _ _ l [⟨f, ((24 : Nat) : Int) - f⟩] (by simp; omega) (hrow.below (below_lit _ _)) (one_Rn _ ⟨f, ((24 : Nat) : Int) - f⟩) rfl rfl (Nat.le_trans hs (below_lit _ _).size) ?_; intro v8 w8 row8 b8; have hb8 := (hbel.trans ((below_lit _ _).mono hs)).trans b8)
            go_roundw
            case rel => exact ⟨25, 25, _, by omega, rfl, rfl, HS3, row8, hb8⟩
            case measure => simp [intOf]
          · rw [if_neg h1] at HS2
            have HS3 : Hid _ := HS2
            clear HS2
            go_wp2
            go_roundw
            case rel => exact ⟨25, 25, l, by omega, rfl, rfl, HS3, hrow, hbel⟩
            case measure => simp [intOf]
      · obtain rfl : k = 25 := by omega
        have hres : Hid (res = l) := by show res = l; rw [HE.out, HR.out]
        go_wp2
        go_ret
        exact ⟨_, rfl, by rw [hres.out]; exact hrow, hbel⟩
  · have hres : runsN b = [] := by unfold runsN; rw [if_neg hb]
    rw [decide_eq_false hb] at HB
    rw [hres]
    go_enter Tryd.func17, Tryd.ntmps17
    go_wp2_with (go_at_call 11; refine HB.mono ?_; rintro e w1 ⟨rfl, rfl⟩)
    go_ret
    exact ⟨_, rfl, R0, B0⟩

end Go.Proofs.YthnpjlnilkbamaaDoor
