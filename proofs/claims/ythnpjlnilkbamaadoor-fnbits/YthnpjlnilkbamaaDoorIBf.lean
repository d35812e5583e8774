/- A bitmap in a word: impl.Runs, FindRun. -/
import Derived.Test.YthnpjlnilkbamaaDoorRows
import Derived.Test.YthnpjlnilkbamaaDoorIBe
namespace Go.Proofs.YthnpjlnilkbamaaDoor
open Go.RowKit Go.Sort

set_option maxRecDepth 100000 in
set_option maxHeartbeats 1000000 in
theorem iRuns (v : Value) (b : List Bool) (w : World) (hT : TzTab w) (hv : BosAt w v b) :
    Calls Tryd.prog 8 #[v] w fun e w' => ∃ u, e = .returned u ∧ RnRow w' w.heap.size u (runsN b) ∧ Below w.heap.size w w' := by
  have HB := iBitsOk v b w hv
  by_cases hb : b.length = 24
  · rw [decide_eq_true hb] at HB
    have HF := iFlagsOf v b w hv hb
    have HR := iFree b hb w
    have HO := iRunsW b hb w hT
    obtain ⟨a, ca, rfl, -, -⟩ := hv
    rw [hb] at HB HF ⊢
    generalize fN b = f at HF HR
    generalize frN b = g at HR HO
    generalize runsN b = r at HO ⊢
    clear hb
    go_enter Tryd.func8, Tryd.ntmps8
    go_wp2_with fail
    refine HB.mono ?_
    rintro e w1 ⟨rfl, rfl⟩
    go_wp2_with fail
    refine HF.mono ?_
    rintro e w1 ⟨rfl, rfl⟩
    go_wp2_with fail
    refine HR.mono ?_
    rintro e w1 ⟨rfl, rfl⟩
    go_wp2_with fail
    refine HO.mono ?_
    rintro e w2 ⟨u, rfl, r2, b2⟩
    go_wp2
    go_ret
    exact ⟨_, rfl, r2, b2⟩
  · have hr : runsN b = [] := by unfold runsN; rw [if_neg hb]
    rw [decide_eq_false hb] at HB
    rw [hr]
    go_enter Tryd.func8, Tryd.ntmps8
    go_wp2_with fail
    refine HB.mono ?_
    rintro e w1 ⟨rfl, rfl⟩
    go_wp2
    go_ret
    exact ⟨_, rfl, World.ownsRow_nil _ _ _ _, Below.refl _ _⟩

set_option maxRecDepth 100000 in
set_option maxHeartbeats 1000000 in
theorem iFindRun (v : Value) (b : List Bool) (n : Int) (w : World) (hT : TzTab w) (hv : BosAt w v b) :
    Calls Tryd.prog 15 #[v, .int .i64 n] w fun e w' => e = .returned (.int .i64 (findN b n)) ∧ Below w.heap.size w w' := by
  have HR := iRuns v b w hT hv
  have hl := runsN_len b
  have HY : Hid (1 ≤ n → ∀ t, t < (runsN b).length → n ≤ (runsN b)[t]!.n → (∀ s, s < t → (runsN b)[s]!.n < n) → findN b n = (runsN b)[t]!.p) := fun hn t ht h hf => findN_yes hn ht h fun s hs => by have := hf s hs; omega
  have HN : Hid ((n < 1 ∨ ∀ t, t < (runsN b).length → (runsN b)[t]!.n < n) → findN b n = -1) := fun h => findN_no (h.imp id fun h t ht => by have := h t ht; omega)
  generalize findN b n = res at HY HN ⊢
  generalize runsN b = l at *
  by_cases hn : 1 ≤ n
  · obtain ⟨m, HM⟩ : ∃ m, Hid (m = l.length) := ⟨_, rfl⟩
    rw [← HM.out] at hl HY HN
    have HR2 : Calls Tryd.prog 8 #[v] w fun e w' => ∃ a ca, e = .returned (.slice a m ca) ∧ (∀ t, t < m → ∃ b o, a = some ⟨b, o, none⟩ ∧ b < w'.heap.size ∧ CellsRn w' b (o + t * 2) l[t]!) ∧ Below w.heap.size w w' := by
      refine HR.mono ?_
      rintro e w1 ⟨u, rfl, r1, b1⟩
      obtain ⟨a, ca, rfl, -, hva⟩ := r1.at
      rw [← HM.out] at hva ⊢
      exact ⟨a, ca, rfl, hva, b1⟩
    clear HR
    go_enter Tryd.func15, Tryd.ntmps15
    go_wp2_with (go_at_call 8; refine HR2.mono ?_; rintro e w1 ⟨a, ca, rfl, hva, b1⟩)
    clear HR2
    go_loopw [12] (fun iv wr => ∃ k : Nat, k ≤ m ∧ iv = .int .i64 k ∧ Hid (∀ t, t < k → l[t]!.n < n) ∧ Below w1.heap.size w1 wr) (fun iv _ => m - (intOf iv).toNat)
    case atStart => exact ⟨0, Nat.zero_le _, rfl, fun t ht => by omega, Below.refl _ _⟩
    case round =>
      obtain ⟨k, hk, rfl, HE, hbel⟩ := hrel
      by_cases hlt : k < m
      · obtain ⟨b2, o2, rfl, hb2, hc2⟩ := hva k hlt
        have hc2 := hc2.below hb2 hbel
        have HX : Hid (l[k]!.n < n → ∀ t, t < k + 1 → l[t]!.n < n) := fun h t ht => by
          by_cases e : t = k
          · rw [e]; exact h
          · exact HE.out t (by omega)
        have HK : Hid (n ≤ l[k]!.n → res = l[k]!.p) := fun h => HY.out hn k hlt h HE.out
        generalize l[k]! = x at hc2 HX HK
        obtain ⟨x0, x1⟩ := x
        obtain ⟨c0, c1⟩ := hc2
        dsimp only at c0 c1 HX HK
        have hb5 := below_lit wr (.cells #[.int .i64 x0, .int .i64 x1] 34)
        have hbel5 := hbel.trans (hb5.mono hbel.size)
        clear hva HY HN hb5
        by_cases hx : n ≤ x1
        · have hr : Hid (res = x0) := HK.out hx
          clear HX HK
          go_wp2
          go_ret
          exact ⟨ret_int hr.out.symm, b1.trans (hbel5.mono b1.size)⟩
        · have HX2 : Hid _ := HX.out (by omega)
          clear HX HK
          go_wp2
          go_roundw
          case rel => exact ⟨k + 1, by omega, by go_num, HX2.out, hbel5⟩
          case measure => simp [intOf]; omega
      · obtain rfl : k = m := by omega
        have hr : Hid (res = -1) := HN.out (.inr HE.out)
        clear hva HY HN
        go_wp2
        go_ret
        exact ⟨ret_int hr.out.symm, b1.trans (hbel.mono b1.size)⟩
  · have hr : Hid (res = -1) := HN.out (.inl (by omega))
    clear HY HN HR
    go_enter Tryd.func15, Tryd.ntmps15
    go_wp2
    go_ret
    exact ⟨ret_int hr.out.symm, Below.refl _ _⟩
end Go.Proofs.YthnpjlnilkbamaaDoor
