/- Ranges of signs: impl.Union. -/
import Derived.Test.YtkpeabbilcmabaaRows
import Derived.Test.YtkpeabbilcmabaaIRb
import Derived.Test.YtkpeabbilcmabaaIRd
namespace Go.Proofs.Ytkpeabbilcmabaa
open Go.RowKit Go.Sort

theorem nil_Rgs (w : World) (base : Nat) : RgRow w base (.slice none 0 0) [] := ⟨rfl, .inl ⟨rfl, rfl⟩⟩

set_option maxRecDepth 100000 in
set_option maxHeartbeats 4000000 in
theorem iUnion_yes (va vb : Value) (a b : List Rg) (w : World) (hva : RgsAt w va a) (hvb : RgsAt w vb b) (ha : RgR a) (hb : RgR b) :
    Calls Try.prog 10 #[va, vb] w fun e w' => ∃ u, e = .returned u ∧ RgRow w' w.heap.size u (rgUnion a b) ∧ Below w.heap.size w w' := by
  have hla := ha.len
  have hlb := hb.len
  have HOA := iRangesOk va a w hva (by omega)
  have HOB := fun w' (h : Below w.heap.size w w') => iRangesOk vb b w' (hvb.below h) (by omega)
  rw [(rgsB_iff a).2 ha] at HOA
  rw [(rgsB_iff b).2 hb] at HOB
  have HMX := fun w' (h : Below w.heap.size w w') => mixed_any va vb a b w' (hva.below h) (hvb.below h) ha hb
  have HDN : Hid (∀ M l, MxR a b M → UmI M M.length l → rgUnion a b = l) := fun M l hM h => h.done ha hb hM
  generalize rgUnion a b = res at HDN ⊢
  obtain ⟨aa, ca, rfl, -, -⟩ := hva
  obtain ⟨bb, cb, rfl, -, -⟩ := hvb
  clear ha hb
  have HLE : Hid (a.length + b.length ≤ 2228224) := by show _ ≤ _; omega
  clear hla hlb
  go_enter Try.func10, Try.ntmps10
  go_wp2_with fail
  refine HOA.mono ?_
  rintro e w1 ⟨rfl, b1⟩
  go_wp2_with fail
  refine (HOB w1 b1).mono ?_
  rintro e w2 ⟨rfl, b2⟩
  have B2 := b1.trans (b2.mono b1.size)
  go_wp2_with fail
  refine (HMX w2 B2).mono ?_
  rintro e w3 ⟨um, M, rfl, rowM, hM, hlM, b3⟩
  have B3 := B2.trans (b3.mono B2.size)
  have HLM : Hid (M.length ≤ 2228224) := by show _ ≤ _; have := HLE.out; omega
  have HD2 : Hid (∀ l, UmI M M.length l → res = l) := fun l h => HDN.out M l hM h
  have HST : Hid (∀ k l, UmI M k l → k < M.length → UmI M (k + 1) (rgPut l M[k]!)) := fun k l h hk => h.one hM hk
  obtain ⟨am, cm, rfl, -, hMa⟩ := rowM.at
  clear HOA HOB HMX HDN hM hlM rowM
  obtain ⟨n, HN⟩ : ∃ n, Hid (n = M.length) := ⟨_, rfl⟩
  rw [← HN.out] at hMa HD2 HST HLM ⊢
  have hln : n ≤ 2228224 := HLM.out
  go_wp2
  go_loopw [5, 20] (fun u i wr => ∃ (k : Nat) (l : List Rg), k ≤ n ∧ i = .int .i64 k ∧ RgRow wr w3.heap.size u l ∧ UmI M k l ∧ Below w3.heap.size w3 wr) (fun _ i _ => n - (intOf i).toNat)
  case atStart => exact ⟨0, [], Nat.zero_le _, rfl, nil_Rgs w3 _, UmI.nil M, Below.refl _ _⟩
  case round =>
    obtain ⟨k, l, hk, rfl, hrow, HI, hbel⟩ := hrel
    by_cases hlt : k < n
    · obtain ⟨bm, om, rfl, hbm, hc⟩ := hMa k hlt
      have hc := hc.below hbm hbel
      have HI2 := HST.out k l HI hlt
      generalize M[k]! = x at hc HI2
      obtain ⟨x0, x1⟩ := x
      have c0 := hc.c0
      have c1 := hc.c1
      dsimp only at c0 c1
      have hb5 := below_lit wr (.cells #[.int .i64 x0, .int .i64 x1] 43)
      have hbel5 := hbel.trans (hb5.mono hbel.size)
      have row5 := hrow.below hb5
      have HAL := addLast_any _ l x0 x1 w3.heap.size _ row5 HI.right hbel5.size
      clear hc hMa hrow hb5
      go_wp2_with (go_at_call 28; refine HAL.mono ?_; rintro e w6 ⟨u6, rfl, row6, b6⟩)
      go_roundw
      case rel => exact ⟨k + 1, _, by omega, by go_num, row6, HI2, hbel5.trans b6⟩
      case measure => simp [intOf]; omega
    · obtain rfl : k = n := by omega
      have hres : Hid (res = l) := HD2.out l HI
      go_wp2
      go_ret
      exact ⟨_, rfl, by rw [hres.out]; exact hrow.mono B3.size, B3.trans (hbel.mono B3.size)⟩

set_option maxRecDepth 100000 in
set_option maxHeartbeats 1000000 in
theorem iUnion (va vb : Value) (a b : List Rg) (w : World) (hva : RgsAt w va a) (hvb : RgsAt w vb b) (hla : a.length ≤ 9223372036854775807) (hlb : b.length ≤ 9223372036854775807) :
    Calls Try.prog 10 #[va, vb] w fun e w' => ∃ u, e = .returned u ∧ RgRow w' w.heap.size u (rgUnion a b) ∧ Below w.heap.size w w' := by
  by_cases ha : RgR a
  · by_cases hb : RgR b
    · exact iUnion_yes va vb a b w hva hvb ha hb
    · rw [rgUnion_no (fun h => hb h.2)]
      have HOA := iRangesOk va a w hva hla
      have HOB := fun w' (h : Below w.heap.size w w') => iRangesOk vb b w' (hvb.below h) hlb
      rw [(rgsB_iff a).2 ha] at HOA
      rw [Bool.eq_false_iff.2 (fun h => hb ((rgsB_iff b).1 h))] at HOB
      clear ha hb hva hvb
      go_enter Try.func10, Try.ntmps10
      go_wp2_with fail
      refine HOA.mono ?_
      rintro e w1 ⟨rfl, b1⟩
      go_wp2_with fail
      refine (HOB w1 b1).mono ?_
      rintro e w2 ⟨rfl, b2⟩
      go_wp2
      go_ret
      exact ⟨_, rfl, nil_Rgs w2 _, b1.trans (b2.mono b1.size)⟩
  · rw [rgUnion_no (fun h => ha h.1)]
    have HOA := iRangesOk va a w hva hla
    rw [Bool.eq_false_iff.2 (fun h => ha ((rgsB_iff a).1 h))] at HOA
    clear ha hva hvb
    go_enter Try.func10, Try.ntmps10
    go_wp2_with fail
    refine HOA.mono ?_
    rintro e w1 ⟨rfl, b1⟩
    go_wp2
    go_ret
    exact ⟨_, rfl, nil_Rgs w1 _, b1⟩
end Go.Proofs.Ytkpeabbilcmabaa
