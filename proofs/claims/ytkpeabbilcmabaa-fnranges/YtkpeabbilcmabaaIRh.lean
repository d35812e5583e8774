/- Ranges of signs: impl.Minus. -/
import Derived.Test.YtkpeabbilcmabaaRows
import Derived.Test.YtkpeabbilcmabaaIRg
import Derived.Deep.Cut
namespace Go.Proofs.Ytkpeabbilcmabaa
open Go.RowKit Go.Sort

set_option maxRecDepth 100000 in
set_option maxHeartbeats 4000000 in
theorem iMinus_yes (va vb : Value) (a b : List Rg) (w : World) (hva : RgsAt w va a) (hvb : RgsAt w vb b) (ha : RgR a) (hb : RgR b) :
    Calls Try.prog 11 #[va, vb] w fun e w' => ∃ u, e = .returned u ∧ RgRow w' w.heap.size u (rgMinus a b) ∧ Below w.heap.size w w' := by
  have hla := ha.len
  have hlb := hb.len
  have hmf : ∀ (fn : Fn) (first cap : Array Value) (w : World), (Instr.makeFunc fn first cap).run Try.prog w = .ok (.func fn first cap) w := fun _ _ _ _ => rfl
  have HOA := iRangesOk va a w hva (by omega)
  have HOB := fun w' (h : Below w.heap.size w w') => iRangesOk vb b w' (hvb.below h) (by omega)
  rw [(rgsB_iff a).2 ha] at HOA
  rw [(rgsB_iff b).2 hb] at HOB
  have HDN : Hid (∀ l, MiO a b a.length l → rgMinus a b = l) := fun l h => h.done ha hb
  have HST : Hid (∀ p j l, p < a.length → MiO a b p l → j ≤ b.length → (∀ k, k < j → b[k]!.b < a[p]!.a) → (j < b.length → a[p]!.a ≤ b[j]!.b) → MiO a b (p + 1) (l ++ pcN a[p]!.a a[p]!.b (b.drop j))) := fun p j l hp h hj h1 h2 => MiO.range ha hb hp hj h h1 h2
  have HAX : Hid (∀ p, p + 1 < a.length → a[p]!.a < a[p + 1]!.a) := fun p hp => by have := ha.lt (show p < p + 1 by omega) hp; have := ha.at (show p < a.length by omega); omega
  have HAO : Hid (∀ p, p < a.length → 0 ≤ a[p]!.a ∧ a[p]!.a ≤ 1114111) := fun p hp => by have := ha.at hp; omega
  have HBO : Hid (∀ j t, t < (b.drop j).length → 0 ≤ (b.drop j)[t]!.a ∧ (b.drop j)[t]!.a ≤ (b.drop j)[t]!.b ∧ (b.drop j)[t]!.b ≤ 1114111) := fun j t ht => by
    rw [getElem!_pos _ t ht]
    exact hb.one _ (List.mem_of_mem_drop (List.getElem_mem ht))
  generalize rgMinus a b = res at HDN ⊢
  have hvb0 := hvb
  obtain ⟨aa, ca, rfl, -, haa⟩ := hva
  obtain ⟨bb, cb, rfl, -, -⟩ := hvb
  clear ha hb
  obtain ⟨n, HN⟩ : ∃ n, Hid (n = a.length) := ⟨_, rfl⟩
  rw [← HN.out] at hla haa HOA HDN HST HAX HAO ⊢
  have HLB : Hid (b.length ≤ 1114112) := hlb
  clear hlb
  go_enter Try.func11, Try.ntmps11
  go_wp2_with fail
  refine HOA.mono ?_
  rintro e w1 ⟨rfl, b1⟩
  go_wp2_with fail
  refine (HOB w1 b1).mono ?_
  rintro e w2 ⟨rfl, b2⟩
  have B2 := b1.trans (b2.mono b1.size)
  clear HOA HOB
  go_wp2
  go_loopw [5, 6, 20] (fun u cv i wr => ∃ (p j : Nat) (l : List Rg) (vc : Value), vc = cv ∧ p ≤ n ∧ i = .int .i64 p ∧ RgRow wr w.heap.size u l ∧ MiO a b p l ∧ RgsAt w vc (b.drop j) ∧ Hid (j ≤ b.length) ∧ Hid (p < n → ∀ k, k < j → b[k]!.b < a[p]!.a) ∧ Below w.heap.size w wr) (fun _ _ i _ => n - (intOf i).toNat)
  case atStart => exact ⟨0, 0, [], _, rfl, Nat.zero_le _, rfl, ⟨rfl, .inl ⟨rfl, rfl⟩⟩, MiO.nil a b, hvb0, Nat.zero_le _, fun _ k hk => by omega, B2⟩
  case round =>
    obtain ⟨p, j, l, vc, hvc, hp, rfl, hrow, HO, hcv, HJ, HJK, hbel⟩ := hrel
    subst hvc
    clear hvb0
    by_cases hlt : p < n
    · obtain ⟨b1, o1, rfl, hb1, hc⟩ := haa p hlt
      have hc := hc.below hb1 hbel
      have HSP : Hid (∀ r, r = (b.drop j).findIdx (fun c => decide (a[p]!.a ≤ c.b)) → j + r ≤ b.length ∧ MiO a b (p + 1) (l ++ pcN a[p]!.a a[p]!.b (b.drop (j + r))) ∧ (p + 1 < n → ∀ k, k < j + r → b[k]!.b < a[p + 1]!.a)) := fun r hr => by
        obtain ⟨h1, h2, h3⟩ := find_cut j HJ.out r hr (HJK.out hlt)
        exact ⟨h1, HST.out p (j + r) l hlt HO h1 h2 h3, fun hp k hk => Int.lt_trans (h2 k hk) (HAX.out p hp)⟩
      have hx := HAO.out p hlt
      have HLL : Hid (l.length ≤ 1114112) := HO.right.len
      generalize a[p]! = x at hc HSP hx
      obtain ⟨x0, x1⟩ := x
      dsimp only at HSP hx
      have c0 := hc.c0
      have c1 := hc.c1
      dsimp only at c0 c1
      have hb5 := below_lit wr (.cells #[.int .i64 x0, .int .i64 x1] 43)
      have hG : wr.heap.size < (wr.alloc (.cells #[.int .i64 x0, .int .i64 x1] 43)).heap.size := by simp
      obtain ⟨m0, m1⟩ : (wr.alloc (.cells #[.int .i64 x0, .int .i64 x1] 43)).cell? ⟨wr.heap.size, 0, none⟩ = some (.int .i64 x0) ∧ (wr.alloc (.cells #[.int .i64 x0, .int .i64 x1] 43)).cell? ⟨wr.heap.size, 1, none⟩ = some (.int .i64 x1) := by
        constructor <;> rw [World.cell?_alloc_mark] <;> rfl
      have hbel5 := hbel.trans (hb5.mono hbel.size)
      have row5 := hrow.below hb5
      clear hc hrow hb5 HST HAX HAO HDN haa HO
      go_upto_region 8 with fail
      obtain ⟨R, HRR⟩ : ∃ R, Hid (R = wr.heap.size) := ⟨_, rfl⟩
      rw [← HRR.out] at m0 m1 hG ⊢
      generalize wr.alloc (.cells #[.int .i64 x0, .int .i64 x1] 43) = w5 at *
      have hcall := firstRg_any 30 #[.pointer (some ⟨R, 0, none⟩)] (fun c => decide (x0 ≤ c.b)) vc (b.drop j) w5 (hcv.below hbel5) (by rw [List.length_drop]; have := HLB.out; omega) enters_mi (fun i hi W hW => minus1_any (b.drop j)[i]! x0 R W (Nat.lt_of_lt_of_le hG hW.size) ((hW.cell (p := ⟨R, 0, none⟩) hG).trans m0))
      obtain ⟨r, HR⟩ : ∃ r, Hid (r = (b.drop j).findIdx (fun c => decide (x0 ≤ c.b))) := ⟨_, rfl⟩
      rw [← HR.out] at hcall
      obtain ⟨hjr, hO2, hK2⟩ := HSP.out r HR.out
      have HJ2 : Hid (j + r ≤ b.length) := hjr
      have HO2 : Hid _ := hO2
      have HK2 : Hid _ := hK2
      clear hjr hO2 hK2 HSP
      obtain ⟨av, cv, rfl, -, -⟩ := id hcv
      have hrl : r ≤ (b.drop j).length := by rw [List.length_drop]; have := HJ2.out; omega
      have hU := hcv.drop r hrl
      rw [List.drop_drop] at hU
      obtain ⟨n1, HN1⟩ : ∃ n1, Hid (n1 = (b.drop j).length) := ⟨_, rfl⟩
      rw [← HN1.out] at hrl hU hcall ⊢
      have hsl := fun w' => slice_rg av n1 cv r (r : Int) w' rfl hrl
      generalize sliced av r n1 cv 2 = U at hsl hU
      have HPC := fun w' (h : Below w.heap.size w w') => piecesOf_any x0 x1 U (b.drop (j + r)) w' (hU.below h) hx (HBO.out (j + r)) (by rw [List.length_drop]; have := HLB.out; omega)
      have HPL : Hid ((pcN x0 x1 (b.drop (j + r))).length ≤ 1114113) := by show _ ≤ _; have := pcN_len x1 (b.drop (j + r)) x0; rw [List.length_drop] at this; have := HLB.out; omega
      generalize pcN x0 x1 (b.drop (j + r)) = P at HPC HO2 HPL
      have HKC : Hid (∀ w', Below w5.heap.size w5 w' → w'.cell? ⟨R, 0, none⟩ = some (.int .i64 x0) ∧ w'.cell? ⟨R, 1, none⟩ = some (.int .i64 x1)) := fun w' h => ⟨(h.cell (p := ⟨R, 0, none⟩) hG).trans m0, (h.cell (p := ⟨R, 1, none⟩) hG).trans m1⟩
      clear hrl HN1 hcv HR HJ HJK HBO hx
      go_wp2_with fail
      refine hcall.mono ?_
      rintro e w6 ⟨rfl, b6⟩
      obtain ⟨t0, t1⟩ := HKC.out w6 b6
      have row6 := row5.below b6
      have hbel6 := hbel5.trans (b6.mono hbel5.size)
      have hpc := HPC w6 hbel6
      clear hcall HPC HKC m0 m1 row5 b6
      go_wp2_with fail
      refine hpc.mono ?_
      rintro e w7 ⟨u7, rfl, row7, b7⟩
      have row7o := row6.below b7
      have hbel7 := hbel6.trans (b7.mono hbel6.size)
      clear hpc t0 t1 row6
      go_wp2_with (at_builtin; refine append_Rgs _ rfl (.tmp 29) (.tmp 32) rfl w.heap.size _ _ l P (by have := HLL.out; have := HPL.out; omega) row7o row7.at rfl rfl hbel7.size ?_; intro v8 w8 row8 b8)
      go_roundw
      case rel => exact ⟨p + 1, j + r, l ++ P, _, rfl, by omega, by go_num, row8, HO2.out, hU, HJ2, HK2, hbel7.trans b8⟩
      case measure => simp [intOf]; omega
    · obtain rfl : p = n := by omega
      have hres : Hid (res = l) := HDN.out l HO
      go_wp2
      go_ret
      exact ⟨_, rfl, by rw [hres.out]; exact hrow, hbel⟩

set_option maxRecDepth 100000 in
set_option maxHeartbeats 1000000 in
theorem iMinus (va vb : Value) (a b : List Rg) (w : World) (hva : RgsAt w va a) (hvb : RgsAt w vb b) (hla : a.length ≤ 9223372036854775807) (hlb : b.length ≤ 9223372036854775807) :
    Calls Try.prog 11 #[va, vb] w fun e w' => ∃ u, e = .returned u ∧ RgRow w' w.heap.size u (rgMinus a b) ∧ Below w.heap.size w w' := by
  by_cases ha : RgR a
  · by_cases hb : RgR b
    · exact iMinus_yes va vb a b w hva hvb ha hb
    · rw [rgMinus_no (fun h => hb h.2)]
      have HOA := iRangesOk va a w hva hla
      have HOB := fun w' (h : Below w.heap.size w w') => iRangesOk vb b w' (hvb.below h) hlb
      rw [(rgsB_iff a).2 ha] at HOA
      rw [Bool.eq_false_iff.2 (fun h => hb ((rgsB_iff b).1 h))] at HOB
      clear ha hb hva hvb
      go_enter Try.func11, Try.ntmps11
      go_wp2_with fail
      refine HOA.mono ?_
      rintro e w1 ⟨rfl, b1⟩
      go_wp2_with fail
      refine (HOB w1 b1).mono ?_
      rintro e w2 ⟨rfl, b2⟩
      go_wp2
      go_ret
      exact ⟨_, rfl, ⟨rfl, .inl ⟨rfl, rfl⟩⟩, b1.trans (b2.mono b1.size)⟩
  · rw [rgMinus_no (fun h => ha h.1)]
    have HOA := iRangesOk va a w hva hla
    rw [Bool.eq_false_iff.2 (fun h => ha ((rgsB_iff a).1 h))] at HOA
    clear ha hva hvb
    go_enter Try.func11, Try.ntmps11
    go_wp2_with fail
    refine HOA.mono ?_
    rintro e w1 ⟨rfl, b1⟩
    go_wp2
    go_ret
    exact ⟨_, rfl, ⟨rfl, .inl ⟨rfl, rfl⟩⟩, b1⟩
end Go.Proofs.Ytkpeabbilcmabaa
