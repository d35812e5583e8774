/- Ranges of signs: spec.Minus. Made by mkrgm.py. -/
import Derived.Test.YtkpeabbilcmabaaRows
import Derived.Test.YtkpeabbilcmabaaRgN
namespace Go.Proofs.Ytkpeabbilcmabaa
open Go.RowKit Go.Sort

set_option maxRecDepth 100000 in
set_option maxHeartbeats 4000000 in
theorem sMinus_yes (va vb : Value) (a b : List Rg) (w : World) (hva : RgsAt w va a) (hvb : RgsAt w vb b) (ha : RgR a) (hb : RgR b) :
    Calls Try.prog 24 #[va, vb] w fun e w' => ∃ u, e = .returned u ∧ RgRow w' w.heap.size u (rgMinus a b) ∧ Below w.heap.size w w' := by
  have hla := ha.len
  have hlb := hb.len
  have HOA := fun w' (h : Below w.heap.size w w') => sRangesOk va a w' (hva.below h) (by omega)
  have HOB := fun w' (h : Below w.heap.size w w') => sRangesOk vb b w' (hvb.below h) (by omega)
  rw [(rgsB_iff a).2 ha] at HOA
  rw [(rgsB_iff b).2 hb] at HOB
  obtain ⟨aa, ca, rfl, -, haa⟩ := hva
  obtain ⟨bb, cb, rfl, -, hbb⟩ := hvb
  have HDN : Hid (∀ l, MiO a b a.length l → rgMinus a b = l) := fun l h => h.done ha hb
  have HST : Hid (∀ i l, MiO a b i l → i < a.length → MiI a b i 0 a[i]!.a l) := fun i l h hi => h.start ha hi
  have HCU : Hid (∀ i k f l, MiI a b i k f l → i < a.length → k < b.length → f ≤ b[k]!.b → b[k]!.a ≤ a[i]!.b → MiI a b i (k + 1) (b[k]!.b + 1) (if f < b[k]!.a then l ++ [⟨f, b[k]!.a - 1⟩] else l)) := fun i k f l h hi hk e1 e2 => h.cut ha hb hi hk (by omega) (by omega)
  have HEN : Hid (∀ i f l, MiI a b i b.length f l → i < a.length → MiO a b (i + 1) (if f ≤ a[i]!.b then l ++ [⟨f, a[i]!.b⟩] else l)) := fun i f l h hi => h.done ha hi
  have HBA : Hid (∀ i, i < a.length → 0 ≤ a[i]!.a ∧ a[i]!.a ≤ a[i]!.b ∧ a[i]!.b ≤ 1114111) := fun i hi => ha.at hi
  have HBB : Hid (∀ i, i < b.length → 0 ≤ b[i]!.a ∧ b[i]!.a ≤ b[i]!.b ∧ b[i]!.b ≤ 1114111) := fun i hi => hb.at hi
  generalize rgMinus a b = res at HDN ⊢
  clear ha hb
  obtain ⟨n, HN⟩ : ∃ n, Hid (n = a.length) := ⟨_, rfl⟩
  obtain ⟨m, HM⟩ : ∃ m, Hid (m = b.length) := ⟨_, rfl⟩
  rw [← HN.out] at hla HOA haa HDN HST HCU HEN HBA ⊢
  rw [← HM.out] at hlb HOB hbb HCU HEN HBB ⊢
  have B0 := below_lit w (.cells #[] 43)
  have R0 := lit_Rgs w
  go_enter Try.func24, Try.ntmps24
  go_wp2_with (first | (refine (HOB _ B2).mono ?_; rintro e w3 ⟨rfl, b3⟩; have B3 := B2.trans (b3.mono B2.size)) | (refine (HOA _ B0).mono ?_; rintro e w2 ⟨rfl, b2⟩; have B2 := B0.trans (b2.mono B0.size)))
  have R3 : RgRow w3 w.heap.size (.slice (some ⟨w.heap.size, 0, none⟩) 0 0) [] := (R0.below b2).below b3
  clear HOA HOB R0 b2 b3 B0 B2
  go_loopw [5, 6] (fun u i wr => ∃ (p : Nat) (l : List Rg), p ≤ n ∧ i = .int .i64 p ∧ RgRow wr w.heap.size u l ∧ MiO a b p l ∧ Below w.heap.size w wr) (fun _ i _ => n - (intOf i).toNat)
  case atStart => exact ⟨0, [], Nat.zero_le _, rfl, R3, MiO.nil a b, B3⟩
  case round =>
    obtain ⟨p, l0, hp, rfl, hrow0, HO, hbel0⟩ := hrel
    by_cases hp1 : p < n
    · obtain ⟨b1, o1, rfl, hb1, hc0⟩ := haa p hp1
      have hpn : (p : Int) < (n : Int) := by omega
      have hp0 : (0 : Int) ≤ (p : Int) := by omega
      have HCA : Hid (∀ w', Below w.heap.size w w' → CellsRg w' b1 (o1 + p * 2) a[p]!) := fun w' h => hc0.below hb1 h
      have HI0 := HST.out p l0 HO hp1
      have HCP : Hid (∀ k f l, MiI a b p k f l → k < m → f ≤ b[k]!.b → b[k]!.a ≤ a[p]!.b → MiI a b p (k + 1) (b[k]!.b + 1) (if f < b[k]!.a then l ++ [⟨f, b[k]!.a - 1⟩] else l)) := fun k f l h => HCU.out p k f l h hp1
      have HSP : Hid (∀ k f l, MiI a b p k f l → b[k]!.b < f ∨ a[p]!.b < b[k]!.a → MiI a b p (k + 1) f l) := fun k f l h => h.skip
      have HEP : Hid (∀ f l, MiI a b p m f l → MiO a b (p + 1) (if f ≤ a[p]!.b then l ++ [⟨f, a[p]!.b⟩] else l)) := fun f l h => HEN.out p f l h hp1
      have hxa := HBA.out p hp1
      have HFB : Hid (∀ k f l, MiI a b p k f l → a[p]!.a ≤ f ∧ f ≤ 1114112) := fun k f l h => h.beg
      obtain ⟨k0, -⟩ := HCA.out _ hbel0
      clear HST HCU HEN HBA haa hc0
      generalize a[p]! = x at *
      obtain ⟨x0, x1⟩ := x
      dsimp only at *
      go_wp2
      go_loopw [5, 7, 8] (fun u fv kv wr => ∃ (q : Nat) (l : List Rg) (f : Int), q ≤ m ∧ fv = .int .i64 f ∧ kv = .int .i64 q ∧ RgRow wr w.heap.size u l ∧ MiI a b p q f l ∧ Below w.heap.size w wr) (fun _ _ kv _ => m - (intOf kv).toNat)
      case atStart => exact ⟨0, l0, x0, Nat.zero_le _, rfl, rfl, hrow0, HI0, hbel0⟩
      case round =>
        obtain ⟨q, l, f, hq, rfl, rfl, hrow, HI, hbel⟩ := hrel
        have hln := HI.right.len
        have hf := HFB.out q f l HI
        have hs := hbel.size
        have hc1 := HCA.out _ hbel
        have hbx : b1 < wr.heap.size := Nat.lt_of_lt_of_le hb1 hbel.size
        by_cases hq1 : q < m
        · obtain ⟨b2, o2, rfl, hb2, hc2⟩ := hbb q hq1
          have HCQ0 : Hid (∀ w', Below w.heap.size w w' → w'.cell? ⟨b2, o2 + q * 2 + 1, none⟩ = some (.int .i64 b[q]!.b)) := fun w' h => (hc2.below hb2 h).c1
          have hc2 := hc2.below hb2 hbel
          have hby : b2 < wr.heap.size := Nat.lt_of_lt_of_le hb2 hbel.size
          have hqm : (q : Int) < (m : Int) := by omega
          have hq0 : (0 : Int) ≤ (q : Int) := by omega
          have hyb := HBB.out q hq1
          have HSK : Hid (b[q]!.b < f ∨ x1 < b[q]!.a → MiI a b p (q + 1) f l) := HSP.out q f l HI
          have HCT : Hid (f ≤ b[q]!.b → b[q]!.a ≤ x1 → MiI a b p (q + 1) (b[q]!.b + 1) (if f < b[q]!.a then l ++ [⟨f, b[q]!.a - 1⟩] else l)) := HCP.out q f l HI hq1
          clear hbb HBB HSP HCP
          generalize b[q]! = y at hc2 hyb HSK HCT HCQ0
          obtain ⟨y0, y1⟩ := y
          dsimp only at hyb HSK HCT HCQ0
          have j0 := cell_regrown hc2.c0
          have j1 := cell_regrown hc2.c1
          have q1 := cell_regrown hc1.c1
          dsimp only at j0 j1 q1
          have hw1 : IntKind.i64.wrap (y1 + 1) = y1 + 1 := by rw [IntKind.wrap_i64]; omega
          have hw0 : IntKind.i64.wrap (y0 - 1) = y0 - 1 := by rw [IntKind.wrap_i64]; omega
          by_cases h1 : y1 < f
          · have HI2 := HSK.out (.inl h1)
            have e1 : decide (y1 < f) = true := decide_eq_true h1
            clear h1
            clear HSK HCT
            go_wp2
            refine wp_region_quiet_below (by kernel_rfl) (by kernel_rfl) ?_
            repeat (go_big_quiet_step (fail))
            refine wpQuiet_nil ?_
            rintro w' ⟨⟨dq, osq⟩, rfl⟩
            have hbq := below_regrown wr dq osq
            have row6 := hrow.below hbq
            have hb6 := hbel.trans (hbq.mono hbel.size)
            have hs6 := hb6.size
            have c0 := (hc2.below hby hbq).c0
            have c1 := (hc2.below hby hbq).c1
            dsimp only at c0 c1
            generalize grow (redrawn wr dq) osq = w6 at *
            clear q1 j0 j1 hc1 hc2 hbq hrow hbel
            go_wp2
            go_roundw
            case rel => exact ⟨q + 1, l, f, by omega, rfl, by go_num, row6, HI2, hb6⟩
            case measure => simp [intOf]; omega
          · by_cases h2 : x1 < y0
            · have HI2 := HSK.out (.inr h2)
              have e1 : decide (y1 < f) = false := decide_eq_false h1
              have e2 : decide (x1 < y0) = true := decide_eq_true h2
              clear h1 h2
              clear HSK HCT
              go_wp2
              refine wp_region_quiet_below (by kernel_rfl) (by kernel_rfl) ?_
              repeat (go_big_quiet_step (fail))
              refine wpQuiet_nil ?_
              rintro w' ⟨⟨dq, osq⟩, rfl⟩
              have hbq := below_regrown wr dq osq
              have row6 := hrow.below hbq
              have hb6 := hbel.trans (hbq.mono hbel.size)
              have hs6 := hb6.size
              have c0 := (hc2.below hby hbq).c0
              have c1 := (hc2.below hby hbq).c1
              dsimp only at c0 c1
              generalize grow (redrawn wr dq) osq = w6 at *
              clear q1 j0 j1 hc1 hc2 hbq hrow hbel
              go_wp2
              go_roundw
              case rel => exact ⟨q + 1, l, f, by omega, rfl, by go_num, row6, HI2, hb6⟩
              case measure => simp [intOf]; omega
            · have HI2 := HCT.out (by omega) (by omega)
              have e1 : decide (y1 < f) = false := decide_eq_false h1
              have e2 : decide (x1 < y0) = false := decide_eq_false h2
              have HCB : Hid (∀ w', Below w.heap.size w w' → w'.cell? ⟨b2, o2 + q * 2 + 1, none⟩ = some (.int .i64 y1)) := HCQ0.out
              clear HSK HCT h1 h2
              by_cases h3 : f < y0
              · rw [if_pos h3] at HI2
                go_wp2
                refine wp_region_quiet_below (by kernel_rfl) (by kernel_rfl) ?_
                repeat (go_big_quiet_step (fail))
                refine wpQuiet_nil ?_
                rintro w' ⟨⟨dq, osq⟩, rfl⟩
                have hbq := below_regrown wr dq osq
                have row6 := hrow.below hbq
                have hb6 := hbel.trans (hbq.mono hbel.size)
                have hs6 := hb6.size
                have c0 := (hc2.below hby hbq).c0
                have c1 := (hc2.below hby hbq).c1
                dsimp only at c0 c1
                generalize grow (redrawn wr dq) osq = w6 at *
                clear q1 j0 j1 hc1 hc2 hbq hrow hbel
                go_wp2_with (at_builtin; refine append_Rgs _ rfl (.tmp 63) (.tmp 72) rfl w.heap.size _ _ l [⟨f, y0 - 1⟩] (by simp; omega) (row6.below (below_lit _ _)) (one_Rg _ ⟨f, y0 - 1⟩) rfl rfl (Nat.le_trans hs6 (below_lit _ _).size) ?_; intro v8 w8 row8 b8; have hb8 := (hb6.trans ((below_lit _ _).mono hs6)).trans b8; have bl8 := below_lit w6 (.cells #[.int .i64 f, .int .i64 (y0 - 1)] 43); have c18 := HCB.out _ hb8; clear c1)
                go_roundw
                case rel => exact ⟨q + 1, _, _, by omega, rfl, by go_num, row8, HI2, hb8⟩
                case measure => simp [intOf]; omega
              · rw [if_neg h3] at HI2
                go_wp2
                refine wp_region_quiet_below (by kernel_rfl) (by kernel_rfl) ?_
                repeat (go_big_quiet_step (fail))
                refine wpQuiet_nil ?_
                rintro w' ⟨⟨dq, osq⟩, rfl⟩
                have hbq := below_regrown wr dq osq
                have row6 := hrow.below hbq
                have hb6 := hbel.trans (hbq.mono hbel.size)
                have hs6 := hb6.size
                have c0 := (hc2.below hby hbq).c0
                have c1 := (hc2.below hby hbq).c1
                dsimp only at c0 c1
                generalize grow (redrawn wr dq) osq = w6 at *
                clear q1 j0 j1 hc1 hc2 hbq hrow hbel
                go_wp2
                go_roundw
                case rel => exact ⟨q + 1, _, _, by omega, rfl, by go_num, row6, HI2, hb6⟩
                case measure => simp [intOf]; omega
        · obtain rfl : q = m := by omega
          have HO2 := HEP.out f l HI
          obtain ⟨k0, k1⟩ := hc1
          dsimp only at k1
          by_cases h3 : f ≤ x1
          · rw [if_pos h3] at HO2
            go_wp2_with (at_builtin; refine append_Rgs _ rfl (.tmp 87) (.tmp 95) rfl w.heap.size _ _ l [⟨f, x1⟩] (by simp; omega) (hrow.below (below_lit _ _)) (one_Rg _ ⟨f, x1⟩) rfl rfl (Nat.le_trans hs (below_lit _ _).size) ?_; intro v8 w8 row8 b8; have hb8 := (hbel.trans ((below_lit _ _).mono hs)).trans b8)
            go_roundw
            case rel => exact ⟨p + 1, _, by omega, by go_num, row8, HO2, hb8⟩
            case measure => simp [intOf]; omega
          · rw [if_neg h3] at HO2
            go_wp2
            go_roundw
            case rel => exact ⟨p + 1, _, by omega, by go_num, hrow, HO2, hbel⟩
            case measure => simp [intOf]; omega
    · obtain rfl : p = n := by omega
      have hres : Hid (res = l0) := HDN.out l0 HO
      go_wp2
      go_ret
      exact ⟨_, rfl, by rw [hres.out]; exact hrow0, hbel0⟩

set_option maxRecDepth 100000 in
set_option maxHeartbeats 1000000 in
theorem sMinus_no (va vb : Value) (a b : List Rg) (w : World) (hva : RgsAt w va a) (hvb : RgsAt w vb b) (hla : a.length ≤ 9223372036854775807) (hlb : b.length ≤ 9223372036854775807) (h : ¬ (RgR a ∧ RgR b)) :
    Calls Try.prog 24 #[va, vb] w fun e w' => ∃ u, e = .returned u ∧ RgRow w' w.heap.size u [] ∧ Below w.heap.size w w' := by
  have HOA := fun w' (h : Below w.heap.size w w') => sRangesOk va a w' (hva.below h) hla
  have HOB := fun w' (h : Below w.heap.size w w') => sRangesOk vb b w' (hvb.below h) hlb
  have HN : Hid (¬ (rgsB a = true ∧ rgsB b = true)) := fun e => h ⟨(rgsB_iff a).1 e.1, (rgsB_iff b).1 e.2⟩
  generalize rgsB a = ra at HOA HN
  generalize rgsB b = rb at HOB HN
  have B0 := below_lit w (.cells #[] 43)
  have R0 := lit_Rgs w
  cases ra
  · go_enter Try.func24, Try.ntmps24
    go_wp2_with (refine (HOA _ B0).mono ?_; rintro e w2 ⟨rfl, b2⟩)
    go_ret
    exact ⟨_, rfl, R0.below b2, B0.trans (b2.mono B0.size)⟩
  · obtain rfl : rb = false := by cases rb; rfl; exact absurd ⟨rfl, rfl⟩ HN.out
    go_enter Try.func24, Try.ntmps24
    go_wp2_with (first | (refine (HOB _ B2).mono ?_; rintro e w3 ⟨rfl, b3⟩; have B3 := B2.trans (b3.mono B2.size)) | (refine (HOA _ B0).mono ?_; rintro e w2 ⟨rfl, b2⟩; have B2 := B0.trans (b2.mono B0.size)))
    go_ret
    exact ⟨_, rfl, (R0.below b2).below b3, B3⟩
theorem sMinus (va vb : Value) (a b : List Rg) (w : World) (hva : RgsAt w va a) (hvb : RgsAt w vb b) (hla : a.length ≤ 9223372036854775807) (hlb : b.length ≤ 9223372036854775807) :
    Calls Try.prog 24 #[va, vb] w fun e w' => ∃ u, e = .returned u ∧ RgRow w' w.heap.size u (rgMinus a b) ∧ Below w.heap.size w w' := by
  by_cases h : RgR a ∧ RgR b
  · exact sMinus_yes va vb a b w hva hvb h.1 h.2
  · rw [rgMinus_no h]; exact sMinus_no va vb a b w hva hvb hla hlb h

end Go.Proofs.Ytkpeabbilcmabaa
