/- Ranges of signs: spec.RangesOk, InRanges, CountOf. -/
import Derived.Test.YtkpeabbilcmabaaDoorRows
import Derived.Test.YtkpeabbilcmabaaDoorRgR
import Derived.Test.YtkpeabbilcmabaaDoorRdFix
import Derived.WalkKit
import Derived.WalkSpells
import Derived.WalkLawsBesides
import Derived.Deep.QuietTactic
import Derived.BigQuiet
import Derived.Deep.Onto
import Derived.Lib.QuietBelow
namespace Go.Proofs.YtkpeabbilcmabaaDoor
open Go.RowKit Go.Sort

theorem inQ_any (x a b : Int) (w : World) (d : Nat) (os : Array Obj) :
    Calls Tryd.prog 13 #[.int .i64 x, .int .i64 a, .int .i64 b] (grow (redrawn w d) os) fun e w'' => e = .returned (.bool (inB x a b)) ∧ ∃ p : Regrown, w'' = grow (redrawn w p.d) p.os :=
  Calls.regrown_of ((in_any x a b _).mono fun _ _ h => ⟨h.1, h.2 ▸ Below.refl _ _⟩)
theorem rgOk_in (p : Int) (r : Rg) : rgOk p r = (decide (p < r.a) && inB r.a 0 1114111 && inB r.b r.a 1114111) := by
  simp only [rgOk, inB, Bool.and_assoc]

set_option maxRecDepth 100000 in
set_option maxHeartbeats 1000000 in
theorem sRangesOk (v : Value) (l : List Rg) (w : World) (hv : RgsAt w v l) (hl : l.length ≤ 9223372036854775807) :
    Calls Tryd.prog 6 #[v] w fun e w' => e = .returned (.bool (rgsB l)) ∧ Below w.heap.size w w' := by
  obtain ⟨a, ca, rfl, -, hva⟩ := hv
  have HN : Hid (∀ t, t < l.length → rgOk (rgPrev l t) l[t]! = false → rgsB l = false) := fun t ht h => by
    rw [Bool.eq_false_iff]; exact fun e => by have := (rgsB_all l).1 e t ht; rw [h] at this; cases this
  have HY : Hid ((∀ t, t < l.length → rgOk (rgPrev l t) l[t]! = true) → rgsB l = true) := (rgsB_all l).2
  generalize rgsB l = r at HN HY ⊢
  have HP : Hid (∀ t, 0 < t → rgPrev l t = l[t - 1]!.b + 1) := fun t ht => by unfold rgPrev; rw [if_neg (by omega)]
  have HP0 : Hid (rgPrev l 0 = -1) := rfl
  generalize rgPrev l = pv at HN HY HP HP0
  obtain ⟨n, HL⟩ : ∃ n, Hid (n = l.length) := ⟨_, rfl⟩
  rw [← HL.out] at hva hl HN HY ⊢
  go_enter Tryd.func6, Tryd.ntmps6
  go_wp2
  go_loopw [3] (fun i wr => ∃ k : Nat, k ≤ n ∧ i = .int .i64 k ∧ Hid (∀ t, t < k → rgOk (pv t) l[t]! = true) ∧ Below w.heap.size w wr) (fun i _ => n - (intOf i).toNat)
  case atStart => exact ⟨0, Nat.zero_le _, rfl, fun t ht => by omega, Below.refl _ _⟩
  case round =>
    obtain ⟨k, hk, rfl, HEQ, hbel⟩ := hrel
    by_cases hlt : k < n
    · obtain ⟨b1, o1, rfl, hb1, hc1⟩ := hva k hlt
      have hc1 := hc1.below hb1 hbel
      obtain ⟨m, HM⟩ : ∃ m, Hid (m = k - 1) := ⟨_, rfl⟩
      obtain ⟨b3, o3, e3, hb3, hc3⟩ := hva m (by have := HM.out; omega)
      cases e3
      have hc3 := hc3.below hb1 hbel
      have HX : Hid (rgOk (pv k) l[k]! = true → ∀ t, t < k + 1 → rgOk (pv t) l[t]! = true) := fun h t ht => by
        by_cases e : t = k
        · rw [e]; exact h
        · exact HEQ.out t (by omega)
      have HNO : Hid (rgOk (pv k) l[k]! = false → r = false) := fun h => HN.out k hlt h
      have HPK : Hid (0 < k → pv k = l[m]!.b + 1 ∧ (0 ≤ l[m]!.b ∧ l[m]!.b ≤ 1114111)) := fun h => by
        have h1 := (rgOk_iff _ _).1 (HEQ.out m (by have := HM.out; omega))
        refine ⟨by rw [HP.out k h, HM.out], ?_, ?_⟩ <;> omega
      generalize l[k]! = x at hc1 HX HNO
      generalize l[m]! = y at hc3 HPK
      obtain ⟨x0, x1⟩ := x
      obtain ⟨y0, y1⟩ := y
      rw [rgOk_in] at HX HNO
      have c0 := hc1.c0
      have c1 := hc1.c1
      have c3 := hc3.c1
      dsimp only at c0 c1 c3 HX HNO HPK
      have q0 := cell_regrown c0
      have q1 := cell_regrown c1
      have q3 := cell_regrown c3
      have hI := fun dd os => inQ_any x0 0 1114111 wr dd os
      have hJ := fun dd os => inQ_any x1 x0 1114111 wr dd os
      have hkn : (k : Int) < (n : Int) := by omega
      have hk0 : (0 : Int) ≤ (k : Int) := by omega
      have zm : 0 < k → IntKind.i64.wrap ((k : Int) - 1) = (m : Int) := fun h => by rw [IntKind.wrap_i64, HM.out]; omega
      have jm : (m : Int) < (n : Int) := by have := HM.out; omega
      have jm0 : (0 : Int) ≤ (m : Int) := by omega
      have HI0 : Hid (inB x0 0 1114111 = true → 0 ≤ x0) := fun h => (inB_le h).1
      generalize inB x0 0 1114111 = bI at hI HX HNO HI0
      generalize inB x1 x0 1114111 = bJ at hJ HX HNO
      clear hc1 hc3 hva c0 c1 c3 HN HY
      cases bI
      · have hr : Hid (r = false) := HNO.out (by simp)
        clear HX HNO HPK zm
        go_wp2
        refine wp_region_quiet_below (by kernel_rfl) (by kernel_rfl) ?_
        repeat (go_big_quiet_step (first | with_reducible exact hI _ _ | with_reducible exact hJ _ _))
        refine wpQuiet_nil ?_
        rintro w' ⟨⟨dq, osq⟩, rfl⟩
        have hbq := below_regrown wr dq osq
        generalize grow (redrawn wr dq) osq = w6 at hbq ⊢
        go_wp2
        go_ret
        exact ⟨ret_bool hr.out.symm, hbel.trans (hbq.mono hbel.size)⟩
      · cases bJ
        · have hr : Hid (r = false) := HNO.out (by simp)
          clear HX HNO HPK zm
          go_wp2
          refine wp_region_quiet_below (by kernel_rfl) (by kernel_rfl) ?_
          repeat (go_big_quiet_step (first | with_reducible exact hI _ _ | with_reducible exact hJ _ _))
          refine wpQuiet_nil ?_
          rintro w' ⟨⟨dq, osq⟩, rfl⟩
          have hbq := below_regrown wr dq osq
          generalize grow (redrawn wr dq) osq = w6 at hbq ⊢
          go_wp2
          go_ret
          exact ⟨ret_bool hr.out.symm, hbel.trans (hbq.mono hbel.size)⟩
        · by_cases hkz : k = 0
          · have hd0 : decide (0 < k) = false := decide_eq_false (by omega)
            have HX' : Hid _ := HX.out (by rw [hkz, HP0.out]; have := HI0.out rfl; simp; omega)
            clear HX HNO HPK zm hkz HI0
            go_wp2
            refine wp_region_quiet_below (by kernel_rfl) (by kernel_rfl) ?_
            repeat (go_big_quiet_step (first | with_reducible exact hI _ _ | with_reducible exact hJ _ _))
            refine wpQuiet_nil ?_
            rintro w' ⟨⟨dq, osq⟩, rfl⟩
            have hbq := below_regrown wr dq osq
            generalize grow (redrawn wr dq) osq = w6 at hbq ⊢
            go_wp2
            go_roundw
            case rel => exact ⟨k + 1, by omega, by go_num, HX'.out, hbel.trans (hbq.mono hbel.size)⟩
            case measure => simp [intOf]; omega
          · obtain ⟨hpv, hy0, hy1⟩ := HPK.out (by omega)
            have zm' := zm (by omega)
            have hd0 : decide (0 < k) = true := decide_eq_true (by omega)
            have hwy : IntKind.i64.wrap (y1 + 1) = y1 + 1 := by rw [IntKind.wrap_i64]; omega
            rw [hpv] at HX HNO
            have HPV : Hid _ := hpv
            clear HPK zm hpv hkz
            by_cases hle : x0 ≤ y1 + 1
            · have hr : Hid (r = false) := HNO.out (by simp; omega)
              have hd1 : decide (x0 ≤ y1 + 1) = true := decide_eq_true hle
              clear HX HNO hle
              go_wp2
              refine wp_region_quiet_below (by kernel_rfl) (by kernel_rfl) ?_
              repeat (go_big_quiet_step (first | with_reducible exact hI _ _ | with_reducible exact hJ _ _))
              refine wpQuiet_nil ?_
              rintro w' ⟨⟨dq, osq⟩, rfl⟩
              have hbq := below_regrown wr dq osq
              generalize grow (redrawn wr dq) osq = w6 at hbq ⊢
              go_wp2
              go_ret
              exact ⟨ret_bool hr.out.symm, hbel.trans (hbq.mono hbel.size)⟩
            · have HX' : Hid _ := HX.out (by simp; omega)
              have hd1 : decide (x0 ≤ y1 + 1) = false := decide_eq_false hle
              clear HX HNO hle
              go_wp2
              refine wp_region_quiet_below (by kernel_rfl) (by kernel_rfl) ?_
              repeat (go_big_quiet_step (first | with_reducible exact hI _ _ | with_reducible exact hJ _ _))
              refine wpQuiet_nil ?_
              rintro w' ⟨⟨dq, osq⟩, rfl⟩
              have hbq := below_regrown wr dq osq
              generalize grow (redrawn wr dq) osq = w6 at hbq ⊢
              go_wp2
              go_roundw
              case rel => exact ⟨k + 1, by omega, by go_num, HX'.out, hbel.trans (hbq.mono hbel.size)⟩
              case measure => simp [intOf]; omega
    · obtain rfl : k = n := by omega
      have hr : Hid (r = true) := HY.out HEQ.out
      go_wp2
      go_ret
      exact ⟨ret_bool hr.out.symm, hbel⟩


/-- the sum of the first ones -/
theorem rgSum_take (l : List Rg) (k : Nat) (h : k < l.length) : rgSum (l.take (k + 1)) = rgSum (l.take k) + l[k]!.b - l[k]!.a + 1 := by
  rw [List.take_succ_eq_append_getElem h, rgSum_append, getElem!_pos l k h]
  simp only [rgSum]; omega
theorem RgR.take {l : List Rg} (h : RgR l) (k : Nat) : RgR (l.take k) := ⟨h.gap.sublist (List.take_sublist _ _), fun r hr => h.one r (List.mem_of_mem_take hr)⟩

set_option maxRecDepth 100000 in
set_option maxHeartbeats 1000000 in
theorem sCountOf (v : Value) (l : List Rg) (w : World) (hv : RgsAt w v l) (hl : l.length ≤ 9223372036854775807) :
    Calls Tryd.prog 11 #[v] w fun e w' => e = .returned (.int .i64 (rgCount l)) ∧ Below w.heap.size w w' := by
  have HOK := fun w' (b : Below w.heap.size w w') => sRangesOk v l w' (hv.below b) hl
  obtain ⟨a, ca, rfl, -, hva⟩ := hv
  have HC : Hid (rgCount l = if rgsB l then rgSum (l.take l.length) else 0) := by rw [List.take_length]; rfl
  have HT : Hid (rgsB l = true → ∀ k, k ≤ l.length → 0 ≤ rgSum (l.take k) ∧ rgSum (l.take k) ≤ 1114112) := fun h k _ => rgSum_le (((rgsB_iff l).1 h).take k)
  have HO : Hid (rgsB l = true → ∀ k, k < l.length → 0 ≤ l[k]!.a ∧ l[k]!.a ≤ l[k]!.b ∧ l[k]!.b ≤ 1114111) := fun h k hk => by rw [getElem!_pos l k hk]; exact ((rgsB_iff l).1 h).one _ (List.getElem_mem hk)
  have HST : Hid (∀ k, k < l.length → rgSum (l.take (k + 1)) = rgSum (l.take k) + l[k]!.b - l[k]!.a + 1) := fun k hk => rgSum_take l k hk
  generalize rgCount l = q at HC ⊢
  generalize rgsB l = ok at HOK HC HT HO
  obtain ⟨n, HL⟩ : ∃ n, Hid (n = l.length) := ⟨_, rfl⟩
  rw [← HL.out] at hva hl HOK HC HT HO HST ⊢
  go_enter Tryd.func11, Tryd.ntmps11
  go_wp2
  go_loopw [3, 4] (fun z i wr => ∃ k : Nat, k ≤ n ∧ i = .int .i64 k ∧ (ok = false → k = 0) ∧ (∃ s : Int, z = .int .i64 s ∧ Hid (s = rgSum (l.take k))) ∧ Below w.heap.size w wr) (fun _ i _ => n - (intOf i).toNat)
  case atStart => exact ⟨0, Nat.zero_le _, rfl, fun _ => rfl, ⟨0, rfl, by show _ = _; simp [rgSum]⟩, Below.refl _ _⟩
  case round =>
    obtain ⟨k, hk, rfl, hk00, ⟨s, rfl, HS⟩, hbel⟩ := hrel
    by_cases hlt : k < n
    · have hok := HOK _ hbel
      cases ok
      · have hq : Hid (q = s) := by show q = s; rw [HC.out, HS.out, hk00 rfl]; rfl
        clear hk00
        go_wp2_with (go_at_call 6; refine hok.mono ?_; rintro e w2 ⟨rfl, b2⟩)
        go_ret
        exact ⟨ret_int hq.out.symm, hbel.trans (b2.mono hbel.size)⟩
      · obtain ⟨b1, o1, rfl, hb1, hc1⟩ := hva k hlt
        have hs0 := HT.out rfl k hk
        have hs1 := HT.out rfl (k + 1) hlt
        have hx := HO.out rfl k hlt
        have hst := HST.out k hlt
        rw [← HS.out] at hs0 hst
        rw [hst] at hs1
        have HX : Hid (s + l[k]!.b - l[k]!.a + 1 = rgSum (l.take (k + 1))) := hst.symm
        have HCC := fun w' (b : Below w.heap.size w w') => hc1.below hb1 b
        generalize l[k]! = x at HCC HX hx hs1
        obtain ⟨x0, x1⟩ := x
        dsimp only at HX hx hs1
        have z1 : IntKind.i64.wrap (s + x1) = s + x1 := by rw [IntKind.wrap_i64]; omega
        have z2 : IntKind.i64.wrap (s + x1 - x0) = s + x1 - x0 := by rw [IntKind.wrap_i64]; omega
        have z3 : IntKind.i64.wrap (s + x1 - x0 + 1) = s + x1 - x0 + 1 := by rw [IntKind.wrap_i64]; omega
        clear hc1 hva hk00 hst hs0
        go_wp2_with (go_at_call 6; refine hok.mono ?_; rintro e w2 ⟨rfl, b2⟩; have hb2 := hbel.trans (b2.mono hbel.size); obtain ⟨c0, c1⟩ := HCC w2 hb2; dsimp only at c0 c1; have q0 := cell_regrown c0; have q1 := cell_regrown c1)
        have hkn : (k : Int) < (n : Int) := by omega
        have hk0 : (0 : Int) ≤ (k : Int) := by omega
        refine wp_region_quiet_below (by kernel_rfl) (by kernel_rfl) ?_
        repeat (go_big_quiet_step (fail))
        refine wpQuiet_nil ?_
        rintro w' ⟨⟨dq, osq⟩, rfl⟩
        have hbq := below_regrown w2 dq osq
        generalize grow (redrawn w2 dq) osq = w6 at hbq ⊢
        go_wp2
        go_roundw
        case rel => exact ⟨k + 1, by omega, by go_num, fun h => (by cases h), ⟨_, rfl, HX⟩, hb2.trans (hbq.mono hb2.size)⟩
        case measure => simp [intOf]; omega
    · obtain rfl : k = n := by omega
      have hq : Hid (q = s) := by
        show q = s
        rw [HC.out, HS.out]
        cases ok
        · rw [hk00 rfl]; simp [rgSum]
        · rfl
      clear hk00
      go_wp2
      go_ret
      exact ⟨ret_int hq.out.symm, hbel⟩

end Go.Proofs.YtkpeabbilcmabaaDoor
