/- Ranges of signs: spec.RangesOk, InRanges, CountOf. -/
import Derived.Test.YtkpeabbilcmabaaRows
import Derived.Test.YtkpeabbilcmabaaRgR
import Derived.Test.YtkpeabbilcmabaaRdFix
import Derived.WalkKit
import Derived.WalkSpells
import Derived.WalkLawsBesides
import Derived.Deep.QuietTactic
import Derived.BigQuiet
import Derived.Deep.Onto
import Derived.Lib.QuietBelow
namespace Go.Proofs.Ytkpeabbilcmabaa
open Go.RowKit Go.Sort

theorem inQ_any (x a b : Int) (w : World) (d : Nat) (os : Array Obj) :
    Calls Try.prog 32 #[.int .i64 x, .int .i64 a, .int .i64 b] (grow (redrawn w d) os) fun e w'' => e = .returned (.bool (inB x a b)) ∧ ∃ p : Regrown, w'' = grow (redrawn w p.d) p.os :=
  Calls.regrown_of ((in_any x a b _).mono fun _ _ h => ⟨h.1, h.2 ▸ Below.refl _ _⟩)
theorem rgOk_in (p : Int) (r : Rg) : rgOk p r = (decide (p < r.a) && inB r.a 0 1114111 && inB r.b r.a 1114111) := by
  simp only [rgOk, inB, Bool.and_assoc]

set_option maxRecDepth 100000 in
set_option maxHeartbeats 1000000 in
theorem sRangesOk (v : Value) (l : List Rg) (w : World) (hv : RgsAt w v l) (hl : l.length ≤ 9223372036854775807) :
    Calls Try.prog 12 #[v] w fun e w' => e = .returned (.bool (rgsB l)) ∧ Below w.heap.size w w' := by
  obtain ⟨a, ca, rfl, -, hva⟩ := hv
  have HN : Hid (∀ t, t < l.length → rgOk (rgPrev l t) l[t]! = false → rgsB l = false) := fun t ht h => by
    rw [Bool.eq_false_iff]; exact fun e => by have := (rgsB_all l).1 e t ht; rw [h] at this; cases this
  have HY : Hid ((∀ t, t < l.length → rgOk (rgPrev l t) l[t]! = true) → rgsB l = true) := (rgsB_all l).2
  generalize rgsB l = r at HN HY ⊢
  have HP : Hid (∀ t, 0 < t → rgPrev l t = l[t - 1]!.b + 1) := fun t ht => by unfold rgPrev; rw [if_neg (by omega)]
  have HP0 : Hid (rgPrev l 0 = -1) := rfl
  generalize rgPrev l = pv at HN HY HP HP0
  obtain ⟨n, HL⟩ : ∃ n, Hid (n = l.length) := ⟨_, rfl⟩
  rw [← HL.out] at hva hl HN HY ⊢
  go_enter Try.func12, Try.ntmps12
  go_wp2
  go_loopw [3] (fun i wr => ∃ k : Nat, k ≤ n ∧ i = .int .i64 k ∧ Hid (∀ t, t < k → rgOk (pv t) l[t]! = true) ∧ Below w.heap.size w wr) (fun i _ => n - (intOf i).toNat)
  case atStart => exact ⟨0, Nat.zero_le _, rfl, fun t ht => by omega, Below.refl _ _⟩
  case round =>
    obtain ⟨k, hk, rfl, HEQ, hbel⟩ := hrel
    by_cases hlt : k < n
    · obtain ⟨b1, o1, rfl, hb1, hc1⟩ := hva k hlt
      have hc1 := hc1.below hb1 hbel
      obtain ⟨m, HM⟩ : ∃ m, Hid (m = k - 1) := ⟨_, rfl⟩
      obtain ⟨b3, o3, e3, hb3, hc3⟩ := hva m (by have := HM.out; omega)
      cases e3
      have hc3 := hc3.below hb1 hbel
      have HX : Hid (rgOk (pv k) l[k]! = true → ∀ t, t < k + 1 → rgOk (pv t) l[t]! = true) := fun h t ht => by
        by_cases e : t = k
        · rw [e]; exact h
        · exact HEQ.out t (by omega)
      have HNO : Hid (rgOk (pv k) l[k]! = false → r = false) := fun h => HN.out k hlt h
      have HPK : Hid (0 < k → pv k = l[m]!.b + 1 ∧ (0 ≤ l[m]!.b ∧ l[m]!.b ≤ 1114111)) := fun h => by
        have h1 := (rgOk_iff _ _).1 (HEQ.out m (by have := HM.out; omega))
        refine ⟨by rw [HP.out k h, HM.out], ?_, ?_⟩ <;> omega
      generalize l[k]! = x at hc1 HX HNO
      generalize l[m]! = y at hc3 HPK
      obtain ⟨x0, x1⟩ := x
      obtain ⟨y0, y1⟩ := y
      rw [rgOk_in] at HX HNO
      have c0 := hc1.c0
      have c1 := hc1.c1
      have c3 := hc3.c1
      dsimp only at c0 c1 c3 HX HNO HPK
      have q0 := cell_regrown c0
      have q1 := cell_regrown c1
      have q3 := cell_regrown c3
      have hI := fun dd os => inQ_any x0 0 1114111 wr dd os
      have hJ := fun dd os => inQ_any x1 x0 1114111 wr dd os
      have hkn : (k : Int) < (n : Int) := by omega
      have hk0 : (0 : Int) ≤ (k : Int) := by omega
      have zm : 0 < k → IntKind.i64.wrap ((k : Int) - 1) = (m : Int) := fun h => by rw [IntKind.wrap_i64, HM.out]; omega
      have jm : (m : Int) < (n : Int) := by have := HM.out; omega
      have jm0 : (0 : Int) ≤ (m : Int) := by omega
      have HI0 : Hid (inB x0 0 1114111 = true → 0 ≤ x0) := fun h => (inB_le h).1
      generalize inB x0 0 1114111 = bI at hI HX HNO HI0
      generalize inB x1 x0 1114111 = bJ at hJ HX HNO
      clear hc1 hc3 hva c0 c1 c3 HN HY
      cases bI
      · have hr : Hid (r = false) := HNO.out (by simp)
        clear HX HNO HPK zm
        go_wp2
        refine wp_region_quiet_below (by kernel_rfl) (by kernel_rfl) ?_
        repeat (go_big_quiet_step (first | with_reducible exact hI _ _ | with_reducible exact hJ _ _))
        refine wpQuiet_nil ?_
        rintro w' ⟨⟨dq, osq⟩, rfl⟩
        have hbq := below_regrown wr dq osq
        generalize grow (redrawn wr dq) osq = w6 at hbq ⊢
        go_wp2
        go_ret
        exact ⟨ret_bool hr.out.symm, hbel.trans (hbq.mono hbel.size)⟩
      · cases bJ
        · have hr : Hid (r = false) := HNO.out (by simp)
          clear HX HNO HPK zm
          go_wp2
          refine wp_region_quiet_below (by kernel_rfl) (by kernel_rfl) ?_
          repeat (go_big_quiet_step (first | with_reducible exact hI _ _ | with_reducible exact hJ _ _))
          refine wpQuiet_nil ?_
          rintro w' ⟨⟨dq, osq⟩, rfl⟩
          have hbq := below_regrown wr dq osq
          generalize grow (redrawn wr dq) osq = w6 at hbq ⊢
          go_wp2
          go_ret
          exact ⟨ret_bool hr.out.symm, hbel.trans (hbq.mono hbel.size)⟩
        · by_cases hkz : k = 0
          · have hd0 : decide (0 < k) = false := decide_eq_false (by omega)
            have HX' : Hid _ := HX.out (by rw [hkz, HP0.out]; have := HI0.out rfl; simp; omega)
            clear HX HNO HPK zm hkz HI0
            go_wp2
            refine wp_region_quiet_below (by kernel_rfl) (by kernel_rfl) ?_
            repeat (go_big_quiet_step (first | with_reducible exact hI _ _ | with_reducible exact hJ _ _))
            refine wpQuiet_nil ?_
            rintro w' ⟨⟨dq, osq⟩, rfl⟩
            have hbq := below_regrown wr dq osq
            generalize grow (redrawn wr dq) osq = w6 at hbq ⊢
            go_wp2
            go_roundw
            case rel => exact ⟨k + 1, by omega, by go_num, HX'.out, hbel.trans (hbq.mono hbel.size)⟩
            case measure => simp [intOf]; omega
          · obtain ⟨hpv, hy0, hy1⟩ := HPK.out (by omega)
            have zm' := zm (by omega)
            have hd0 : decide (0 < k) = true := decide_eq_true (by omega)
            have hwy : IntKind.i64.wrap (y1 + 1) = y1 + 1 := by rw [IntKind.wrap_i64]; omega
            rw [hpv] at HX HNO
            have HPV : Hid _ := hpv
            clear HPK zm hpv hkz
            by_cases hle : x0 ≤ y1 + 1
            · have hr : Hid (r = false) := HNO.out (by simp; omega)
              have hd1 : decide (x0 ≤ y1 + 1) = true := decide_eq_true hle
              clear HX HNO hle
              go_wp2
              refine wp_region_quiet_below (by kernel_rfl) (by kernel_rfl) ?_
              repeat (go_big_quiet_step (first | with_reducible exact hI _ _ | with_reducible exact hJ _ _))
              refine wpQuiet_nil ?_
              rintro w' ⟨⟨dq, osq⟩, rfl⟩
              have hbq := below_regrown wr dq osq
              generalize grow (redrawn wr dq) osq = w6 at hbq ⊢
              go_wp2
              go_ret
              exact ⟨ret_bool hr.out.symm, hbel.trans (hbq.mono hbel.size)⟩
            · have HX' : Hid _ := HX.out (by simp; omega)
              have hd1 : decide (x0 ≤ y1 + 1) = false := decide_eq_false hle
              clear HX HNO hle
              go_wp2
              refine wp_region_quiet_below (by kernel_rfl) (by kernel_rfl) ?_
              repeat (go_big_quiet_step (first | with_reducible exact hI _ _ | with_reducible exact hJ _ _))
              refine wpQuiet_nil ?_
              rintro w' ⟨⟨dq, osq⟩, rfl⟩
              have hbq := below_regrown wr dq osq
              generalize grow (redrawn wr dq) osq = w6 at hbq ⊢
              go_wp2
              go_roundw
              case rel => exact ⟨k + 1, by omega, by go_num, HX'.out, hbel.trans (hbq.mono hbel.size)⟩
              case measure => simp [intOf]; omega
    · obtain rfl : k = n := by omega
      have hr : Hid (r = true) := HY.out HEQ.out
      go_wp2
      go_ret
      exact ⟨ret_bool hr.out.symm, hbel⟩

set_option maxRecDepth 100000 in
set_option maxHeartbeats 1000000 in
theorem sInRanges (v : Value) (l : List Rg) (c : Int) (w : World) (hv : RgsAt w v l) (hl : l.length ≤ 9223372036854775807) :
    Calls Try.prog 13 #[v, .int .i64 c] w fun e w' => e = .returned (.bool (rgInN l c)) ∧ Below w.heap.size w w' := by
  have HOK := sRangesOk v l w hv hl
  have HB := rgInB_iff l c
  have HR : Hid (rgInN l c = (rgsB l && rgInB l c)) := rfl
  obtain ⟨a, ca, rfl, -, hva⟩ := hv
  have HN : Hid ((∀ t, t < l.length → inB c l[t]!.a l[t]!.b = false) → rgInB l c = false) := fun h => by
    rw [Bool.eq_false_iff]; intro e
    obtain ⟨r, hr, h1, h2⟩ := HB.1 e
    obtain ⟨t, ht, rfl⟩ := List.getElem_of_mem hr
    have := h t ht
    rw [getElem!_pos l t ht] at this
    rw [inB_mk h1 h2] at this; cases this
  have HY : Hid (∀ t, t < l.length → inB c l[t]!.a l[t]!.b = true → rgInB l c = true) := fun t ht h => by
    rw [getElem!_pos l t ht] at h
    exact HB.2 ⟨l[t], List.getElem_mem ht, inB_le h⟩
  clear HB
  generalize rgInB l c = r at HN HY HR
  generalize rgInN l c = q at HR ⊢
  generalize rgsB l = ok at HOK HR
  obtain ⟨n, HL⟩ : ∃ n, Hid (n = l.length) := ⟨_, rfl⟩
  rw [← HL.out] at hva hl HN HY HOK ⊢
  cases ok
  · go_enter Try.func13, Try.ntmps13
    go_wp2_with (go_at_call 12; refine HOK.mono ?_; rintro e w2 ⟨rfl, b2⟩)
    go_ret
    exact ⟨ret_bool HR.out.symm, b2⟩
  · go_enter Try.func13, Try.ntmps13
    go_wp2_with (go_at_call 12; refine HOK.mono ?_; rintro e w2 ⟨rfl, b2⟩)
    clear HOK
    go_loopw [5] (fun i wr => ∃ k : Nat, k ≤ n ∧ i = .int .i64 k ∧ Hid (∀ t, t < k → inB c l[t]!.a l[t]!.b = false) ∧ Below w.heap.size w wr) (fun i _ => n - (intOf i).toNat)
    case atStart => exact ⟨0, Nat.zero_le _, rfl, fun t ht => by omega, b2⟩
    case round =>
      obtain ⟨k, hk, rfl, HEQ, hbel⟩ := hrel
      by_cases hlt : k < n
      · obtain ⟨b1, o1, rfl, hb1, hc1⟩ := hva k hlt
        have hc1 := hc1.below hb1 hbel
        have HX : Hid (inB c l[k]!.a l[k]!.b = false → ∀ t, t < k + 1 → inB c l[t]!.a l[t]!.b = false) := fun h t ht => by
          by_cases e : t = k
          · rw [e]; exact h
          · exact HEQ.out t (by omega)
        have HYK : Hid (inB c l[k]!.a l[k]!.b = true → r = true) := fun h => HY.out k hlt h
        generalize l[k]! = x at hc1 HX HYK
        obtain ⟨x0, x1⟩ := x
        have q0 := cell_regrown hc1.c0
        have q1 := cell_regrown hc1.c1
        dsimp only at q0 q1 HX HYK
        have hI := fun dd os => inQ_any c x0 x1 wr dd os
        have hkn : (k : Int) < (n : Int) := by omega
        have hk0 : (0 : Int) ≤ (k : Int) := by omega
        generalize inB c x0 x1 = bI at hI HX HYK
        clear hc1 hva HN HY
        cases bI
        · have HX' : Hid _ := HX.out rfl
          clear HX HYK
          go_wp2
          refine wp_region_quiet_below (by kernel_rfl) (by kernel_rfl) ?_
          repeat (go_big_quiet_step (with_reducible exact hI _ _))
          refine wpQuiet_nil ?_
          rintro w' ⟨⟨dq, osq⟩, rfl⟩
          have hbq := below_regrown wr dq osq
          generalize grow (redrawn wr dq) osq = w6 at hbq ⊢
          go_wp2
          go_roundw
          case rel => exact ⟨k + 1, by omega, by go_num, HX'.out, hbel.trans (hbq.mono hbel.size)⟩
          case measure => simp [intOf]; omega
        · have hr : Hid (q = true) := by show q = true; rw [HR.out, HYK.out rfl]; rfl
          clear HX HYK
          go_wp2
          refine wp_region_quiet_below (by kernel_rfl) (by kernel_rfl) ?_
          repeat (go_big_quiet_step (with_reducible exact hI _ _))
          refine wpQuiet_nil ?_
          rintro w' ⟨⟨dq, osq⟩, rfl⟩
          have hbq := below_regrown wr dq osq
          generalize grow (redrawn wr dq) osq = w6 at hbq ⊢
          go_wp2
          go_ret
          exact ⟨ret_bool hr.out.symm, hbel.trans (hbq.mono hbel.size)⟩
      · obtain rfl : k = n := by omega
        have hr : Hid (q = false) := by show q = false; rw [HR.out, HN.out HEQ.out]; rfl
        go_wp2
        go_ret
        exact ⟨ret_bool hr.out.symm, hbel⟩

/-- the sum of the first ones -/
theorem rgSum_take (l : List Rg) (k : Nat) (h : k < l.length) : rgSum (l.take (k + 1)) = rgSum (l.take k) + l[k]!.b - l[k]!.a + 1 := by
  rw [List.take_succ_eq_append_getElem h, rgSum_append, getElem!_pos l k h]
  simp only [rgSum]; omega
theorem RgR.take {l : List Rg} (h : RgR l) (k : Nat) : RgR (l.take k) := ⟨h.gap.sublist (List.take_sublist _ _), fun r hr => h.one r (List.mem_of_mem_take hr)⟩

end Go.Proofs.Ytkpeabbilcmabaa
