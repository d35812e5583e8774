/- Ranges of signs: impl.RangesOk, InRanges, CountOf. -/
import Derived.Test.YtkpeabbilcmabaaDoorRows
import Derived.Test.YtkpeabbilcmabaaDoorRgS
import Derived.Test.YtkpeabbilcmabaaDoorIBtw
namespace Go.Proofs.YtkpeabbilcmabaaDoor
open Go.RowKit Go.Sort

theorem rgOk_btw (s : Int) (r : Rg) (h : 0 ≤ s) : rgOk (s - 1) r = (inB r.a s 1114111 && inB r.b r.a 1114111) := by
  rw [Bool.eq_iff_iff]
  simp only [rgOk, inB, Bool.and_eq_true, decide_eq_true_eq]
  omega

set_option maxRecDepth 100000 in
set_option maxHeartbeats 1000000 in
theorem iRangesOk (v : Value) (l : List Rg) (w : World) (hv : RgsAt w v l) (hl : l.length ≤ 9223372036854775807) :
    Calls Tryd.prog 14 #[v] w fun e w' => e = .returned (.bool (rgsB l)) ∧ Below w.heap.size w w' := by
  obtain ⟨a, ca, rfl, -, hva⟩ := hv
  have HN : Hid (∀ t, t < l.length → rgOk (rgPrev l t) l[t]! = false → rgsB l = false) := fun t ht h => by
    rw [Bool.eq_false_iff]; exact fun e => by have := (rgsB_all l).1 e t ht; rw [h] at this; cases this
  have HY : Hid ((∀ t, t < l.length → rgOk (rgPrev l t) l[t]! = true) → rgsB l = true) := (rgsB_all l).2
  generalize rgsB l = r at HN HY ⊢
  have HP : Hid (∀ t, rgPrev l (t + 1) = l[t]!.b + 1) := fun t => by unfold rgPrev; rw [if_neg (by omega)]; rfl
  have HP0 : Hid (rgPrev l 0 = -1) := rfl
  generalize rgPrev l = pv at HN HY HP HP0
  obtain ⟨n, HL⟩ : ∃ n, Hid (n = l.length) := ⟨_, rfl⟩
  rw [← HL.out] at hva hl HN HY ⊢
  go_enter Tryd.func14, Tryd.ntmps14
  go_wp2
  go_loopw [3, 8] (fun z i wr => ∃ k : Nat, k ≤ n ∧ i = .int .i64 k ∧ (∃ s : Int, z = .int .i64 s ∧ (0 ≤ s ∧ s ≤ 1114113) ∧ Hid (pv k = s - 1)) ∧ Hid (∀ t, t < k → rgOk (pv t) l[t]! = true) ∧ Below w.heap.size w wr) (fun _ i _ => n - (intOf i).toNat)
  case atStart => exact ⟨0, Nat.zero_le _, rfl, ⟨0, rfl, ⟨by omega, by omega⟩, HP0⟩, fun t ht => by omega, Below.refl _ _⟩
  case round =>
    obtain ⟨k, hk, rfl, ⟨s, rfl, ⟨hs0, hs1⟩, HS⟩, HEQ, hbel⟩ := hrel
    by_cases hlt : k < n
    · obtain ⟨b1, o1, rfl, hb1, hc1⟩ := hva k hlt
      have hc1 := hc1.below hb1 hbel
      have HX : Hid (rgOk (pv k) l[k]! = true → ∀ t, t < k + 1 → rgOk (pv t) l[t]! = true) := fun h t ht => by
        by_cases e : t = k
        · rw [e]; exact h
        · exact HEQ.out t (by omega)
      have HNO : Hid (rgOk (pv k) l[k]! = false → r = false) := fun h => HN.out k hlt h
      have HPK : Hid (pv (k + 1) = l[k]!.b + 1) := HP.out k
      generalize l[k]! = x at hc1 HX HNO HPK
      rw [HS.out, rgOk_btw s x hs0] at HX HNO
      obtain ⟨x0, x1⟩ := x
      have c0 := hc1.c0
      have c1 := hc1.c1
      dsimp only at c0 c1 HX HNO HPK
      have hb5 := below_lit wr (.cells #[.int .i64 x0, .int .i64 x1] 32)
      have hbel5 := hbel.trans (hb5.mono hbel.size)
      have hI := fun w' => btw_any x0 s 1114111 w'
      have hJ := fun w' => btw_any x1 x0 1114111 w'
      have HB : Hid (inB x0 s 1114111 = true → inB x1 x0 1114111 = true → 0 ≤ x1 ∧ x1 ≤ 1114111) := fun h1 h2 => by
        have := inB_le h1; have := inB_le h2; omega
      generalize inB x0 s 1114111 = bI at hI HX HNO HB
      generalize inB x1 x0 1114111 = bJ at hJ HX HNO HB
      clear hc1 hva HN HY hb5
      cases bI
      · have hr : Hid (r = false) := HNO.out rfl
        clear HX HNO HB
        go_wp2_with (go_at_call 15; refine (hI _).mono ?_; rintro e w2 ⟨rfl, rfl⟩)
        go_ret
        exact ⟨ret_bool hr.out.symm, hbel5⟩
      · cases bJ
        · have hr : Hid (r = false) := HNO.out rfl
          clear HX HNO HB
          go_wp2_with fail
          refine (hI _).mono ?_
          rintro e w2 ⟨rfl, rfl⟩
          go_wp2_with fail
          refine (hJ _).mono ?_
          rintro e w2 ⟨rfl, rfl⟩
          go_wp2
          go_ret
          exact ⟨ret_bool hr.out.symm, hbel5⟩
        · obtain ⟨hx0, hx1⟩ := HB.out rfl rfl
          have HX' : Hid _ := HX.out rfl
          have hw : IntKind.i64.wrap (x1 + 2) = x1 + 2 := by rw [IntKind.wrap_i64]; omega
          clear HX HNO HB
          go_wp2_with fail
          refine (hI _).mono ?_
          rintro e w2 ⟨rfl, rfl⟩
          go_wp2_with fail
          refine (hJ _).mono ?_
          rintro e w2 ⟨rfl, rfl⟩
          go_wp2
          go_roundw
          case rel => exact ⟨k + 1, by omega, by go_num, ⟨x1 + 2, rfl, ⟨by omega, by omega⟩, by show _ = _; rw [HPK.out]; omega⟩, HX'.out, hbel5⟩
          case measure => simp [intOf]; omega
    · obtain rfl : k = n := by omega
      have hr : Hid (r = true) := HY.out HEQ.out
      go_wp2
      go_ret
      exact ⟨ret_bool hr.out.symm, hbel⟩

set_option maxRecDepth 100000 in
set_option maxHeartbeats 1000000 in
theorem iInRanges (v : Value) (l : List Rg) (c : Int) (w : World) (hv : RgsAt w v l) (hl : l.length ≤ 9223372036854775807) :
    Calls Tryd.prog 8 #[v, .int .i64 c] w fun e w' => e = .returned (.bool (rgInN l c)) ∧ Below w.heap.size w w' := by
  have HOK := iRangesOk v l w hv hl
  have HB := rgInB_iff l c
  have HR : Hid (rgInN l c = (rgsB l && rgInB l c)) := rfl
  obtain ⟨a, ca, rfl, -, hva⟩ := hv
  have HN : Hid ((∀ t, t < l.length → inB c l[t]!.a l[t]!.b = false) → rgInB l c = false) := fun h => by
    rw [Bool.eq_false_iff]; intro e
    obtain ⟨r, hr, h1, h2⟩ := HB.1 e
    obtain ⟨t, ht, rfl⟩ := List.getElem_of_mem hr
    have := h t ht
    rw [getElem!_pos l t ht] at this
    rw [inB_mk h1 h2] at this; cases this
  have HY : Hid (∀ t, t < l.length → inB c l[t]!.a l[t]!.b = true → rgInB l c = true) := fun t ht h => by
    rw [getElem!_pos l t ht] at h
    exact HB.2 ⟨l[t], List.getElem_mem ht, inB_le h⟩
  clear HB
  generalize rgInB l c = r at HN HY HR
  generalize rgInN l c = q at HR ⊢
  generalize rgsB l = ok at HOK HR
  obtain ⟨n, HL⟩ : ∃ n, Hid (n = l.length) := ⟨_, rfl⟩
  rw [← HL.out] at hva hl HN HY HOK ⊢
  cases ok
  · go_enter Tryd.func8, Tryd.ntmps8
    go_wp2_with (go_at_call 14; refine HOK.mono ?_; rintro e w2 ⟨rfl, b2⟩)
    go_ret
    exact ⟨ret_bool HR.out.symm, b2⟩
  · go_enter Tryd.func8, Tryd.ntmps8
    go_wp2_with (go_at_call 14; refine HOK.mono ?_; rintro e w2 ⟨rfl, b2⟩)
    clear HOK
    go_loopw [12] (fun i wr => ∃ k : Nat, k ≤ n ∧ i = .int .i64 k ∧ Hid (∀ t, t < k → inB c l[t]!.a l[t]!.b = false) ∧ Below w.heap.size w wr) (fun i _ => n - (intOf i).toNat)
    case atStart => exact ⟨0, Nat.zero_le _, rfl, fun t ht => by omega, b2⟩
    case round =>
      obtain ⟨k, hk, rfl, HEQ, hbel⟩ := hrel
      by_cases hlt : k < n
      · obtain ⟨b1, o1, rfl, hb1, hc1⟩ := hva k hlt
        have hc1 := hc1.below hb1 hbel
        have HX : Hid (inB c l[k]!.a l[k]!.b = false → ∀ t, t < k + 1 → inB c l[t]!.a l[t]!.b = false) := fun h t ht => by
          by_cases e : t = k
          · rw [e]; exact h
          · exact HEQ.out t (by omega)
        have HYK : Hid (inB c l[k]!.a l[k]!.b = true → r = true) := fun h => HY.out k hlt h
        generalize l[k]! = x at hc1 HX HYK
        obtain ⟨x0, x1⟩ := x
        have c0 := hc1.c0
        have c1 := hc1.c1
        dsimp only at c0 c1 HX HYK
        have hb5 := below_lit wr (.cells #[.int .i64 x0, .int .i64 x1] 32)
        have hbel5 := hbel.trans (hb5.mono hbel.size)
        have hI := fun w' => btw_any c x0 x1 w'
        generalize inB c x0 x1 = bI at hI HX HYK
        clear hc1 hva HN HY hb5
        cases bI
        · have HX' : Hid _ := HX.out rfl
          clear HX HYK
          go_wp2_with (go_at_call 15; refine (hI _).mono ?_; rintro e w2 ⟨rfl, rfl⟩)
          go_roundw
          case rel => exact ⟨k + 1, by omega, by go_num, HX'.out, hbel5⟩
          case measure => simp [intOf]; omega
        · have hr : Hid (q = true) := by show q = true; rw [HR.out, HYK.out rfl]; rfl
          clear HX HYK
          go_wp2_with (go_at_call 15; refine (hI _).mono ?_; rintro e w2 ⟨rfl, rfl⟩)
          go_ret
          exact ⟨ret_bool hr.out.symm, hbel5⟩
      · obtain rfl : k = n := by omega
        have hr : Hid (q = false) := by show q = false; rw [HR.out, HN.out HEQ.out]; rfl
        go_wp2
        go_ret
        exact ⟨ret_bool hr.out.symm, hbel⟩

set_option maxRecDepth 100000 in
set_option maxHeartbeats 1000000 in
theorem iCountOf (v : Value) (l : List Rg) (w : World) (hv : RgsAt w v l) (hl : l.length ≤ 9223372036854775807) :
    Calls Tryd.prog 10 #[v] w fun e w' => e = .returned (.int .i64 (rgCount l)) ∧ Below w.heap.size w w' := by
  have HOK := iRangesOk v l w hv hl
  obtain ⟨a, ca, rfl, -, hva⟩ := hv
  have HC : Hid (rgCount l = if rgsB l then rgSum (l.take l.length) else 0) := by rw [List.take_length]; rfl
  have HT : Hid (rgsB l = true → ∀ k, k ≤ l.length → 0 ≤ rgSum (l.take k) ∧ rgSum (l.take k) ≤ 1114112) := fun h k _ => rgSum_le (((rgsB_iff l).1 h).take k)
  have HO : Hid (rgsB l = true → ∀ k, k < l.length → 0 ≤ l[k]!.a ∧ l[k]!.a ≤ l[k]!.b ∧ l[k]!.b ≤ 1114111) := fun h k hk => by rw [getElem!_pos l k hk]; exact ((rgsB_iff l).1 h).one _ (List.getElem_mem hk)
  have HST : Hid (∀ k, k < l.length → rgSum (l.take (k + 1)) = rgSum (l.take k) + l[k]!.b - l[k]!.a + 1) := fun k hk => rgSum_take l k hk
  generalize rgCount l = q at HC ⊢
  generalize rgsB l = ok at HOK HC HT HO
  obtain ⟨n, HL⟩ : ∃ n, Hid (n = l.length) := ⟨_, rfl⟩
  rw [← HL.out] at hva hl HOK HC HT HO HST ⊢
  cases ok
  · go_enter Tryd.func10, Tryd.ntmps10
    go_wp2_with (go_at_call 14; refine HOK.mono ?_; rintro e w2 ⟨rfl, b2⟩)
    go_ret
    exact ⟨ret_int HC.out.symm, b2⟩
  · go_enter Tryd.func10, Tryd.ntmps10
    go_wp2_with (go_at_call 14; refine HOK.mono ?_; rintro e w2 ⟨rfl, b2⟩)
    clear HOK
    go_loopw [3, 11] (fun z i wr => ∃ k : Nat, k ≤ n ∧ i = .int .i64 k ∧ (∃ s : Int, z = .int .i64 s ∧ Hid (s = rgSum (l.take k))) ∧ Below w.heap.size w wr) (fun _ i _ => n - (intOf i).toNat)
    case atStart => exact ⟨0, Nat.zero_le _, rfl, ⟨0, rfl, by show _ = _; simp [rgSum]⟩, b2⟩
    case round =>
      obtain ⟨k, hk, rfl, ⟨s, rfl, HS⟩, hbel⟩ := hrel
      by_cases hlt : k < n
      · obtain ⟨b1, o1, rfl, hb1, hc1⟩ := hva k hlt
        have hc1 := hc1.below hb1 hbel
        have hs0 := HT.out trivial k hk
        have hs1 := HT.out trivial (k + 1) hlt
        have hx := HO.out trivial k hlt
        have hst := HST.out k hlt
        rw [← HS.out] at hs0 hst
        rw [hst] at hs1
        have HX : Hid (s + l[k]!.b - l[k]!.a + 1 = rgSum (l.take (k + 1))) := hst.symm
        clear hst
        generalize l[k]! = x at hc1 HX hs1 hx
        obtain ⟨x0, x1⟩ := x
        have c0 := hc1.c0
        have c1 := hc1.c1
        dsimp only at c0 c1 HX hs1 hx
        have hb5 := below_lit wr (.cells #[.int .i64 x0, .int .i64 x1] 32)
        have hbel5 := hbel.trans (hb5.mono hbel.size)
        have hw1 : IntKind.i64.wrap (x1 - x0) = x1 - x0 := by rw [IntKind.wrap_i64]; omega
        have hw2 : IntKind.i64.wrap (x1 - x0 + 1) = x1 - x0 + 1 := by rw [IntKind.wrap_i64]; omega
        have hw3 : IntKind.i64.wrap (s + (x1 - x0 + 1)) = s + (x1 - x0 + 1) := by rw [IntKind.wrap_i64]; omega
        clear hc1 hva hb5 HT HO HST hs0 hs1 hx
        go_wp2
        go_roundw
        case rel => exact ⟨k + 1, by omega, by go_num, ⟨s + (x1 - x0 + 1), rfl, by show _ = _; rw [← HX.out]; omega⟩, hbel5⟩
        case measure => simp [intOf]; omega
      · obtain rfl : k = n := by omega
        have hr : Hid (q = s) := by show q = s; rw [HC.out, HS.out]; rfl
        go_wp2
        go_ret
        exact ⟨ret_int hr.out.symm, hbel⟩

end Go.Proofs.YtkpeabbilcmabaaDoor
