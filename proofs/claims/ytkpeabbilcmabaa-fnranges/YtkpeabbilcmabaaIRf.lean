/- Ranges of signs: impl.piecesOf. Made by mkpcs.py. -/
import Derived.Test.YtkpeabbilcmabaaRows
import Derived.Test.YtkpeabbilcmabaaRgX
import Derived.Deep.Cut
namespace Go.Proofs.Ytkpeabbilcmabaa
open Go.RowKit Go.Sort

set_option maxRecDepth 100000 in
set_option maxHeartbeats 4000000 in
theorem piecesOf_any (x0 x1 : Int) (v : Value) (cs : List Rg) (w : World) (hv : RgsAt w v cs) (hx : 0 ≤ x0 ∧ x0 ≤ 1114111) (hcs : ∀ t, t < cs.length → 0 ≤ cs[t]!.a ∧ cs[t]!.a ≤ cs[t]!.b ∧ cs[t]!.b ≤ 1114111) (hl : cs.length ≤ 1114112) :
    Calls Try.prog 31 #[.agg #[.int .i64 x0, .int .i64 x1], v] w fun e w' => ∃ u, e = .returned u ∧ RgRow w' w.heap.size u (pcN x0 x1 cs) ∧ Below w.heap.size w w' := by
  have HAT : Hid (∀ f q, q < cs.length → pcN f x1 (cs.drop q) = if x1 < cs[q]!.a then (if f ≤ x1 then [⟨f, x1⟩] else []) else (if f < cs[q]!.a then [⟨f, cs[q]!.a - 1⟩] else []) ++ pcN (cs[q]!.b + 1) x1 (cs.drop (q + 1))) := fun f q hq => pcN_at f x1 cs q hq
  have HEN : Hid (∀ f, pcN f x1 (cs.drop cs.length) = if f ≤ x1 then [⟨f, x1⟩] else []) := fun f => pcN_end f x1 cs
  have H0 : Hid (pcN x0 x1 cs = [] ++ pcN x0 x1 (cs.drop 0)) := rfl
  generalize pcN x0 x1 cs = res at H0 ⊢
  obtain ⟨w1, HW1⟩ : ∃ w1, Hid (w1 = w.alloc (.cells #[.int .i64 x0, .int .i64 x1] 43)) := ⟨_, rfl⟩
  have B0 := below_lit w (.cells #[.int .i64 x0, .int .i64 x1] 43)
  obtain ⟨k0, k1⟩ : (w.alloc (.cells #[.int .i64 x0, .int .i64 x1] 43)).cell? ⟨w.heap.size, 0, none⟩ = some (.int .i64 x0) ∧ (w.alloc (.cells #[.int .i64 x0, .int .i64 x1] 43)).cell? ⟨w.heap.size, 1, none⟩ = some (.int .i64 x1) := by
    constructor <;> rw [World.cell?_alloc_mark] <;> rfl
  have hG : w.heap.size < (w.alloc (.cells #[.int .i64 x0, .int .i64 x1] 43)).heap.size := by simp
  rw [← HW1.out] at B0 k0 k1 hG
  have hv1 := hv.below B0
  clear hv
  obtain ⟨G, HG⟩ : ∃ G, Hid (G = w.heap.size) := ⟨_, rfl⟩
  rw [← HG.out] at k0 k1 hG
  obtain ⟨aa, ca, rfl, -, haa⟩ := hv1
  obtain ⟨n, HN⟩ : ∃ n, Hid (n = cs.length) := ⟨_, rfl⟩
  rw [← HN.out] at haa hl HAT HEN hcs ⊢
  go_enter Try.func31, Try.ntmps31
  go_upto_region 1 with fail
  rw [← HW1.out, ← HG.out]
  go_wp2
  go_loopw [5, 6, 13] (fun u fv i wr => ∃ (q : Nat) (f : Int) (P : List Rg) (vo : Value), vo = u ∧ q ≤ n ∧ i = .int .i64 q ∧ fv = .int .i64 f ∧ (0 ≤ f ∧ f ≤ 1114112) ∧ RgRow wr w1.heap.size u P ∧ Hid (res = P ++ pcN f x1 (cs.drop q)) ∧ Hid (P.length ≤ q) ∧ Below w1.heap.size w1 wr) (fun _ _ i _ => n - (intOf i).toNat)
  case atStart => exact ⟨0, x0, [], _, rfl, Nat.zero_le _, rfl, rfl, ⟨by omega, by omega⟩, ⟨rfl, .inl ⟨rfl, rfl⟩⟩, H0, Nat.le_refl 0, Below.refl _ _⟩
  case round =>
    obtain ⟨q, f, P, vo, hvo, hq, rfl, rfl, ⟨hf0, hf1⟩, hrow, HP, HPL, hbel⟩ := hrel
    subst hvo
    have HOB : Hid (∀ k, vo.ownBlock = some k → w1.heap.size ≤ k ∧ k < wr.heap.size) := fun k h => World.ownsRow.lt hrow k h
    have g0 := (hbel.cell (p := ⟨G, 0, none⟩) hG).trans k0
    have g1 := (hbel.cell (p := ⟨G, 1, none⟩) hG).trans k1
    by_cases hlt : q < n
    · obtain ⟨b1, o1, rfl, hb1, hc⟩ := haa q hlt
      have hc := hc.below hb1 hbel
      have hy := hcs q hlt
      have HPA : Hid (res = P ++ (if x1 < cs[q]!.a then (if f ≤ x1 then [⟨f, x1⟩] else []) else (if f < cs[q]!.a then [⟨f, cs[q]!.a - 1⟩] else []) ++ pcN (cs[q]!.b + 1) x1 (cs.drop (q + 1)))) := by show _ = _; rw [HP.out, HAT.out f q hlt]
      generalize cs[q]! = y at hc hy HPA
      obtain ⟨y0, y1⟩ := y
      have c0 := hc.c0
      have c1 := hc.c1
      dsimp only at c0 c1 hy HPA
      have hb5 := below_lit wr (.cells #[.int .i64 y0, .int .i64 y1] 43)
      have hGr : G < wr.heap.size := Nat.lt_of_lt_of_le hG hbel.size
      have hbel5 := hbel.trans (hb5.mono hbel.size)
      have row5 := hrow.below hb5
      have f0 := (hb5.cell (p := ⟨G, 0, none⟩) hGr).trans g0
      have f1 := (hb5.cell (p := ⟨G, 1, none⟩) hGr).trans g1
      obtain ⟨m0, m1⟩ : (wr.alloc (.cells #[.int .i64 y0, .int .i64 y1] 43)).cell? ⟨wr.heap.size, 0, none⟩ = some (.int .i64 y0) ∧ (wr.alloc (.cells #[.int .i64 y0, .int .i64 y1] 43)).cell? ⟨wr.heap.size, 1, none⟩ = some (.int .i64 y1) := by
        constructor <;> rw [World.cell?_alloc_mark] <;> rfl
      have hw1 : IntKind.i64.wrap (y1 + 1) = y1 + 1 := by rw [IntKind.wrap_i64]; omega
      have hw0 : IntKind.i64.wrap (y0 - 1) = y0 - 1 := by rw [IntKind.wrap_i64]; omega
      clear hc haa hb5 HP HAT HEN hcs hrow
      by_cases h1 : x1 < y0
      · have hd1 : decide (x1 < y0) = true := decide_eq_true h1
        rw [if_pos h1] at HPA
        clear h1 hy
        go_upto_region 6 with fail
        generalize wr.alloc (.cells #[.int .i64 y0, .int .i64 y1] 43) = w5 at *
        by_cases hfx : f ≤ x1
        · rw [if_pos hfx] at HPA
          have hdf : decide (f ≤ x1) = true := decide_eq_true hfx
          clear hfx
          go_wp2_with (at_builtin; refine append_Rgs _ rfl (.tmp 42) (.tmp 47) rfl w1.heap.size _ _ P [⟨f, x1⟩] (by have := HPL.out; simp; omega) (row5.below (below_lit _ _)) (one_Rg _ ⟨f, x1⟩) rfl rfl (Nat.le_trans hbel5.size (below_lit _ _).size) ?_; intro v8 w8 row8 b8)
          go_ret
          exact ⟨_, rfl, by rw [HPA.out]; exact row8.mono B0.size, B0.trans (((hbel5.trans ((below_lit _ _).mono hbel5.size)).trans b8).mono B0.size)⟩
        · rw [if_neg hfx, List.append_nil] at HPA
          have hdf : decide (f ≤ x1) = false := decide_eq_false hfx
          clear hfx
          go_wp2
          go_ret
          exact ⟨_, rfl, by rw [HPA.out]; exact row5.mono B0.size, B0.trans (hbel5.mono B0.size)⟩
      · have hd1 : decide (x1 < y0) = false := decide_eq_false h1
        rw [if_neg h1] at HPA
        clear h1
        by_cases h2 : f < y0
        · have hd2 : decide (f < y0) = true := decide_eq_true h2
          rw [if_pos h2, ← List.append_assoc] at HPA
          clear h2
          go_upto_region 6 with fail
          have HMM : Hid (wr.heap.size < (wr.alloc (.cells #[.int .i64 y0, .int .i64 y1] 43)).heap.size) := by show _ < _; simp
          obtain ⟨R, HRR⟩ : ∃ R, Hid (R = wr.heap.size) := ⟨_, rfl⟩
          rw [← HRR.out] at m0 m1 HMM ⊢
          generalize wr.alloc (.cells #[.int .i64 y0, .int .i64 y1] 43) = w5 at *
          have HKP : Hid (∀ w6 w8, Below w5.heap.size w5 w6 → w6.grownBy w8 (Value.ownBlock vo) → w8.cell? ⟨R, 1, none⟩ = some (.int .i64 y1)) := fun w6 w8 h h8 => by
            have h9 := (h.cell (p := ⟨R, 1, none⟩) HMM.out).trans m1
            refine h8.cell h9 (fun e => ?_)
            have := (HOB.out R e.symm).2
            rw [HRR.out] at this; omega
          go_wp2_with (at_builtin; refine append_RgsG _ rfl (.tmp 26) (.tmp 32) rfl w1.heap.size _ _ P [⟨f, y0 - 1⟩] (by have := HPL.out; simp; omega) (row5.below (below_lit _ _)) (one_Rg _ ⟨f, y0 - 1⟩) rfl rfl (Nat.le_trans hbel5.size (below_lit _ _).size) ?_; intro v8 w8 row8 b8; have t8 := HKP.out _ w8 (below_lit _ _) b8)
          go_roundw
          case rel => exact ⟨q + 1, y1 + 1, P ++ [⟨f, y0 - 1⟩], _, rfl, by omega, by go_num, rfl, ⟨by omega, by omega⟩, row8, HPA, by show _ ≤ _; have := HPL.out; simp; omega, (hbel5.trans ((below_lit _ _).mono hbel5.size)).grown b8 (Nat.le_trans hbel5.size (below_lit _ _).size) (fun k h => (HOB.out k h).1)⟩
          case measure => simp [intOf]; omega
        · have hd2 : decide (f < y0) = false := decide_eq_false h2
          rw [if_neg h2, List.nil_append] at HPA
          clear h2
          go_wp2
          go_roundw
          case rel => exact ⟨q + 1, y1 + 1, P, _, rfl, by omega, by go_num, rfl, ⟨by omega, by omega⟩, row5, HPA, by show _ ≤ _; have := HPL.out; omega, hbel5⟩
          case measure => simp [intOf]; omega
    · obtain rfl : q = n := by omega
      have HPE : Hid (res = P ++ if f ≤ x1 then [⟨f, x1⟩] else []) := by show _ = _; rw [HP.out, ← HEN.out f]
      clear HP HAT HEN haa hcs
      by_cases hfx : f ≤ x1
      · rw [if_pos hfx] at HPE
        have hdf : decide (f ≤ x1) = true := decide_eq_true hfx
        clear hfx
        go_wp2_with (at_builtin; refine append_Rgs _ rfl (.tmp 42) (.tmp 47) rfl w1.heap.size _ _ P [⟨f, x1⟩] (by have := HPL.out; simp; omega) (hrow.below (below_lit _ _)) (one_Rg _ ⟨f, x1⟩) rfl rfl (Nat.le_trans hbel.size (below_lit _ _).size) ?_; intro v8 w8 row8 b8)
        go_ret
        exact ⟨_, rfl, by rw [HPE.out]; exact row8.mono B0.size, B0.trans (((hbel.trans ((below_lit _ _).mono hbel.size)).trans b8).mono B0.size)⟩
      · rw [if_neg hfx, List.append_nil] at HPE
        have hdf : decide (f ≤ x1) = false := decide_eq_false hfx
        clear hfx
        go_wp2
        go_ret
        exact ⟨_, rfl, by rw [HPE.out]; exact hrow.mono B0.size, B0.trans (hbel.mono B0.size)⟩

end Go.Proofs.Ytkpeabbilcmabaa
