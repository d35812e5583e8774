/- Ranges of signs: impl.mixed. Made by mkmix.py. -/
import Derived.Test.YtkpeabbilcmabaaRows
import Derived.Test.YtkpeabbilcmabaaIRc
namespace Go.Proofs.Ytkpeabbilcmabaa
open Go.RowKit Go.Sort

def lenV : Value → Nat
  | .slice _ n _ => n
  | _ => 0
def SaysMx (w : World) (a b : List Rg) (e : Ending) (w' : World) : Prop := ∃ u M, e = .returned u ∧ RgRow w' w.heap.size u M ∧ MxR a b M ∧ M.length ≤ a.length + b.length ∧ Below w.heap.size w w'

theorem mix_end {w wr : World} {N k n1 n2 : Nat} {a b x y o z : List Rg} (u v : Value) (hux : RgsAt w u x) (huy : RgsAt w v y) (hk : k = o.length) (h1 : n1 = x.length) (h2 : n2 = y.length) (HI : MxI a b o x y) (HLN : (o ++ z).length = N) (HLE : o.length + x.length + y.length ≤ N ∧ N ≤ 2228224)
    (hown : wr.ownsRow w.heap.size 43 2 (.slice (some ⟨w.heap.size, 0, none⟩) N N) N (flatRg (o ++ z))) (hbel : Below w.heap.size w wr) (he : x = [] ∨ y = []) :
    ∃ (D D3 D4 : Value) (w3 w4 : World) (M : List Rg), (∀ w', (Instr.slice 24 (.slice (some ⟨w.heap.size, 0, none⟩) N N) (some (.int .i64 (k : Int))) none none).run Try.prog w' = .ok D w') ∧
      (Builtin.copy_ #[24, 24] 3 #[D, u]).run Try.prog wr = .ok (goInt n1) w3 ∧
      (∀ w', (Instr.slice 24 (.slice (some ⟨w.heap.size, 0, none⟩) N N) (some (.int .i64 ((k : Int) + (n1 : Int)))) none none).run Try.prog w' = .ok D3 w') ∧
      (Builtin.copy_ #[24, 24] 3 #[D3, v]).run Try.prog w3 = .ok (goInt n2) w4 ∧
      (∀ w', (Instr.slice 24 (.slice (some ⟨w.heap.size, 0, none⟩) N N) none (some (.int .i64 ((k : Int) + (n1 : Int) + (n2 : Int)))) none).run Try.prog w' = .ok D4 w') ∧
      RgRow w4 w.heap.size D4 M ∧ MxR a b M ∧ M.length ≤ N ∧ Below w.heap.size w w4 ∧
      IntKind.i64.wrap ((k : Int) + (n1 : Int)) = (k : Int) + (n1 : Int) ∧ IntKind.i64.wrap ((k : Int) + (n1 : Int) + (n2 : Int)) = (k : Int) + (n1 : Int) + (n2 : Int) := by
  subst hk h1 h2
  have hz : o.length + z.length = N := by rw [← List.length_append]; exact HLN
  obtain ⟨w3, hrun3, hown3, hg3⟩ := copy_rg o z HLN hown x u (hux.below hbel) (by omega) 3
  have hbel3 : Below w.heap.size w w3 := hbel.grown hg3 hbel.size (fun k h => by cases h; exact Nat.le_refl _)
  have HL3 : (o ++ x ++ z.drop x.length).length = N := by simp; omega
  obtain ⟨w4, hrun4, hown4, hg4⟩ := copy_rg (o ++ x) (z.drop x.length) HL3 hown3 y v (huy.below hbel3) (by simp; omega) 3
  have hbel4 : Below w.heap.size w w4 := hbel3.grown hg4 hbel3.size (fun k h => by cases h; exact Nat.le_refl _)
  have HL4 : (o ++ x ++ y ++ (z.drop x.length).drop y.length).length = N := by simp; omega
  have e3 : (((o ++ x ++ y).length : Nat) : Int) = (o.length : Int) + (x.length : Int) + (y.length : Int) := by simp; omega
  refine ⟨_, _, _, w3, w4, o ++ x ++ y, fun w' => slice_rg _ N N o.length _ w' rfl (by omega), hrun3, fun w' => slice_rg _ N N (o ++ x).length _ w' (by simp) (by simp; omega), hrun4, fun w' => ?_, row_head (o ++ x ++ y) _ hown4 HL4, HI.done he, by simp; omega, hbel4, ?_, ?_⟩
  · rw [← e3]; exact slice_rgh _ N N (o ++ x ++ y).length w' (by simp; omega)
  · rw [IntKind.wrap_i64]; omega
  · rw [IntKind.wrap_i64]; omega
theorem mix_put {wr : World} {base g N k : Nat} {o z : List Rg} (r : Rg) (hown : wr.ownsRow base 43 2 (.slice (some ⟨g, 0, none⟩) N N) N (flatRg (o ++ z))) (hk : k = o.length) (hz : o.length + 1 ≤ N) (HLN : (o ++ z).length = N) :
    ((wr.setCell ⟨g, k * 2, none⟩ (.int .i64 r.a)).setCell ⟨g, k * 2 + 1, none⟩ (.int .i64 r.b)).ownsRow base 43 2 (.slice (some ⟨g, 0, none⟩) N N) N (flatRg (o ++ [r] ++ z.tail)) ∧ (o ++ [r] ++ z.tail).length = N ∧
      ((∃ u, wr.cell? ⟨g, k * 2, none⟩ = some u) ∧ wr.frozen? ⟨g, k * 2, none⟩ = false) ∧ ((∃ u, wr.cell? ⟨g, k * 2 + 1, none⟩ = some u) ∧ wr.frozen? ⟨g, k * 2 + 1, none⟩ = false) := by
  subst hk
  cases z with
  | nil => simp at HLN; omega
  | cons z0 z =>
    have e : (o ++ z0 :: z).set o.length r = o ++ [r] ++ z := by rw [List.set_append_right _ _ (Nat.le_refl _)]; simp
    have h := rowRg_put hown o.length (by simp) r
    rw [e] at h
    exact ⟨h, by simp at HLN ⊢; omega, rowRg_cells hown _ (by omega), rowRg_cells hown _ (by omega)⟩

set_option maxRecDepth 100000 in
set_option maxHeartbeats 4000000 in
theorem mixed_any (va vb : Value) (a b : List Rg) (w : World) (hva : RgsAt w va a) (hvb : RgsAt w vb b) (ha : RgR a) (hb : RgR b) :
    Calls Try.prog 27 #[va, vb] w fun e w' => SaysMx w a b e w' := by
  have hla := ha.len
  have hlb := hb.len
  have HI0 := MxI.start ha hb
  have hva0 := hva
  have hvb0 := hvb
  obtain ⟨aa, ca, rfl, -, -⟩ := hva
  obtain ⟨bb, cb, rfl, -, -⟩ := hvb
  obtain ⟨N, HN⟩ : ∃ N, Hid (N = a.length + b.length) := ⟨_, rfl⟩
  have hw0 : IntKind.i64.wrap ((a.length : Int) + (b.length : Int)) = (N : Int) := by rw [IntKind.wrap_i64, HN.out]; omega
  have hNN : N ≤ 2228224 := by have := HN.out; omega
  obtain ⟨i0, hi, hz0, hz1, hz2⟩ := info_parts Try.infoRg
  clear ha hb
  go_enter Try.func27, Try.ntmps27
  go_wp2_with (at_make; refine wpList_make_full _ rfl _ _ 24 rfl w.heap.size 43 i0 _ 2 Try.underlying24 hi hz0 hz1 .i64 .i64 _ _ N rfl rfl rfl rfl (by rw [hz2]; omega) (by unfold maxLen; omega) (Nat.le_refl _) ?_; intro w1 hown1 hgrow1)
  have hown2 : w1.ownsRow w.heap.size 43 2 (.slice (some ⟨w.heap.size, 0, none⟩) N N) N (flatRg ([] ++ List.replicate N ⟨0, 0⟩)) := by
    rw [List.nil_append, ← flatRg_zero]; simpa [Value.cells] using hown1
  have hbel2 : Below w.heap.size w w1 := (Below.refl _ _).grown hgrow1 (Nat.le_refl _) (fun _ h => by cases h)
  have HNN : Hid (N ≤ 2228224) := hNN
  clear hown1 hgrow1 hNN hla hlb hw0
  go_wp2
  go_loopw [0, 1, 6] (fun u v n wr => ∃ (x y o z : List Rg), RgsAt w u x ∧ RgsAt w v y ∧ n = .int .i64 (o.length : Nat) ∧ MxI a b o x y ∧ Hid ((o ++ z).length = N) ∧ Hid (o.length + x.length + y.length ≤ N ∧ N ≤ 2228224) ∧ wr.ownsRow w.heap.size 43 2 (.slice (some ⟨w.heap.size, 0, none⟩) N N) N (flatRg (o ++ z)) ∧ Below w.heap.size w wr) (fun u v _ _ => lenV u + lenV v)
  case atStart => exact ⟨a, b, [], List.replicate N ⟨0, 0⟩, hva0, hvb0, rfl, HI0, by show _ = _; simp, by show _ ∧ _; have := HN.out; have := HNN.out; simp; omega, hown2, hbel2⟩
  case round =>
    obtain ⟨x, y, o, z, hux, huy, rfl, HI, HLN, HLE, hown, hbel⟩ := hrel
    clear hva0 hvb0 HI0 hown2 hbel2
    obtain ⟨k, HK⟩ : ∃ k, Hid (k = o.length) := ⟨_, rfl⟩
    obtain ⟨n1, H1⟩ : ∃ n1, Hid (n1 = x.length) := ⟨_, rfl⟩
    obtain ⟨n2, H2⟩ : ∃ n2, Hid (n2 = y.length) := ⟨_, rfl⟩
    obtain ⟨a1, c1, rfl, -, hxa⟩ := id hux
    obtain ⟨a2, c2, rfl, -, hya⟩ := id huy
    rw [← H1.out] at hux hxa ⊢
    rw [← H2.out] at huy hya ⊢
    rw [← HK.out]
    by_cases hx0 : x = []
    · obtain rfl : n1 = 0 := by rw [H1.out, hx0]; rfl
      obtain ⟨D, D3, D4, w3, w4, M, hD, hrun3, hD3, hrun4, hD4, row4, HR, HLR, hbel4, hw3, hw4⟩ := mix_end _ _ hux huy HK.out H1.out H2.out HI HLN.out HLE.out hown hbel (.inl hx0)
      (try simp only [Int.natCast_zero, Int.add_zero] at hD3); (try simp only [Int.natCast_zero, Int.add_zero] at hD4); (try simp only [Int.natCast_zero, Int.add_zero] at hw3); (try simp only [Int.natCast_zero, Int.add_zero] at hw4)
      obtain rfl : D = D3 := by have h := (hD w).symm.trans (hD3 w); injection h
      clear hD3
      have HR : Hid (MxR a b M) := HR
      have HLR : Hid (M.length ≤ N) := HLR
      clear HI HLN HLE hown hux huy
      go_wp2_with (first
        | (at_builtin; refine wpList_cp rfl (.tmp 54) (.tmp 55) 24 24 rfl _ _ rfl rfl _ w3 hrun3 ?_)
        | (at_builtin; refine wpList_cp rfl (.tmp 61) (.tmp 62) 24 24 rfl _ _ rfl rfl _ w4 hrun4 ?_))
      go_ret
      exact ⟨_, M, rfl, row4, HR.out, by have := HLR.out; rw [HN.out] at this; exact this, hbel4⟩
    by_cases hy0 : y = []
    · obtain rfl : n2 = 0 := by rw [H2.out, hy0]; rfl
      have hp1 : 0 < n1 := by rw [H1.out]; exact List.length_pos_iff.2 hx0
      have hd1 : decide (0 < n1) = true := decide_eq_true hp1
      obtain ⟨D, D3, D4, w3, w4, M, hD, hrun3, hD3, hrun4, hD4, row4, HR, HLR, hbel4, hw3, hw4⟩ := mix_end _ _ hux huy HK.out H1.out H2.out HI HLN.out HLE.out hown hbel (.inr hy0)
      (try simp only [Int.natCast_zero, Int.add_zero] at hD3); (try simp only [Int.natCast_zero, Int.add_zero] at hD4); (try simp only [Int.natCast_zero, Int.add_zero] at hw3); (try simp only [Int.natCast_zero, Int.add_zero] at hw4)
      have HR : Hid (MxR a b M) := HR
      have HLR : Hid (M.length ≤ N) := HLR
      clear HI HLN HLE hown hux huy
      go_wp2_with (first
        | (at_builtin; refine wpList_cp rfl (.tmp 54) (.tmp 55) 24 24 rfl _ _ rfl rfl _ w3 hrun3 ?_)
        | (at_builtin; refine wpList_cp rfl (.tmp 61) (.tmp 62) 24 24 rfl _ _ rfl rfl _ w4 hrun4 ?_))
      go_ret
      exact ⟨_, M, rfl, row4, HR.out, by have := HLR.out; rw [HN.out] at this; exact this, hbel4⟩
    have hp1 : 0 < n1 := by rw [H1.out]; exact List.length_pos_iff.2 hx0
    have hp2 : 0 < n2 := by rw [H2.out]; exact List.length_pos_iff.2 hy0
    have hd1 : decide (0 < n1) = true := decide_eq_true hp1
    have hd2 : decide (0 < n2) = true := decide_eq_true hp2
    obtain ⟨b1, o1, rfl, hb1, hc1⟩ := hxa 0 hp1
    obtain ⟨b2, o2, rfl, hb2, hc2⟩ := hya 0 hp2
    have hs1 := fun w' => slice_rg (some ⟨b1, o1, none⟩) n1 c1 1 1 w' rfl hp1
    have hs2 := fun w' => slice_rg (some ⟨b2, o2, none⟩) n2 c2 1 1 w' rfl hp2
    have hU1 := hux.drop 1 hp1
    have hU2 := huy.drop 1 hp2
    have HU1 : Hid (lenV (sliced (some ⟨b1, o1, none⟩) 1 n1 c1 2) = n1 - 1) := rfl
    have HU2 : Hid (lenV (sliced (some ⟨b2, o2, none⟩) 1 n2 c2 2) = n2 - 1) := rfl
    generalize sliced (some ⟨b1, o1, none⟩) 1 n1 c1 2 = U1 at hs1 hU1 HU1
    generalize sliced (some ⟨b2, o2, none⟩) 1 n2 c2 2 = U2 at hs2 hU2 HU2
    clear hxa hya
    obtain ⟨r, x, rfl⟩ := List.exists_cons_of_ne_nil hx0
    obtain ⟨s, y, rfl⟩ := List.exists_cons_of_ne_nil hy0
    clear hx0 hy0
    simp only [List.drop_one, List.tail_cons] at hU1 hU2
    have e1 : (r :: x)[0]! = r := rfl
    have e2 : (s :: y)[0]! = s := rfl
    rw [e1] at hc1
    rw [e2] at hc2
    simp only [Nat.zero_mul, Nat.add_zero] at hc1 hc2
    have HC1 : Hid (∀ w', Below w.heap.size w w' → CellsRg w' b1 o1 r) := fun w' h => hc1.below hb1 h
    have HC2 : Hid (∀ w', Below w.heap.size w w' → CellsRg w' b2 o2 s) := fun w' h => hc2.below hb2 h
    have HE := fun w' => eqRg r s w'
    have HLK : Hid (o.length + 1 ≤ N) := by show _ ≤ _; have := HLE.out; simp at this; omega
    have HSA : Hid (r = s → MxI a b o (r :: x) y) := fun e => by subst e; exact HI.same
    have HSX : Hid (r.a ≤ s.a → MxI a b (o ++ [r]) x (s :: y)) := fun h => HI.first h
    have HSY : Hid (s.a ≤ r.a → MxI a b (o ++ [s]) y (r :: x)) := fun h => HI.swap.first h
    have HPX : Hid (∀ W : World, W.ownsRow w.heap.size 43 2 (.slice (some ⟨w.heap.size, 0, none⟩) N N) N (flatRg (o ++ z)) → _) := fun W h => mix_put r h HK.out HLK.out HLN.out
    have HPY : Hid (∀ W : World, W.ownsRow w.heap.size 43 2 (.slice (some ⟨w.heap.size, 0, none⟩) N N) N (flatRg (o ++ z)) → _) := fun W h => mix_put s h HK.out HLK.out HLN.out
    have hkN : (k : Int) < (N : Int) := by rw [HK.out]; have := HLK.out; omega
    have hk0 : (0 : Int) ≤ (k : Int) := by omega
    have hwk : IntKind.i64.wrap ((k : Int) + 1) = (k : Int) + 1 := by rw [IntKind.wrap_i64]; have := HLE.out; omega
    obtain ⟨q, HQ⟩ : ∃ q : Bool, Hid (decide (r = s) = q) := ⟨_, rfl⟩
    rw [HQ.out] at HE
    have k1 := HC1.out _ hbel
    have k2 := HC2.out _ hbel
    obtain ⟨r0, r1⟩ := r
    obtain ⟨s0, s1⟩ := s
    dsimp only at HE HSX HSY
    have p0 := cell_regrown k1.c0
    have p1 := cell_regrown k1.c1
    have q0 := cell_regrown k2.c0
    have q1 := cell_regrown k2.c1
    dsimp only at p0 p1 q0 q1
    have hp1i : (0 : Int) < (n1 : Int) := by omega
    have hp2i : (0 : Int) < (n2 : Int) := by omega
    clear hc1 hc2 k1 k2 HI
    cases q
    · go_wp2
      refine wp_region_quiet_below (by kernel_rfl) (by kernel_rfl) ?_
      repeat (go_big_quiet_step (fail))
      refine wpQuiet_nil ?_
      rintro w' ⟨⟨dq, osq⟩, rfl⟩
      have hbq := below_regrown wr dq osq
      have hb6 := hbel.trans (hbq.mono hbel.size)
      have own6 := ownRg_below hown hbq
      generalize grow (redrawn wr dq) osq = w6 at *
      clear hbq
      have k1 := HC1.out _ hb6
      have k2 := HC2.out _ hb6
      have p0 := cell_regrown k1.c0
      have q0 := cell_regrown k2.c0
      dsimp only at p0 q0
      clear p1 q1
      by_cases hlt : s0 < r0
      · have hd3 : decide (s0 < r0) = true := decide_eq_true hlt
        have HSY2 : Hid (MxI a b (o ++ [⟨s0, s1⟩]) y (⟨r0, r1⟩ :: x)) := HSY.out (by omega)
        clear hlt HSX HSA HSY
        go_wp2
        refine wp_region_quiet_below (by kernel_rfl) (by kernel_rfl) ?_
        repeat (go_big_quiet_step (fail))
        refine wpQuiet_nil ?_
        rintro w' ⟨⟨dq, osq⟩, rfl⟩
        have hbq := below_regrown w6 dq osq
        have hb7 := hb6.trans (hbq.mono hb6.size)
        have own7 := ownRg_below own6 hbq
        generalize grow (redrawn w6 dq) osq = w7 at *
        clear hbq
        obtain ⟨h2, hl2, ⟨⟨u0, d0⟩, f0⟩, ⟨⟨u1, d1⟩, f1⟩⟩ := HPY.out _ own7
        have g0 := (HC2.out _ hb7).c0
        have g1 := (HC2.out _ hb7).c1
        dsimp only at h2 g0 g1
        have HS : Hid _ := h2
        have HLS : Hid _ := hl2
        clear h2 hl2 HPX HPY p0 q0 k1 k2 HC1 HC2
        go_wp2
        go_roundw
        case rel => exact ⟨y, Rg.mk r0 r1 :: x, o ++ [Rg.mk s0 s1], z.tail, hU2, hux, congrArg (Value.int .i64) (by rw [HK.out]; simp), HSY2.out, HLS, by show _ ∧ _; have := HLE.out; simp at this ⊢; omega, HS.out, (hb7.setCell (Nat.le_refl _) _).setCell (Nat.le_refl _) _⟩
        case measure => have := HU2.out; simp only [lenV] at *; omega
      · have hd3 : decide (s0 < r0) = false := decide_eq_false hlt
        have HSX2 : Hid (MxI a b (o ++ [⟨r0, r1⟩]) x (⟨s0, s1⟩ :: y)) := HSX.out (by omega)
        clear hlt HSX HSA HSY
        go_wp2
        refine wp_region_quiet_below (by kernel_rfl) (by kernel_rfl) ?_
        repeat (go_big_quiet_step (fail))
        refine wpQuiet_nil ?_
        rintro w' ⟨⟨dq, osq⟩, rfl⟩
        have hbq := below_regrown w6 dq osq
        have hb7 := hb6.trans (hbq.mono hb6.size)
        have own7 := ownRg_below own6 hbq
        generalize grow (redrawn w6 dq) osq = w7 at *
        clear hbq
        obtain ⟨h2, hl2, ⟨⟨u0, d0⟩, f0⟩, ⟨⟨u1, d1⟩, f1⟩⟩ := HPX.out _ own7
        have g0 := (HC1.out _ hb7).c0
        have g1 := (HC1.out _ hb7).c1
        dsimp only at h2 g0 g1
        have HS : Hid _ := h2
        have HLS : Hid _ := hl2
        clear h2 hl2 HPX HPY p0 q0 k1 k2 HC1 HC2
        go_wp2
        go_roundw
        case rel => exact ⟨x, Rg.mk s0 s1 :: y, o ++ [Rg.mk r0 r1], z.tail, hU1, huy, congrArg (Value.int .i64) (by rw [HK.out]; simp), HSX2.out, HLS, by show _ ∧ _; have := HLE.out; simp at this ⊢; omega, HS.out, (hb7.setCell (Nat.le_refl _) _).setCell (Nat.le_refl _) _⟩
        case measure => have := HU1.out; simp only [lenV] at *; omega
    · have HSA2 := HSA.out (by have := HQ.out; simpa using this)
      have HSA3 : Hid _ := HSA2
      clear HSX HSY HSA HSA2 HPX HPY
      go_wp2
      refine wp_region_quiet_below (by kernel_rfl) (by kernel_rfl) ?_
      repeat (go_big_quiet_step (fail))
      refine wpQuiet_nil ?_
      rintro w' ⟨⟨dq, osq⟩, rfl⟩
      have hbq := below_regrown wr dq osq
      have hb6 := hbel.trans (hbq.mono hbel.size)
      have own6 := ownRg_below hown hbq
      generalize grow (redrawn wr dq) osq = w6 at *
      clear hbq
      go_wp2
      go_roundw
      case rel => exact ⟨Rg.mk r0 r1 :: x, y, o, z, hux, hU2, by rw [HK.out], HSA3.out, HLN, by show _ ∧ _; have := HLE.out; simp at this ⊢; omega, own6, hb6⟩
      case measure => have := HU2.out; simp only [lenV] at *; omega

end Go.Proofs.Ytkpeabbilcmabaa
