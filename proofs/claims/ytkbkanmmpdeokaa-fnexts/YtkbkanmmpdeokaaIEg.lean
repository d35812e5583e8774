/- Extents, program's side: putInOrder. -/
import Derived.Test.YtkbkanmmpdeokaaRows
import Derived.Test.YtkbkanmmpdeokaaIEf
import Derived.Test.YtkbkanmmpdeokaaPjN
import Derived.Test.YtkbkanmmpdeokaaQuL
namespace Go.Proofs.Ytkbkanmmpdeokaa
open Go.RowKit Go.Sort

theorem insertEx_any (w : World) (base : Nat) (v : Value) (l : List Ex) (i vb : Nat) (x : Ex) (hr : ExRow w base v l) (hi : i ≤ l.length) (hl : l.length ≤ 1048576)
    (hvb : ∀ g, v.ownBlock = some g → vb ≠ g) (hvh : w.heap[vb]? = some (.cells #[.int .i64 x.p, .int .i64 x.b, .int .i64 x.n] 58 (0, 0))) (hb : base ≤ w.heap.size) :
    Calls Try.prog 57 #[v, .int .i64 i, .slice (some ⟨vb, 0, none⟩) 1 1] w fun e w' => ∃ u, e = .returned u ∧ ExRow w' base u (l.take i ++ x :: l.drop i) ∧ Below base w w' := by
  have hx : ExsAt w (.slice (some ⟨vb, 0, none⟩) 1 1) [x] := by
    refine ⟨_, _, rfl, ⟨fun h => (by cases h), by simp⟩, fun t ht => ⟨vb, 0, rfl, lt_of_block hvh, ?_⟩⟩
    obtain rfl : t = 0 := by simpa using ht
    refine ⟨?_, ?_, ?_⟩ <;> simp [World.cell?, hvh]
  by_cases he : i = l.length
  · subst he
    rw [List.take_length, List.drop_length]
    obtain ⟨sa, sc, rfl, -⟩ := hr.at
    exact insEnd w base _ sc vb sa l x rfl hl hr hx hb
  · rcases hr.2 with ⟨e, h0⟩ | ⟨g, c, cur, rfl, hg, hh, hnc, -⟩
    · omega
    · have hne := hvb g rfl
      by_cases hc : l.length + 1 ≤ c
      · exact insMid w base g _ c i vb l x rfl hl (by omega) hc hr hne hvh
      · obtain rfl : c = l.length := by omega
        exact insGrow w base g _ i vb l x rfl hl (by omega) hr hvh

theorem enters_pi : ∀ args w, (callFunc 56 args).run Try.prog w = .ok (.enter 56 args) w := Go.Proofs.enters_of Try.func56 (by kernel_rfl) rfl

set_option maxRecDepth 100000 in
set_option maxHeartbeats 1000000 in
theorem putIn1_any (y x : Ex) (Bf Bx : Nat) (w : World) (hBf : Bf < w.heap.size) (hBx : Bx < w.heap.size) (hf0 : w.cell? ⟨Bf, 0, none⟩ = some (.func (.func 38) #[] #[])) (hcx : CellsEx w Bx 0 x) :
    Calls Try.prog 56 #[.agg #[.int .i64 y.p, .int .i64 y.b, .int .i64 y.n], .pointer (some ⟨Bf, 0, none⟩), .pointer (some ⟨Bx, 0, none⟩)] w fun e w' => e = .returned (.bool (decide (x.p < y.p))) ∧ Below w.heap.size w w' := by
  have hA := fun w' => iAhead x y w'
  generalize decide (x.p < y.p) = r at hA ⊢
  obtain ⟨y0, y1, y2⟩ := y
  obtain ⟨x0, x1, x2⟩ := x
  dsimp only at *
  have hb := below_lit w (.cells #[.int .i64 y0, .int .i64 y1, .int .i64 y2] 58)
  obtain ⟨m0, m1, m2⟩ := ex_box w y0 y1 y2
  have f0 := (hb.cell (p := ⟨Bf, 0, none⟩) hBf).trans hf0
  obtain ⟨c0, c1, c2⟩ := hcx.below hBx hb
  dsimp only at c0 c1 c2
  rw [Nat.zero_add] at c1 c2
  go_enter Try.func56, Try.ntmps56
  go_wp2_with (first | (go_at_fn 38; refine (hA _).mono ?_; rintro e w2 ⟨rfl, b2⟩) | (go_at_call 38; refine (hA _).mono ?_; rintro e w2 ⟨rfl, b2⟩))
  go_ret
  exact ⟨rfl, hb.trans (b2.mono hb.size)⟩

theorem joinUp_len (R : List Ex) : ∀ k, (joinUp R k).length ≤ k
  | 0 => Nat.le_refl _
  | k + 1 => by
    have := joinUp_len R k
    show (joinStep (joinUp R k) R[k]!).length ≤ k + 1
    unfold joinStep
    split
    · rw [List.length_set]; omega
    · simp; omega

set_option maxRecDepth 100000 in
set_option maxHeartbeats 4000000 in
theorem iPutInOrder (v : Value) (l : List Ex) (x : Ex) (w : World) (hl : l.length ≤ 12) (hv : ExsAt w v l) (hR : InR (insN l x)) :
    Calls Try.prog 37 #[v, .agg #[.int .i64 x.p, .int .i64 x.b, .int .i64 x.n], .func (.func 38) #[] #[], .func (.func 39) #[] #[], .func (.func 40) #[] #[]] w
      fun e w' => ∃ u, e = .returned u ∧ ExRow w' w.heap.size u (joinUp (insN l x) (insN l x).length) ∧ Below w.heap.size w w' := by
  have hva := hv
  obtain ⟨a, ca, rfl, -, -⟩ := hva
  obtain ⟨x0, x1, x2⟩ := x
  dsimp only at *
  go_enter Try.func37, Try.ntmps37
  go_wp2_with fail
  obtain ⟨W0, HW0⟩ : ∃ W0, W0 = (w.alloc (.cells #[.int .i64 x0, .int .i64 x1, .int .i64 x2] 58)).alloc (.cells #[.func (.func 38) #[] #[]] 60) := ⟨_, rfl⟩
  have hb0 : Below w.heap.size w W0 := by rw [HW0]; exact (below_lit w _).alloc (by simp) _
  have hx0 : CellsEx W0 w.heap.size 0 ⟨x0, x1, x2⟩ := by rw [HW0]; exact (ex_new w x0 x1 x2).below (by simp) (below_lit _ _)
  have hf0 : W0.cell? ⟨w.heap.size + 1, 0, none⟩ = some (.func (.func 38) #[] #[]) := by rw [HW0]; simp
  have hs0 : W0.heap.size = w.heap.size + 1 + 1 := by rw [HW0]; simp
  rw [← HW0]
  clear HW0
  have HF := firstEx_any 56 #[.pointer (some ⟨w.heap.size + 1, 0, none⟩), .pointer (some ⟨w.heap.size, 0, none⟩)] (fun y => decide (x0 < y.p)) (.slice a l.length ca) l W0 (hv.below hb0) (by omega) enters_pi fun t ht W bW => putIn1_any l[t]! ⟨x0, x1, x2⟩ (w.heap.size + 1) w.heap.size W (by have := bW.size; rw [hs0] at this; omega) (by have := bW.size; rw [hs0] at this; omega) ((bW.cell (p := ⟨w.heap.size + 1, 0, none⟩) (by show w.heap.size + 1 < W0.heap.size; omega)).trans hf0) (hx0.below (by omega) bW)
  refine HF.mono ?_
  rintro e w1 ⟨rfl, b1⟩
  have B1 := hb0.trans (b1.mono hb0.size)
  have hx1 := hx0.below (by omega) b1
  have hz1 : w.heap.size + 1 + 1 ≤ w1.heap.size := by have := b1.size; omega
  have HC := fun w' (b : Below w.heap.size w w') => cloneEx_any (.slice a l.length ca) l w' (hv.below b) (by omega)
  have hat : l.findIdx (fun y => decide (x0 < y.p)) = insAt l ⟨x0, x1, x2⟩ := rfl
  have hle := insAt_le l ⟨x0, x1, x2⟩
  rw [hat]
  have HIN : Hid (insN l ⟨x0, x1, x2⟩ = l.take (insAt l ⟨x0, x1, x2⟩) ++ ⟨x0, x1, x2⟩ :: l.drop (insAt l ⟨x0, x1, x2⟩)) := rfl
  generalize insAt l ⟨x0, x1, x2⟩ = at0 at HIN hle ⊢
  obtain ⟨c0, c1, c2⟩ := hx1
  dsimp only at c0 c1 c2
  rw [Nat.zero_add] at c1 c2
  clear HF hat hf0 hx0 hb0 hs0
  have B1d : Below w.heap.size w w1.drew := B1.drew
  have B1a : Below w.heap.size w (w1.drew.alloc (.cells #[.int .i64 x0, .int .i64 x1, .int .i64 x2] 58)) := B1.drew.alloc (by show w.heap.size ≤ w1.heap.size; omega) _
  have hw1 : w.heap.size < w1.heap.size := by omega
  have hnew1 : w1.heap.size ≠ w.heap.size := by omega
  clear b1
  go_upto_region 3 with fail
  go_region_held3 (fun w' => w'.cell? ⟨w.heap.size, 0, none⟩ = some (.int .i64 x0) ∧ w'.cell? ⟨w.heap.size, 1, none⟩ = some (.int .i64 x1) ∧ w'.cell? ⟨w.heap.size, 2, none⟩ = some (.int .i64 x2)) (go_keep)
    (first
      | (go_at_call 36; refine (HC _ (by first | exact B1d | exact B1a)).mono ?_; rintro e w2 ⟨u, rfl, r2, b2⟩; obtain ⟨sa, sc, hu, -⟩ := r2.at; subst hu; have b2' : Below w1.heap.size w1 w2 := (by first | exact ((Below.refl _ w1).drew).trans b2 | exact (((Below.refl _ w1).drew).alloc (Nat.le_refl _) _).trans (b2.mono (by simp))); have k0 := (b2'.cell (p := ⟨w.heap.size, 0, none⟩) hw1).trans c0; have k1 := (b2'.cell (p := ⟨w.heap.size, 1, none⟩) hw1).trans c1; have k2 := (b2'.cell (p := ⟨w.heap.size, 2, none⟩) hw1).trans c2)
      | (go_at_call 57; refine (insertEx_any _ w1.heap.size _ l at0 _ ⟨x0, x1, x2⟩ (by first | exact World.ownsRow.alloc r2 _ | exact World.ownsRow.mono r2 (by simp)) hle (by omega) (by first | (intro g hg; have := (World.ownsRow.lt r2 g hg).2; omega) | (intro g hg; have := (World.ownsRow.lt r2 g hg).1; simp at this; omega)) (by first | exact Array.getElem?_push_size | exact (b2.block w1.heap.size (by simp)).trans Array.getElem?_push_size) (by have := b2'.size; first | omega | (simp; omega))).mono ?_; rintro e w5 ⟨u5, rfl, r5, b5⟩; have B5 : Below w1.heap.size w1 w5 := (by first | exact b2'.trans b5 | exact (b2'.alloc b2'.size _).trans b5); have z0 := (B5.cell (p := ⟨w.heap.size, 0, none⟩) hw1).trans c0; have z1 := (B5.cell (p := ⟨w.heap.size, 1, none⟩) hw1).trans c1; have z2 := (B5.cell (p := ⟨w.heap.size, 2, none⟩) hw1).trans c2; rw [← HIN.out] at r5; obtain ⟨ra, rc, hu5, -⟩ := id r5.at; subst hu5))
  all_goals
    have B5w : Below w.heap.size w w5 := B1.trans (B5.mono (by omega))
    clear b5 B5 b2 b2' r2 k0 k1 k2 z0 z1 z2 c0 c1 c2 HC HIN B1d B1a B1
    have HO : Hid (∀ k, k ≤ (insN l ⟨x0, x1, x2⟩).length → ∀ r ∈ joinUp (insN l ⟨x0, x1, x2⟩) k, ExOne r) := fun k hk r hr => (joinUp_is hR k hk).one r hr
    have HY : Hid (∀ k, k < (insN l ⟨x0, x1, x2⟩).length → ExOne (insN l ⟨x0, x1, x2⟩)[k]!) := fun k hk => hR.one _ (by rw [getElem!_pos _ k hk]; exact List.getElem_mem hk)
    have HST : Hid (∀ k, joinUp (insN l ⟨x0, x1, x2⟩) (k + 1) = joinStep (joinUp (insN l ⟨x0, x1, x2⟩) k) (insN l ⟨x0, x1, x2⟩)[k]!) := fun k => rfl
    have hlR : (insN l ⟨x0, x1, x2⟩).length ≤ 13 := by unfold insN; simp; omega
    have HLN := joinUp_len (insN l ⟨x0, x1, x2⟩)
    have H0 : joinUp (insN l ⟨x0, x1, x2⟩) 0 = [] := rfl
    have hva := r5.at
    obtain ⟨R, HR⟩ : ∃ R, Hid (R = insN l ⟨x0, x1, x2⟩) := ⟨_, rfl⟩
    rw [← HR.out] at HO HY HST hlR HLN H0 hva ⊢
    clear hR
    obtain ⟨_, _, e9, -, hva⟩ := hva
    cases e9
    obtain ⟨m, HM⟩ : ∃ m, Hid (m = R.length) := ⟨_, rfl⟩
    rw [← HM.out] at HO HY hlR hva ⊢
    clear r5
    go_wp2_with fail
    go_loopw [12, 26] (fun ov iv wr => ∃ k : Nat, k ≤ m ∧ iv = .int .i64 k ∧ ExRow wr w5.heap.size ov (joinUp R k) ∧ Below w5.heap.size w5 wr) (fun _ iv _ => m - (intOf iv).toNat)
    case atStart => exact ⟨0, Nat.zero_le _, rfl, by rw [H0]; exact World.ownsRow_nil _ _ _ _, Below.refl _ _⟩
    case round =>
      obtain ⟨k, hk, rfl, hrow, hbel⟩ := hrel
      by_cases hlt : k < m
      · have hltz : (k : Int) < (m : Int) := by omega
        have hk0 : (0 : Int) ≤ (k : Int) := by omega
        obtain ⟨b1, o1, rfl, hb1, hc1⟩ := hva k hlt
        obtain ⟨g0, g1, g2⟩ := hc1.below hb1 hbel
        have HYk : Hid _ := HY.out k hlt
        have HOk : Hid _ := HO.out k hk
        have HSk : Hid _ := HST.out k
        have hlk := HLN k
        have hWs := hbel.size
        clear HY HO HST HLN H0 hva hc1
        generalize joinUp R k = o at *
        generalize R[k]! = y at *
        obtain ⟨y0, y1, y2⟩ := y
        dsimp only at g0 g1 g2
        obtain ⟨d0, d1, d2⟩ := ex_box wr y0 y1 y2
        have hbw := below_lit wr (.cells #[.int .i64 y0, .int .i64 y1, .int .i64 y2] 58)
        have rowW := World.ownsRow.alloc hrow (.cells #[.int .i64 y0, .int .i64 y1, .int .i64 y2] 58)
        have hWz : wr.heap.size < (wr.alloc (.cells #[.int .i64 y0, .int .i64 y1, .int .i64 y2] 58)).heap.size := by simp
        have hbW := hbel.alloc hWs (.cells #[.int .i64 y0, .int .i64 y1, .int .i64 y2] 58)
        rcases List.eq_nil_or_concat o with rfl | ⟨o', r, rfl⟩
        · obtain ⟨sa', sc', rfl, -⟩ := id hrow.at
          rw [step_nil] at HSk
          go_upto_region 7 with fail
          generalize wr.alloc (.cells #[.int .i64 y0, .int .i64 y1, .int .i64 y2] 58) = W at *
          refine wp_region_quiet_below (by kernel_rfl) (by kernel_rfl) ?_
          repeat (go_big_quiet_step (fail))
          refine wpQuiet_nil ?_
          rintro w' ⟨⟨dq, osq⟩, rfl⟩
          have hbq := below_regrown W dq osq
          have rowV := ExRow.below rowW hbq
          have hbV := hbW.trans (hbq.mono hbW.size)
          have e0 := (hbq.cell (p := ⟨wr.heap.size, 0, none⟩) hWz).trans d0
          have e1 := (hbq.cell (p := ⟨wr.heap.size, 1, none⟩) hWz).trans d1
          have e2 := (hbq.cell (p := ⟨wr.heap.size, 2, none⟩) hWz).trans d2
          generalize grow (redrawn W dq) osq = V at rowV hbV e0 e1 e2 ⊢
          clear hbq rowW d0 d1 d2 hrow hbw
          have B9 : w5.heap.size ≤ V.heap.size := hbV.size
          have hxs := one_Ex V ⟨y0, y1, y2⟩
          go_wp2_with (at_builtin; refine append_Exs _ rfl (.tmp 54) (.tmp 56) rfl w5.heap.size _ _ [] [⟨y0, y1, y2⟩] (by simp <;> omega) (World.ownsRow.alloc rowV _) hxs rfl rfl (by rw [alloc_size]; omega) ?_; intro v9 w9 row9 b9)
          have hb9 := (hbV.alloc B9 _).trans b9
          go_roundw
          case rel => exact ⟨k + 1, by omega, by go_num, by rw [HSk.out]; exact row9, hb9⟩
          case measure => simp [intOf]; omega
        · rw [List.concat_eq_append] at *
          rw [step_snoc] at HSk
          rcases hrow.2 with ⟨_, h0⟩ | ⟨g, sc', _, rfl, hgb, -⟩
          · simp at h0
          have hlen : (o' ++ [r]).length = o'.length + 1 := by simp
          have hce : CellsEx wr g (o'.length * 3) r := by
            obtain ⟨_, _, e8, -, hcl⟩ := hrow.at
            obtain ⟨b2, o2', e9, hb2, hce⟩ := hcl o'.length (by simp)
            cases e8
            cases e9
            have hget : (o' ++ [r])[o'.length]! = r := by rw [getElem!_pos _ _ (by simp)]; simp
            rwa [hget, Nat.zero_add] at hce
          have hgw := (World.ownsRow.lt hrow g rfl).2
          have hone := HOk.out r (by simp)
          obtain ⟨p0, p1, p2⟩ := hce.below hgw hbw
          have HV := fun w' => iGoesOn ⟨y0, y1, y2⟩ r w' hone
          have HJ := fun w' => iJoined r ⟨y0, y1, y2⟩ w' (by have := hone; unfold ExOne at this; omega) (by have := HYk.out; unfold ExOne at this; dsimp only at this ⊢; omega)
          have hset : ∀ e, (o' ++ [r]).set o'.length e = o' ++ [e] := fun e => by rw [List.set_append_right _ _ (Nat.le_refl _)]; simp
          have rowV' : ∀ V : World, Below W0.heap.size W0 W0 → ExRow V w5.heap.size (.slice (some ⟨g, 0, none⟩) (o' ++ [r]).length sc') (o' ++ [r]) → V.ownsRow w5.heap.size 58 3 (.slice (some ⟨g, 0, none⟩) (o'.length + 1) sc') (o'.length + 1) (flatEx (o' ++ [r])) := fun V _ h => by unfold ExRow at h; rwa [hlen] at h
          have rowX := rowV' _ (Below.refl _ _) rowW
          have HPUT : Hid (∀ V : World, V.ownsRow w5.heap.size 58 3 (.slice (some ⟨g, 0, none⟩) (o'.length + 1) sc') (o'.length + 1) (flatEx (o' ++ [r])) → ∀ e : Ex, ExRow (((V.setCell ⟨g, o'.length * 3, none⟩ (.int .i64 e.p)).setCell ⟨g, o'.length * 3 + 1, none⟩ (.int .i64 e.b)).setCell ⟨g, o'.length * 3 + 2, none⟩ (.int .i64 e.n)) w5.heap.size (.slice (some ⟨g, 0, none⟩) (o'.length + 1) sc') (o' ++ [e])) := fun V h e => by
            have := rowEx_put h o'.length (by simp) e
            rw [hset] at this
            unfold ExRow
            simpa using this
          obtain ⟨r0, r1, r2'⟩ := r
          have hgon : goB ⟨r0, r1, r2'⟩ ⟨y0, y1, y2⟩ = gonB ⟨r0, r1, r2'⟩ ⟨y0, y1, y2⟩ := rfl
          rw [hgon] at HV
          dsimp only at p0 p1 p2 HV HJ
          rw [hlen] at hlk ⊢
          have hlz : IntKind.i64.wrap (((o'.length + 1 : Nat) : Int) - 1) = (o'.length : Int) := by rw [IntKind.wrap_i64]; omega
          have hlz2 : IntKind.i64.wrap ((o'.length : Int) + 1 - 1) = (o'.length : Int) := by rw [IntKind.wrap_i64]; omega
          have hge : (o'.length : Int) ≥ 0 := by omega
          have hl0 : (0 : Int) ≤ (o'.length : Int) := by omega
          have hl1 : (o'.length : Int) < ((o'.length + 1 : Nat) : Int) := by omega
          have hl2 : (o'.length : Int) < (o'.length : Int) + 1 := by omega
          have hjoin : joinE ⟨r0, r1, r2'⟩ ⟨y0, y1, y2⟩ = ⟨r0, r1, r2' + y2⟩ := rfl
          rw [hjoin] at HSk
          generalize gonB ⟨r0, r1, r2'⟩ ⟨y0, y1, y2⟩ = gg at *
          clear hrow rowW hset rowV' hgon hjoin hce HOk hone hlen
          go_upto_region 7 with fail
          generalize wr.alloc (.cells #[.int .i64 y0, .int .i64 y1, .int .i64 y2] 58) = W at *
          have q0 := cell_regrown d0
          have q1 := cell_regrown d1
          have q2 := cell_regrown d2
          have s0 := cell_regrown p0
          have s1 := cell_regrown p1
          have s2 := cell_regrown p2
          have VE := fun dd os => (HV (grow (redrawn W dd) os)).regrown_of
          refine wp_region_quiet_below (by kernel_rfl) (by kernel_rfl) ?_
          repeat (go_big_quiet_step (first | with_reducible exact VE _ _))
          refine wpQuiet_nil ?_
          rintro w' ⟨⟨dq, osq⟩, rfl⟩
          have hbq := below_regrown W dq osq
          have rowV := ownEx_below rowX hbq
          have hbV := hbW.trans (hbq.mono hbW.size)
          have e0 := (hbq.cell (p := ⟨wr.heap.size, 0, none⟩) hWz).trans d0
          have e1 := (hbq.cell (p := ⟨wr.heap.size, 1, none⟩) hWz).trans d1
          have e2 := (hbq.cell (p := ⟨wr.heap.size, 2, none⟩) hWz).trans d2
          have hVz : wr.heap.size < (grow (redrawn W dq) osq).heap.size := Nat.lt_of_lt_of_le hWz hbq.size
          have hgV : g < (grow (redrawn W dq) osq).heap.size := by omega
          have f0 := (hbq.cell (p := ⟨g, o'.length * 3, none⟩) (Nat.lt_trans hgw hWz)).trans p0
          have f1 := (hbq.cell (p := ⟨g, o'.length * 3 + 1, none⟩) (Nat.lt_trans hgw hWz)).trans p1
          have f2 := (hbq.cell (p := ⟨g, o'.length * 3 + 2, none⟩) (Nat.lt_trans hgw hWz)).trans p2
          generalize grow (redrawn W dq) osq = V at *
          clear hbq d0 d1 d2 hbw q0 q1 q2 s0 s1 s2 p0 p1 p2 VE HV rowX
          cases gg
          · rw [if_neg (by decide)] at HSk
            clear HJ HPUT
            have rowV : ExRow V w5.heap.size (.slice (some ⟨g, 0, none⟩) (o'.length + 1) sc') (o' ++ [⟨r0, r1, r2'⟩]) := by unfold ExRow; simpa using rowV
            have B9 : w5.heap.size ≤ V.heap.size := hbV.size
            have hxs := one_Ex V ⟨y0, y1, y2⟩
            go_wp2_with (at_builtin; refine append_Exs _ rfl (.tmp 54) (.tmp 56) rfl w5.heap.size _ _ (o' ++ [(⟨r0, r1, r2'⟩ : Ex)]) [(⟨y0, y1, y2⟩ : Ex)] (by simp <;> omega) (World.ownsRow.alloc rowV _) hxs rfl rfl (by rw [alloc_size]; omega) ?_; intro v9 w9 row9 b9)
            have hb9 := (hbV.alloc B9 _).trans b9
            go_roundw
            case rel => exact ⟨k + 1, by omega, by go_num, by rw [HSk.out]; exact row9, hb9⟩
            case measure => simp [intOf]; omega
          · rw [if_pos rfl] at HSk
            have q0 := cell_regrown e0
            have q1 := cell_regrown e1
            have q2 := cell_regrown e2
            have s0 := cell_regrown f0
            have s1 := cell_regrown f1
            have s2 := cell_regrown f2
            have VJ := fun dd os => (HJ (grow (redrawn V dd) os)).regrown_of
            go_upto_region 8 with fail
            refine wp_region_quiet_store (by kernel_rfl) (by simp) (by kernel_rfl) (by kernel_rfl) (by kernel_rfl) (by kernel_rfl) (by kernel_rfl) rfl ?_
            simp only [List.dropLast, List.getLast]
            repeat (go_big_quiet_step (first | with_reducible exact VJ _ _))
            refine wpQuiet_nil ?_
            rintro w' ⟨⟨dq2, osq2⟩, rfl⟩
            have hbq := below_regrown V dq2 osq2
            have rowU := ownEx_below rowV hbq
            have hbU := hbV.trans (hbq.mono hbV.size)
            generalize grow (redrawn V dq2) osq2 = U at rowU hbU ⊢
            clear hbq q0 q1 q2 s0 s1 s2 e0 e1 e2 f0 f1 f2 VJ HJ rowV
            obtain ⟨⟨u0, t0⟩, v0⟩ := rowEx_cells rowU (o'.length * 3) (by omega)
            obtain ⟨⟨u1, t1⟩, v1⟩ := rowEx_cells rowU (o'.length * 3 + 1) (by omega)
            obtain ⟨⟨u2, t2⟩, v2⟩ := rowEx_cells rowU (o'.length * 3 + 2) (by omega)
            have hF := HPUT.out U rowU ⟨r0, r1, r2' + y2⟩
            have hbF := ((hbU.setCell (p := ⟨g, o'.length * 3, none⟩) hgb (.int .i64 r0)).setCell (p := ⟨g, o'.length * 3 + 1, none⟩) hgb (.int .i64 r1)).setCell (p := ⟨g, o'.length * 3 + 2, none⟩) hgb (.int .i64 (r2' + y2))
            have HF : Hid _ := hF
            clear hF HPUT
            go_wp2
            go_roundw
            case rel => exact ⟨k + 1, by omega, by go_num, by rw [HSk.out]; exact HF.out, hbF⟩
            case measure => simp [intOf]; omega
      · obtain rfl : k = m := by omega
        have hltz : ¬ (k : Int) < (k : Int) := by omega
        go_wp2
        go_ret
        exact ⟨_, rfl, by rw [← HR.out, ← HM.out]; exact hrow.mono B5w.size, B5w.trans (hbel.mono B5w.size)⟩
end Go.Proofs.Ytkbkanmmpdeokaa
