/- Extents, program's side: CutAt. -/
import Derived.Test.YtkbkanmmpdeokaaRows
import Derived.Test.YtkbkanmmpdeokaaIEi
import Derived.Test.YtkbkanmmpdeokaaIEc
import Derived.Test.YtkbkanmmpdeokaaApH
import Derived.Test.YtkbkanmmpdeokaaExF
namespace Go.Proofs.Ytkbkanmmpdeokaa
open Go.RowKit Go.Sort

theorem own_kept {w w' : World} {base size n : Nat} {e : TypeId} {v : Value} {xs : List Value} {o : Option Nat} (h : w.ownsRow base e size v n xs) (g : w.grownBy w' o) (hd : ∀ k, v.ownBlock = some k → o ≠ some k) : w'.ownsRow base e size v n xs :=
  ⟨h.1, by
    rcases h.2 with h0 | ⟨q, cap, cur, e1, hg, hh, r⟩
    · exact .inl h0
    · exact .inr ⟨q, cap, cur, e1, hg, (g.block q (lt_of_block hh) fun e2 => hd q (by rw [e1]; rfl) e2.symm).trans hh, r⟩⟩
/-- rows of two types share no block -/
theorem apart_ei {w : World} {b b' : Nat} {x0 x1 : Value} {L : List Ex} {G : List Int} (h0 : ExRow w b x0 L) (h1 : IntRow w b' x1 G) : ∀ k, x0.ownBlock = some k → x1.ownBlock ≠ some k := by
  intro k e0 e1
  rcases h0.2 with ⟨e, _⟩ | ⟨g, cap, cur, e, hg, hh, r⟩
  · rw [e] at e0; cases e0
  rcases h1.2 with ⟨e', _⟩ | ⟨g', cap', cur', e', hg', hh', r'⟩
  · rw [e'] at e1; cases e1
  rw [e] at e0; rw [e'] at e1
  cases e0; cases e1
  rw [hh] at hh'
  injection hh' with h
  injection h with _ h2 _
  exact absurd h2 (by decide)

theorem box_new (W : World) (A : Obj) (C : Array Value) : ((W.alloc A).alloc (.cells C 58)).heap[W.heap.size + 1]? = some (.cells C 58 (0, 0)) := by
  have := Array.getElem?_push_size (xs := (W.alloc A).heap) (x := Obj.cells C 58)
  rw [alloc_size] at this
  exact this
theorem box_kept {w w' : World} {b gb : Nat} {gv : Value} {G : List Int} {C : Array Value} (h : w.heap[gb]? = some (.cells C 58 (0, 0))) (hi : IntRow w b gv G) (g : w.grownBy w' gv.ownBlock) : w'.heap[gb]? = some (.cells C 58 (0, 0)) := by
  refine (g.block gb (lt_of_block h) fun e => ?_).trans h
  rcases hi.2 with ⟨e', _⟩ | ⟨g', cap', cur', e', hg', hh', r'⟩
  · rw [e'] at e; cases e
  · rw [e'] at e
    cases e
    rw [h] at hh'
    injection hh' with h1
    injection h1 with _ h2 _
    exact absurd h2 (by decide)

set_option maxRecDepth 100000 in
set_option maxHeartbeats 4000000 in
theorem iCutAt (v : Value) (l : List Ex) (n : Int) (w : World) (hl : l.length ≤ 1048576) (hv : ExsAt w v l) :
    Calls Try.prog 19 #[v, .int .i64 n] w fun e w' => SaysCt w (cutN l n) (goneE l n) e w' := by
  have HT := iExtsOk v l w hl hv
  by_cases h : ExR l
  · rw [okE_yes h] at HT
    have h12 := h.len
    have HO : Hid (∀ k, k < l.length → ExOne l[k]!) := fun k hk => h.one _ (by rw [getElem!_pos l k hk]; exact List.getElem_mem hk)
    have HS : Hid (∀ k, k < l.length → ∀ w', Calls Try.prog 48 #[.agg #[.int .i64 l[k]!.p, .int .i64 l[k]!.b, .int .i64 l[k]!.n], .int .i64 n] w' fun e w'' => e = .returned (.tuple #[.agg #[.int .i64 l[k]!.p, .int .i64 l[k]!.b, .int .i64 (stN l[k]! n)], .agg #[.int .i64 (l[k]!.p + stN l[k]! n), .int .i64 (l[k]!.b + stN l[k]! n), .int .i64 (l[k]!.n - stN l[k]! n)]]) ∧ Below w'.heap.size w' w'') := fun k hk w' => iSplitAt _ n w' (HO.out k hk)
    have H1 : Hid (∀ k, k < l.length → keptN (l.take (k + 1)) n = keptN (l.take k) n ++ keptE l[k]! n) := fun k hk => kept_step l n k hk
    have H2 : Hid (∀ k, k < l.length → goesN (l.take (k + 1)) n = goesN (l.take k) n ++ goesE l[k]! n) := fun k hk => goes_step l n k hk
    have HE : Hid (cutN l n = keptN (l.take l.length) n ∧ goneE l n = goesN (l.take l.length) n) := by
      show _ ∧ _
      rw [List.take_length]; exact ⟨cut_kept h n, gone_goes h n⟩
    have HKL : Hid (∀ k, k ≤ l.length → (keptN (l.take k) n).length ≤ 12) := fun k hk => by have := kept_len (l.take k) n; rw [List.length_take] at this; omega
    have HGL : Hid (∀ k, k ≤ l.length → (goesN (l.take k) n).length ≤ 300) := fun k hk => by
      rw [← gone_goes (h.take k)]; have := goneE_len (l.take k) n; omega
    have H0 : Hid (keptN (l.take 0) n = [] ∧ goesN (l.take 0) n = []) := ⟨rfl, rfl⟩
    generalize cutN l n = L at HE ⊢
    generalize goneE l n = G at HE ⊢
    obtain ⟨a, ca, rfl, -, hva⟩ := hv
    go_enter Try.func19, Try.ntmps19
    go_wp2_with (go_at_call 22; refine HT.mono ?_; rintro e w1 ⟨rfl, b1⟩)
    go_loopw [6, 7, 18] (fun kv gv iv wr => ∃ k : Nat, k ≤ l.length ∧ iv = .int .i64 k ∧ ExRow wr w1.heap.size kv (keptN (l.take k) n) ∧ IntRow wr w1.heap.size gv (goesN (l.take k) n) ∧ Below w1.heap.size w1 wr) (fun _ _ iv _ => l.length - (intOf iv).toNat)
    case atStart => exact ⟨0, Nat.zero_le _, rfl, by rw [H0.out.1]; exact World.ownsRow_nil _ _ _ _, by rw [H0.out.2]; exact World.ownsRow_nil _ _ _ _, Below.refl _ _⟩
    case round =>
      obtain ⟨k, hk, rfl, hrow, hint, hbel⟩ := hrel
      by_cases hlt : k < l.length
      · have hltz : (k : Int) < (l.length : Int) := by omega
        have hk0 : (0 : Int) ≤ (k : Int) := by omega
        obtain ⟨b1', o1, rfl, hb1', hc1⟩ := hva k hlt
        obtain ⟨g0, g1, g2⟩ := (hc1.below hb1' b1).below (Nat.lt_of_lt_of_le hb1' b1.size) hbel
        have hone := HO.out k hlt
        have HSk := HS.out k hlt
        have H1k : Hid _ := H1.out k hlt
        have H2k : Hid (goesN (l.take (k + 1)) n = goesN (l.take k) n ++ (List.range (l[k]!.n - stN l[k]! n).toNat).map fun q : Nat => l[k]!.b + stN l[k]! n + (q : Int)) := H2.out k hlt
        have hkE : keptE l[k]! n = if 0 < stN l[k]! n then [⟨l[k]!.p, l[k]!.b, stN l[k]! n⟩] else [] := rfl
        rw [hkE] at H1k
        obtain ⟨hs0, hs1⟩ := stN_bd hone.2.1 n
        obtain ⟨q1, q2, q3, q4, q5⟩ := hone
        have hklen := HKL.out k hk
        have hsz := hbel.size
        clear HO HS H1 H2 HE H0 hkE hc1
        generalize stN l[k]! n = s at *
        generalize l[k]! = x at *
        obtain ⟨xp, xb, xn⟩ := x
        dsimp only at *
        have HX := ex_box wr xp xb xn
        obtain ⟨m0, m1, m2⟩ := HX
        have hbx := below_lit wr (.cells #[.int .i64 xp, .int .i64 xb, .int .i64 xn] 58)
        have rowX : ExRow (wr.alloc (.cells #[.int .i64 xp, .int .i64 xb, .int .i64 xn] 58)) w1.heap.size u6 (keptN (l.take k) n) := World.ownsRow.alloc hrow _
        have intX : IntRow (wr.alloc (.cells #[.int .i64 xp, .int .i64 xb, .int .i64 xn] 58)) w1.heap.size u7 (goesN (l.take k) n) := World.ownsRow.alloc hint _
        have hbX := hbel.alloc hsz (.cells #[.int .i64 xp, .int .i64 xb, .int .i64 xn] 58)
        clear hrow hint
        go_upto_region 8 with fail
        generalize wr.alloc (.cells #[.int .i64 xp, .int .i64 xb, .int .i64 xn] 58) = W0 at *
        have HS0 := HSk W0
        clear HSk
        by_cases hs : 0 < s
        · have hsz2 : s > 0 := hs
          rw [if_pos hs] at H1k
          go_wp2_with (first | (go_at_call 48; refine HS0.mono ?_; rintro e W1 ⟨rfl, bW⟩; have row1 := ExRow.below rowX bW; have int1 := IntRow.below intX bW; have hb1 := hbX.trans (bW.mono hbX.size); have hW1 := hb1.size; have row3 : ExRow ((W1.alloc (.cells #[.int .i64 xp, .int .i64 xb, .int .i64 s] 58)).alloc (.cells #[.int .i64 (xp + s), .int .i64 (xb + s), .int .i64 (xn - s)] 58)) w1.heap.size u6 (keptN (l.take k) n) := World.ownsRow.alloc (World.ownsRow.alloc row1 _) _; have int3 : IntRow ((W1.alloc (.cells #[.int .i64 xp, .int .i64 xb, .int .i64 s] 58)).alloc (.cells #[.int .i64 (xp + s), .int .i64 (xb + s), .int .i64 (xn - s)] 58)) w1.heap.size u7 (goesN (l.take k) n) := World.ownsRow.alloc (World.ownsRow.alloc int1 _) _; have hb3 : Below w1.heap.size w1 ((W1.alloc (.cells #[.int .i64 xp, .int .i64 xb, .int .i64 s] 58)).alloc (.cells #[.int .i64 (xp + s), .int .i64 (xb + s), .int .i64 (xn - s)] 58)) := (hb1.alloc hW1 _).alloc (by rw [alloc_size]; omega) _; have hg3 : ((W1.alloc (.cells #[.int .i64 xp, .int .i64 xb, .int .i64 s] 58)).alloc (.cells #[.int .i64 (xp + s), .int .i64 (xb + s), .int .i64 (xn - s)] 58)).heap[W1.heap.size + 1]? = some (.cells #[.int .i64 (xp + s), .int .i64 (xb + s), .int .i64 (xn - s)] 58 (0, 0)) := box_new W1 _ _; have gc2 : ((W1.alloc (.cells #[.int .i64 xp, .int .i64 xb, .int .i64 s] 58)).alloc (.cells #[.int .i64 (xp + s), .int .i64 (xb + s), .int .i64 (xn - s)] 58)).cell? ⟨W1.heap.size + 1, 2, none⟩ = some (.int .i64 (xn - s)) := Joins.cell_of_block hg3 2; have hxs : ExsAt (((W1.alloc (.cells #[.int .i64 xp, .int .i64 xb, .int .i64 s] 58)).alloc (.cells #[.int .i64 (xp + s), .int .i64 (xb + s), .int .i64 (xn - s)] 58)).alloc (.cells #[.int .i64 xp, .int .i64 xb, .int .i64 s] 58)) (.slice (some ⟨W1.heap.size + 1 + 1, 0, none⟩) 1 1) [(⟨xp, xb, s⟩ : Ex)] := (by have := one_Ex ((W1.alloc (.cells #[.int .i64 xp, .int .i64 xb, .int .i64 s] 58)).alloc (.cells #[.int .i64 (xp + s), .int .i64 (xb + s), .int .i64 (xn - s)] 58)) ⟨xp, xb, s⟩; rwa [alloc_size, alloc_size] at this); clear bW HS0) | (at_builtin; refine append_ExsG _ rfl (.tmp 31) (.tmp 33) rfl w1.heap.size _ _ (keptN (l.take k) n) [(⟨xp, xb, s⟩ : Ex)] (by simp; omega) (World.ownsRow.alloc row3 _) hxs rfl rfl (by rw [alloc_size, alloc_size, alloc_size]; omega) ?_; intro v9 w9 row9 g9; have hg4 : (((W1.alloc (.cells #[.int .i64 xp, .int .i64 xb, .int .i64 s] 58)).alloc (.cells #[.int .i64 (xp + s), .int .i64 (xb + s), .int .i64 (xn - s)] 58)).alloc (.cells #[.int .i64 xp, .int .i64 xb, .int .i64 s] 58)).heap[W1.heap.size + 1]? = some (.cells #[.int .i64 (xp + s), .int .i64 (xb + s), .int .i64 (xn - s)] 58 (0, 0)) := (Below.heap_alloc _ _ _ (by rw [alloc_size, alloc_size]; omega)).trans hg3; have hg9 := (g9.block (W1.heap.size + 1) (by rw [alloc_size, alloc_size, alloc_size]; omega) (fun e => by have := (World.ownsRow.lt row1 _ e.symm).2; omega)).trans hg4; have gd2 : w9.cell? ⟨W1.heap.size + 1, 2, none⟩ = some (.int .i64 (xn - s)) := Joins.cell_of_block hg9 2; have int4 : IntRow (((W1.alloc (.cells #[.int .i64 xp, .int .i64 xb, .int .i64 s] 58)).alloc (.cells #[.int .i64 (xp + s), .int .i64 (xb + s), .int .i64 (xn - s)] 58)).alloc (.cells #[.int .i64 xp, .int .i64 xb, .int .i64 s] 58)) w1.heap.size u7 (goesN (l.take k) n) := World.ownsRow.alloc int3 _; have row4 : ExRow (((W1.alloc (.cells #[.int .i64 xp, .int .i64 xb, .int .i64 s] 58)).alloc (.cells #[.int .i64 (xp + s), .int .i64 (xb + s), .int .i64 (xn - s)] 58)).alloc (.cells #[.int .i64 xp, .int .i64 xb, .int .i64 s] 58)) w1.heap.size u6 (keptN (l.take k) n) := World.ownsRow.alloc row3 _; have int9 := own_kept int4 g9 (fun q e1 e2 => apart_ei row4 int4 q e2 e1); have hb9 := (hb3.alloc (by rw [alloc_size, alloc_size]; omega) (.cells #[.int .i64 xp, .int .i64 xb, .int .i64 s] 58)).grown g9 (by rw [alloc_size, alloc_size, alloc_size]; omega) (fun q hq => (World.ownsRow.lt row1 q hq).1); clear hg4 int4 row4 g9 row3 int3 hb3 hg3 gc2 row1 int1 hxs))
          have HG2 : Hid (w9.heap[W1.heap.size + 1]? = some (.cells #[.int .i64 (xp + s), .int .i64 (xb + s), .int .i64 (xn - s)] 58 (0, 0))) := hg9
          have HK5 : Hid (ExRow w9 w1.heap.size v9 (keptN (l.take (k + 1)) n)) := by show ExRow _ _ _ _; rw [H1k.out]; exact row9
          have HI5 : Hid (IntRow w9 w1.heap.size u7 (goesN (l.take k) n)) := int9
          have HB5 : Hid (Below w1.heap.size w1 w9) := hb9
          go_loopw [7, 37] (fun gv iv wi => ∃ j : Nat, (j : Int) ≤ xn - s ∧ iv = .int .i64 j ∧ IntRow wi w1.heap.size gv (goesN (l.take k) n ++ (List.range j).map fun q : Nat => xb + s + q) ∧ Hid (wi.heap[W1.heap.size + 1]? = some (.cells #[.int .i64 (xp + s), .int .i64 (xb + s), .int .i64 (xn - s)] 58 (0, 0))) ∧ ExRow wi w1.heap.size v9 (keptN (l.take (k + 1)) n) ∧ Below w1.heap.size w1 wi) (fun _ iv _ => (xn - s).toNat - (intOf iv).toNat)
          case atStart => exact ⟨0, by omega, rfl, by simpa using HI5.out, HG2.out, HK5.out, HB5.out⟩
          case round =>
            clear HG2 HK5 HI5 HB5 gd2 hg9 row9 int9 hb9
            obtain ⟨j, hj, rfl, introw, HGB, exrow, hbi⟩ := hrel
            by_cases hjl : (j : Int) < xn - s
            · have gc1 : wr.cell? ⟨W1.heap.size + 1, 1, none⟩ = some (.int .i64 (xb + s)) := Joins.cell_of_block HGB.out 1
              have vj : IntKind.i64.wrap (xb + s + (j : Int)) = xb + s + (j : Int) := by rw [IntKind.wrap_i64]; omega
              have HST2 : Hid (goesN (l.take k) n ++ ((List.range (j + 1)).map fun q : Nat => xb + s + (q : Int)) = goesN (l.take k) n ++ ((List.range j).map fun q : Nat => xb + s + (q : Int)) ++ [xb + s + (j : Int)]) := by
                show _ = _
                rw [List.range_succ, List.map_append, List.append_assoc]; rfl
              have hglen := HGL.out k hk
              have hgj : (goesN (l.take k) n ++ ((List.range j).map fun q : Nat => xb + s + (q : Int))).length ≤ 1000 := by simp; omega
              have hnew : (wr.alloc (.cells #[.int .i64 (xb + s + (j : Int))] 3)).cell? ⟨wr.heap.size, 0, none⟩ = some (.int .i64 (xb + s + (j : Int))) := by rw [World.cell?_alloc_mark]; rfl
              have hsz := hbi.size
              have intA : IntRow (wr.alloc (.cells #[.int .i64 (xb + s + (j : Int))] 3)) w1.heap.size u7 (goesN (l.take k) n ++ (List.range j).map fun q : Nat => xb + s + (q : Int)) := World.ownsRow.alloc introw _
              have exA : ExRow (wr.alloc (.cells #[.int .i64 (xb + s + (j : Int))] 3)) w1.heap.size v9 (keptN (l.take (k + 1)) n) := World.ownsRow.alloc exrow _
              have HGA : Hid ((wr.alloc (.cells #[.int .i64 (xb + s + (j : Int))] 3)).heap[W1.heap.size + 1]? = some (.cells #[.int .i64 (xp + s), .int .i64 (xb + s), .int .i64 (xn - s)] 58 (0, 0))) := (Below.heap_alloc _ _ _ (lt_of_block HGB.out)).trans HGB.out
              have hbA := hbi.alloc hsz (.cells #[.int .i64 (xb + s + (j : Int))] 3)
              have hzA : w1.heap.size ≤ (wr.alloc (.cells #[.int .i64 (xb + s + (j : Int))] 3)).heap.size := by rw [alloc_size]; omega
              clear introw exrow HGB
              generalize (goesN (l.take k) n ++ (List.range j).map fun q : Nat => xb + s + (q : Int)) = G0 at *
              go_wp2_with (at_builtin; refine append_intH _ rfl (.tmp 40) (.tmp 45) rfl w1.heap.size _ wr.heap.size 1 G0 (xb + s + (j : Int)) (by omega) intA hnew rfl rfl hzA ?_; intro vx wx rowx gx _)
              have ex9 : Hid (ExRow wx w1.heap.size v9 (keptN (l.take (k + 1)) n)) := own_kept exA gx fun q e1 e2 => apart_ei exA intA q e1 e2
              have HG9 : Hid (wx.heap[W1.heap.size + 1]? = some (.cells #[.int .i64 (xp + s), .int .i64 (xb + s), .int .i64 (xn - s)] 58 (0, 0))) := box_kept HGA.out intA gx
              have hbx9 := hbA.grown gx hzA fun q hq => (World.ownsRow.lt intA q hq).1
              go_roundw
              case rel => exact ⟨j + 1, by omega, by go_num, by rw [HST2.out]; exact rowx, HG9.out, ex9.out, hbx9⟩
              case measure => simp [intOf]; omega
            · have hD : (j : Int) = xn - s := by omega
              have HFIN : Hid (goesN (l.take (k + 1)) n = goesN (l.take k) n ++ (List.range j).map fun q : Nat => xb + s + (q : Int)) := by
                show _ = _
                rw [H2k.out, ← hD, show ((j : Int)).toNat = j by omega]
              rw [← HFIN.out] at introw
              clear HFIN
              go_wp2
              go_roundw
              case rel => exact ⟨k + 1, by omega, by go_num, exrow, introw, hbi⟩
              case measure => simp [intOf]; omega
        · have hsz2 : ¬ s > 0 := hs
          rw [if_neg hs, List.append_nil] at H1k
          go_wp2_with (first | (go_at_call 48; refine HS0.mono ?_; rintro e W1 ⟨rfl, bW⟩; have row1 := ExRow.below rowX bW; have int1 := IntRow.below intX bW; have hb1 := hbX.trans (bW.mono hbX.size); have hW1 := hb1.size; have row3 : ExRow ((W1.alloc (.cells #[.int .i64 xp, .int .i64 xb, .int .i64 s] 58)).alloc (.cells #[.int .i64 (xp + s), .int .i64 (xb + s), .int .i64 (xn - s)] 58)) w1.heap.size u6 (keptN (l.take k) n) := World.ownsRow.alloc (World.ownsRow.alloc row1 _) _; have int3 : IntRow ((W1.alloc (.cells #[.int .i64 xp, .int .i64 xb, .int .i64 s] 58)).alloc (.cells #[.int .i64 (xp + s), .int .i64 (xb + s), .int .i64 (xn - s)] 58)) w1.heap.size u7 (goesN (l.take k) n) := World.ownsRow.alloc (World.ownsRow.alloc int1 _) _; have hb3 : Below w1.heap.size w1 ((W1.alloc (.cells #[.int .i64 xp, .int .i64 xb, .int .i64 s] 58)).alloc (.cells #[.int .i64 (xp + s), .int .i64 (xb + s), .int .i64 (xn - s)] 58)) := (hb1.alloc hW1 _).alloc (by rw [alloc_size]; omega) _; have hg3 : ((W1.alloc (.cells #[.int .i64 xp, .int .i64 xb, .int .i64 s] 58)).alloc (.cells #[.int .i64 (xp + s), .int .i64 (xb + s), .int .i64 (xn - s)] 58)).heap[W1.heap.size + 1]? = some (.cells #[.int .i64 (xp + s), .int .i64 (xb + s), .int .i64 (xn - s)] 58 (0, 0)) := box_new W1 _ _; have gc2 : ((W1.alloc (.cells #[.int .i64 xp, .int .i64 xb, .int .i64 s] 58)).alloc (.cells #[.int .i64 (xp + s), .int .i64 (xb + s), .int .i64 (xn - s)] 58)).cell? ⟨W1.heap.size + 1, 2, none⟩ = some (.int .i64 (xn - s)) := Joins.cell_of_block hg3 2; clear bW HS0))
          have HG2 : Hid (((W1.alloc (.cells #[.int .i64 xp, .int .i64 xb, .int .i64 s] 58)).alloc (.cells #[.int .i64 (xp + s), .int .i64 (xb + s), .int .i64 (xn - s)] 58)).heap[W1.heap.size + 1]? = some (.cells #[.int .i64 (xp + s), .int .i64 (xb + s), .int .i64 (xn - s)] 58 (0, 0))) := hg3
          have HK5 : Hid (ExRow ((W1.alloc (.cells #[.int .i64 xp, .int .i64 xb, .int .i64 s] 58)).alloc (.cells #[.int .i64 (xp + s), .int .i64 (xb + s), .int .i64 (xn - s)] 58)) w1.heap.size u6 (keptN (l.take (k + 1)) n)) := by show ExRow _ _ _ _; rw [H1k.out]; exact row3
          have HI5 : Hid (IntRow ((W1.alloc (.cells #[.int .i64 xp, .int .i64 xb, .int .i64 s] 58)).alloc (.cells #[.int .i64 (xp + s), .int .i64 (xb + s), .int .i64 (xn - s)] 58)) w1.heap.size u7 (goesN (l.take k) n)) := int3
          have HB5 : Hid (Below w1.heap.size w1 ((W1.alloc (.cells #[.int .i64 xp, .int .i64 xb, .int .i64 s] 58)).alloc (.cells #[.int .i64 (xp + s), .int .i64 (xb + s), .int .i64 (xn - s)] 58))) := hb3
          go_loopw [7, 37] (fun gv iv wi => ∃ j : Nat, (j : Int) ≤ xn - s ∧ iv = .int .i64 j ∧ IntRow wi w1.heap.size gv (goesN (l.take k) n ++ (List.range j).map fun q : Nat => xb + s + q) ∧ Hid (wi.heap[W1.heap.size + 1]? = some (.cells #[.int .i64 (xp + s), .int .i64 (xb + s), .int .i64 (xn - s)] 58 (0, 0))) ∧ ExRow wi w1.heap.size u6 (keptN (l.take (k + 1)) n) ∧ Below w1.heap.size w1 wi) (fun _ iv _ => (xn - s).toNat - (intOf iv).toNat)
          case atStart => exact ⟨0, by omega, rfl, by simpa using HI5.out, HG2.out, HK5.out, HB5.out⟩
          case round =>
            clear HG2 HK5 HI5 HB5 gc2 hg3 row3 int3 hb3 row1 int1
            obtain ⟨j, hj, rfl, introw, HGB, exrow, hbi⟩ := hrel
            by_cases hjl : (j : Int) < xn - s
            · have gc1 : wr.cell? ⟨W1.heap.size + 1, 1, none⟩ = some (.int .i64 (xb + s)) := Joins.cell_of_block HGB.out 1
              have vj : IntKind.i64.wrap (xb + s + (j : Int)) = xb + s + (j : Int) := by rw [IntKind.wrap_i64]; omega
              have HST2 : Hid (goesN (l.take k) n ++ ((List.range (j + 1)).map fun q : Nat => xb + s + (q : Int)) = goesN (l.take k) n ++ ((List.range j).map fun q : Nat => xb + s + (q : Int)) ++ [xb + s + (j : Int)]) := by
                show _ = _
                rw [List.range_succ, List.map_append, List.append_assoc]; rfl
              have hglen := HGL.out k hk
              have hgj : (goesN (l.take k) n ++ ((List.range j).map fun q : Nat => xb + s + (q : Int))).length ≤ 1000 := by simp; omega
              have hnew : (wr.alloc (.cells #[.int .i64 (xb + s + (j : Int))] 3)).cell? ⟨wr.heap.size, 0, none⟩ = some (.int .i64 (xb + s + (j : Int))) := by rw [World.cell?_alloc_mark]; rfl
              have hsz := hbi.size
              have intA : IntRow (wr.alloc (.cells #[.int .i64 (xb + s + (j : Int))] 3)) w1.heap.size u7 (goesN (l.take k) n ++ (List.range j).map fun q : Nat => xb + s + (q : Int)) := World.ownsRow.alloc introw _
              have exA : ExRow (wr.alloc (.cells #[.int .i64 (xb + s + (j : Int))] 3)) w1.heap.size u6 (keptN (l.take (k + 1)) n) := World.ownsRow.alloc exrow _
              have HGA : Hid ((wr.alloc (.cells #[.int .i64 (xb + s + (j : Int))] 3)).heap[W1.heap.size + 1]? = some (.cells #[.int .i64 (xp + s), .int .i64 (xb + s), .int .i64 (xn - s)] 58 (0, 0))) := (Below.heap_alloc _ _ _ (lt_of_block HGB.out)).trans HGB.out
              have hbA := hbi.alloc hsz (.cells #[.int .i64 (xb + s + (j : Int))] 3)
              have hzA : w1.heap.size ≤ (wr.alloc (.cells #[.int .i64 (xb + s + (j : Int))] 3)).heap.size := by rw [alloc_size]; omega
              clear introw exrow HGB
              generalize (goesN (l.take k) n ++ (List.range j).map fun q : Nat => xb + s + (q : Int)) = G0 at *
              go_wp2_with (at_builtin; refine append_intH _ rfl (.tmp 40) (.tmp 45) rfl w1.heap.size _ wr.heap.size 1 G0 (xb + s + (j : Int)) (by omega) intA hnew rfl rfl hzA ?_; intro vx wx rowx gx _)
              have ex9 : Hid (ExRow wx w1.heap.size u6 (keptN (l.take (k + 1)) n)) := own_kept exA gx fun q e1 e2 => apart_ei exA intA q e1 e2
              have HG9 : Hid (wx.heap[W1.heap.size + 1]? = some (.cells #[.int .i64 (xp + s), .int .i64 (xb + s), .int .i64 (xn - s)] 58 (0, 0))) := box_kept HGA.out intA gx
              have hbx9 := hbA.grown gx hzA fun q hq => (World.ownsRow.lt intA q hq).1
              go_roundw
              case rel => exact ⟨j + 1, by omega, by go_num, by rw [HST2.out]; exact rowx, HG9.out, ex9.out, hbx9⟩
              case measure => simp [intOf]; omega
            · have hD : (j : Int) = xn - s := by omega
              have HFIN : Hid (goesN (l.take (k + 1)) n = goesN (l.take k) n ++ (List.range j).map fun q : Nat => xb + s + (q : Int)) := by
                show _ = _
                rw [H2k.out, ← hD, show ((j : Int)).toNat = j by omega]
              rw [← HFIN.out] at introw
              clear HFIN
              go_wp2
              go_roundw
              case rel => exact ⟨k + 1, by omega, by go_num, exrow, introw, hbi⟩
              case measure => simp [intOf]; omega
      · obtain rfl : k = l.length := by omega
        have hltz : ¬ (l.length : Int) < (l.length : Int) := by omega
        obtain ⟨E1, E2⟩ := HE.out
        have HF : Hid (ExRow wr w1.heap.size u6 L ∧ IntRow wr w1.heap.size u7 G) := by show _ ∧ _; rw [E1, E2]; exact ⟨hrow, hint⟩
        clear HO HS H1 H2 HE H0 E1 E2 hrow hint
        go_wp2
        exact bodyPost_ret (v := .tuple #[u6, u7]) (by simp [results, Try.results19, go_sem]) rfl ⟨_, _, rfl, HF.out.1.mono b1.size, HF.out.2.mono b1.size, b1.trans (hbel.mono b1.size)⟩
  · have HN : Hid (cutN l n = [] ∧ goneE l n = []) := ⟨by unfold cutN; rw [if_neg h], by unfold goneE; rw [if_neg h]⟩
    rw [okE_no h] at HT
    generalize cutN l n = L at HN ⊢
    generalize goneE l n = G at HN ⊢
    go_enter Try.func19, Try.ntmps19
    go_wp2_with (go_at_call 22; refine HT.mono ?_; rintro e w1 ⟨rfl, b1⟩)
    exact bodyPost_ret (v := .tuple #[.slice none 0 0, .slice none 0 0]) (by simp [results, Try.results19, go_sem]) rfl ⟨_, _, rfl, by rw [HN.out.1]; exact World.ownsRow_nil _ _ _ _, by rw [HN.out.2]; exact World.ownsRow_nil _ _ _ _, b1⟩
end Go.Proofs.Ytkbkanmmpdeokaa
