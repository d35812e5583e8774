/- Blocks, spec: l7Parse. -/
import Derived.Test.YtpijjinoeghgoaaGreatDoorRows
import Derived.Test.YtpijjinoeghgoaaGreatDoorRsE
namespace Go.Proofs.YtpijjinoeghgoaaGreatDoor
open Go.RowKit Go.Sort

set_option maxRecDepth 100000 in
set_option maxHeartbeats 16000000 in
theorem l7Parse_any (l : List UInt8) (w : World) (hl : l.length ≤ 1048576) :
    Calls Tryz.prog 30 #[.string (bA l)] w fun e w' => SaysQ (parS l) w e w' := by
  have B0 := below_lit w (.cells #[.int .i64 0, .int .i64 0, .int .i64 0, .string ⟨#[]⟩, .slice none 0 0] 59)
  have hres0 := (MapKept.heap_alloc w (.cells #[.int .i64 0, .int .i64 0, .int .i64 0, .string ⟨#[]⟩, .slice none 0 0] 59)).1
  have S0 : (w.alloc (.cells #[.int .i64 0, .int .i64 0, .int .i64 0, .string ⟨#[]⟩, .slice none 0 0] 59)).heap.size = w.heap.size + 1 := by simp
  have HV := fun p n w' h0 h1 h2 => l7Vars_any l p n w' hl h0 h1 h2
  have HT := fun p w' h0 h1 => l7Take_any l p w' hl h0 h1
  have eA := vars_end l 3 1 hl (by omega) (by omega)
  have HPA : Hid (parS l = if (varsS l 1 (takS l (varsS l 3 1).2).2).2 < 0 ∨ 12 < (varsS l 1 (takS l (varsS l 3 1).2).2).1[0]! then none else
    (entsS l (varsS l 1 (takS l (varsS l 3 1).2).2).1[0]!.toNat (varsS l 1 (takS l (varsS l 3 1).2).2).2).bind fun e => if e.2 = l.length then some ⟨(varsS l 3 1).1[0]!, (varsS l 3 1).1[1]!, (varsS l 3 1).1[2]!, bA (takS l (varsS l 3 1).2).1, e.1⟩ else none) := rfl
  have HA := HV 1 3 (w.alloc (.cells #[.int .i64 0, .int .i64 0, .int .i64 0, .string ⟨#[]⟩, .slice none 0 0] 59)) (by omega) (by omega) (by omega)
  have eD := tak_end (l := l) (p := (varsS l 3 1).2) hl eA.1 eA.2.1
  have HD := fun w' => HT (varsS l 3 1).2 w' eA.1 eA.2.1
  have eN := vars_end l 1 (takS l (varsS l 3 1).2).2 hl eD.1 (by omega)
  have HN := fun w' => HV (takS l (varsS l 3 1).2).2 1 w' eD.1 (by omega) (by omega)
  have nnD : 0 ≤ (varsS l 1 (takS l (varsS l 3 1).2).2).2 → 0 ≤ (varsS l 3 1).2 := fun h => tak_nn (l := l) (vars_nn (l := l) h)
  have inN := vars_in (l := l) (p := (takS l (varsS l 3 1).2).2)
  have HNONE : Hid (∀ y a n c w', parS l = none → Below w.heap.size w w' → SaysQ (parS l) w (.returned (.tuple #[valI y (.slice a n c), .bool false])) w') := fun y a n c w' h1 h2 => .inr ⟨h1, y, a, n, c, rfl, h2⟩
  have HSOME : Hid (∀ y s w', parS l = some y → EntRow w' w.heap.size s y.ents → Below w.heap.size w w' → SaysQ (parS l) w (.returned (.tuple #[valI y s, .bool true])) w') := fun y s w' h1 h2 h3 => .inl ⟨y, s, h1, rfl, h2, h3⟩
  generalize varsS l 3 1 = A at *
  generalize takS l A.2 = D at *
  generalize varsS l 1 D.2 = N at *
  obtain ⟨A1, A2⟩ := A
  obtain ⟨D1, D2⟩ := D
  obtain ⟨N1, N2⟩ := N
  dsimp only at *
  by_cases hbad : N2 < 0 ∨ 12 < N1[0]!
  · have hnone : Hid (parS l = none) := by show _ = _; rw [HPA.out, if_pos hbad]
    have HZ : Hid (∀ w', Below w.heap.size w w' → SaysQ (parS l) w (.returned (.tuple #[.agg #[.int .i64 0, .int .i64 0, .int .i64 0, .string ⟨#[]⟩, .slice none 0 0], .bool false])) w') := fun w' b => HNONE.out ⟨0, 0, 0, ⟨#[]⟩, []⟩ none 0 0 w' hnone.out b
    clear HPA HSOME HT HV HNONE hnone
    have HN1 : Hid (0 ≤ N2 → ∃ z, N1 = [z] ∧ (12 : Int) < z) := fun h => by
      obtain ⟨z, hz⟩ := List.length_eq_one_iff.1 (eN.2.2.1 h)
      subst hz
      rcases hbad with h2 | h2
      · omega
      · exact ⟨z, rfl, h2⟩
    generalize parS l = o at *
    generalize bA l = s at *
    generalize bA D1 = ds at *
    clear hbad inN nnD eA eD eN
    go_enter Tryz.func30, Tryz.ntmps30
    go_wp2_with fail
    refine HA.mono ?_
    rintro e w1 ⟨u1, rfl, r1, b1⟩
    rw [S0] at b1
    go_wp2_with fail
    refine (HD w1).mono ?_
    rintro e w2 ⟨rfl, b2⟩
    go_wp2_with fail
    refine (HN w2).mono ?_
    rintro e w3 ⟨u3, rfl, r3, b3⟩
    have hs1 := b1.size
    rw [S0] at hs1
    have B12 := b1.trans (b2.mono hs1)
    have hs2 := b2.size
    have B13 := B12.trans (b3.mono (by omega))
    have hres3 := (B13.block w.heap.size (by omega)).trans hres0
    have BB3 : Below w.heap.size w w3 := B0.trans (B13.mono (by omega))
    have q0 := Joins.cell_of_block hres3 0
    have q1 := Joins.cell_of_block hres3 1
    have q2 := Joins.cell_of_block hres3 2
    have q3 := Joins.cell_of_block hres3 3
    have q4 := Joins.cell_of_block hres3 4
    have qf := fun i => Joins.unfrozen_of_block hres3 i
    dsimp at q0 q1 q2 q3 q4
    obtain ⟨hgg, hbz⟩ := par_zero hres3 BB3
    have HZ3 := HZ.out _ hbz
    have HZ3 : Hid (SaysQ o w (.returned (.tuple #[.agg #[.int .i64 0, .int .i64 0, .int .i64 0, .string ⟨#[]⟩, .slice none 0 0], .bool false])) (put5W w3 w.heap.size (.int .i64 0) (.int .i64 0) (.int .i64 0) (.string ⟨#[]⟩) (.slice none 0 0))) := HZ3
    have HGG : Hid ((put5W w3 w.heap.size (.int .i64 0) (.int .i64 0) (.int .i64 0) (.string ⟨#[]⟩) (.slice none 0 0)).heap[w.heap.size]? = some (.cells #[.int .i64 0, .int .i64 0, .int .i64 0, .string ⟨#[]⟩, .slice none 0 0] 59 (0, 0))) := hgg
    clear hgg hbz HZ
    by_cases hn2 : N2 < 0
    · go_wp2
      change bodyPost _ _ _ _ _ (put5W w3 w.heap.size (.int .i64 0) (.int .i64 0) (.int .i64 0) (.string ⟨#[]⟩) (.slice none 0 0))
      generalize put5W w3 w.heap.size (.int .i64 0) (.int .i64 0) (.int .i64 0) (.string ⟨#[]⟩) (.slice none 0 0) = wz at *
      exact bodyPost_ret (results_ib (p := 2) (u := 3) Tryz.results30 _ _ w.heap.size _ rfl rfl HGG.out) rfl HZ3.out
    · obtain ⟨z, hz, hz12⟩ := HN1.out (by omega)
      subst hz
      obtain ⟨g3, c3, rfl, k3, -, -⟩ := one_cell r3
      go_wp2
      change bodyPost _ _ _ _ _ (put5W w3 w.heap.size (.int .i64 0) (.int .i64 0) (.int .i64 0) (.string ⟨#[]⟩) (.slice none 0 0))
      generalize put5W w3 w.heap.size (.int .i64 0) (.int .i64 0) (.int .i64 0) (.string ⟨#[]⟩) (.slice none 0 0) = wz at *
      exact bodyPost_ret (results_ib (p := 2) (u := 3) Tryz.results30 _ _ w.heap.size _ rfl rfl HGG.out) rfl HZ3.out
  · have hN2 : 0 ≤ N2 := by omega
    obtain ⟨z, hz⟩ := List.length_eq_one_iff.1 (eN.2.2.1 hN2)
    subst hz
    have hzin := inN hN2
    have e0 : ([z] : List Int)[0]! = z := rfl
    rw [e0] at hbad hzin
    obtain ⟨n, rfl⟩ : ∃ n : Nat, z = (n : Int) := ⟨z.toNat, by omega⟩
    have hn12 : n ≤ 12 := by omega
    have hA3 := eA.2.2.1 (nnD hN2)
    obtain ⟨ya, yb, yc, hA⟩ : ∃ ya yb yc, A1 = [ya, yb, yc] := by
      match A1, hA3 with
      | [ya, yb, yc], _ => exact ⟨ya, yb, yc, rfl⟩
    subst hA
    have hpar := HPA.out
    rw [if_neg (by rw [e0]; omega), e0, Int.toNat_natCast] at hpar
    have HPAR : Hid (parS l = (entsS l n N2).bind fun e => if e.2 = l.length then some ⟨ya, yb, yc, bA D1, e.1⟩ else none) := hpar
    have hN2l : N2 ≤ l.length := eN.2.2.2 (by omega)
    have HV1 : Hid (∀ p w', -1 ≤ p → p ≤ 1099511627776 → Calls Tryz.prog 27 #[.string (bA l), .int .i64 p, .int .i64 1] w' fun e w'' => ∃ u, e = .returned (.tuple #[u, .int .i64 (varsS l 1 p).2]) ∧ IntRow w'' w'.heap.size u (varsS l 1 p).1 ∧ Below w'.heap.size w' w'') := fun p w' h0 h1 => HV p 1 w' h0 h1 (by omega)
    have HT : Hid _ := HT
    have hz := bA_size l
    have HZL : Hid ((bA l).size = l.length) := hz
    clear HPA hpar HV hbad hzin inN nnD eA eN hA3 e0 hz
    generalize bA D1 = ds at *
    obtain ⟨s, HSS⟩ : ∃ s, Hid (s = bA l) := ⟨_, rfl⟩
    rw [← HSS.out] at HA HD HN HV1 HT HZL ⊢
    go_enter Tryz.func30, Tryz.ntmps30
    go_wp2_with fail
    refine HA.mono ?_
    rintro e w1 ⟨u1, rfl, r1, b1⟩
    rw [S0] at b1 r1
    obtain ⟨g1, cc1, rfl, a0, a1, a2, hg1a, hg1b⟩ := three_cells r1
    go_wp2_with fail
    refine (HD w1).mono ?_
    rintro e w2 ⟨rfl, b2⟩
    go_wp2_with fail
    refine (HN w2).mono ?_
    rintro e w3 ⟨u3, rfl, r3, b3⟩
    obtain ⟨g3, c3, rfl, k3, hg3a, hg3b⟩ := one_cell r3
    have hs1 := b1.size
    rw [S0] at hs1
    have hs2 := b2.size
    have hs3 := b3.size
    have b23 := b2.trans (b3.mono hs2)
    have B13 := b1.trans (b23.mono hs1)
    have hres3 := (B13.block w.heap.size (by omega)).trans hres0
    have BB3 : Below w.heap.size w w3 := B0.trans (B13.mono (by omega))
    have a0 := (b23.cell (p := ⟨g1, 0, none⟩) hg1b).trans a0
    have a1 := (b23.cell (p := ⟨g1, 1, none⟩) hg1b).trans a1
    have a2 := (b23.cell (p := ⟨g1, 2, none⟩) hg1b).trans a2
    have hnn : ¬ (N2 < 0) := by omega
    have hn12' : ¬ ((12 : Int) < (n : Int)) := by omega
    have m1 : ¬ g1 = w3.heap.size := by omega
    have m2 : ¬ w3.heap.size = g1 := by omega
    clear b1 b2 b3 b23 B13 r1 r3 HA HD HN hres0 S0
    go_wp2
    go_region_held3 (fun w' => (w'.cell? ⟨g1, 0, none⟩ = some (.int .i64 ya) ∧ w'.cell? ⟨g1, 1, none⟩ = some (.int .i64 yb)) ∧ w'.cell? ⟨g1, 2, none⟩ = some (.int .i64 yc)) (go_keep) (fail)
    have BX := (below_lit w3 (.cells #[.int .i64 ya, .int .i64 yb, .int .i64 yc, .string ds, .slice none 0 0] 59)).drew
    have ST4 : PaSt w w3.heap.size g3 n ya yb yc ds (.slice none 0 0) [] (w3.alloc (.cells #[.int .i64 ya, .int .i64 yb, .int .i64 yc, .string ds, .slice none 0 0] 59)).drew :=
      ⟨(BX.block _ (by omega)).trans hres3, (MapKept.heap_alloc w3 _).1, ⟨rfl, .inl ⟨rfl, rfl⟩⟩, BB3.trans (BX.mono BB3.size), by omega, (BX.cell (p := ⟨g3, 0, none⟩) hg3b).trans k3, hg3b⟩
    have HST4 : Hid (PaSt w w3.heap.size g3 n ya yb yc ds (.slice none 0 0) [] (w3.alloc (.cells #[.int .i64 ya, .int .i64 yb, .int .i64 yc, .string ds, .slice none 0 0] 59)).drew) := ST4
    clear BX ST4 a0 a1 a2 k3 hres3 BB3
    generalize (w3.alloc (.cells #[.int .i64 ya, .int .i64 yb, .int .i64 yc, .string ds, .slice none 0 0] 59)).drew = w4 at *
    generalize w3.heap.size = q at *
    go_wp2
    go_loopw [5, 9] (fun pv i wr => ∃ (k : Nat) (p : Int) (acc : List En) (u : Value), k ≤ n ∧ pv = .int .i64 p ∧ i = .int .i64 k ∧ (0 ≤ p ∧ p ≤ 1048576) ∧ acc.length = k ∧ Hid (entsS l n N2 = (entsS l (n - k) p).map fun q => (acc ++ q.1, q.2)) ∧ Hid (PaSt w q g3 n ya yb yc ds u acc wr)) (fun _ i _ => n - (intOf i).toNat)
    case atStart => exact ⟨0, N2, [], .slice none 0 0, Nat.zero_le _, rfl, rfl, ⟨hN2, by omega⟩, rfl, by show _ = _; simp, HST4⟩
    case round =>
      obtain ⟨k, p, acc, u, hk, rfl, rfl, ⟨hp0, hp1⟩, hacc, HEN, HST⟩ := hrel
      have c3 := HST.out.nc
      by_cases hlt : k < n
      · have hlt' : (k : Int) < (n : Int) := by omega
        have eV := vars_end l 1 p hl (by omega) (by omega)
        have eT := tak_end (l := l) (p := (varsS l 1 p).2) hl eV.1 eV.2.1
        have eW := vars_end l 1 (takS l (varsS l 1 p).2).2 hl eT.1 (by omega)
        have HV5 := HV1.out p wr (by omega) (by omega)
        have HT6 := fun w' => HT.out (varsS l 1 p).2 w' eV.1 eV.2.1
        have HV7 := fun w' => HV1.out (takS l (varsS l 1 p).2).2 w' eT.1 (by omega)
        have HNE : Hid ((varsS l 1 (takS l (varsS l 1 p).2).2).2 < 0 → entS l p = none) := fun h => by unfold entS; rw [if_pos h]
        have HSE : Hid (¬ (varsS l 1 (takS l (varsS l 1 p).2).2).2 < 0 → entS l p = some (⟨hashN (bA (takS l (varsS l 1 p).2).1), (varsS l 1 p).1[0]!, bA (takS l (varsS l 1 p).2).1, (varsS l 1 (takS l (varsS l 1 p).2).2).1[0]!⟩, (varsS l 1 (takS l (varsS l 1 p).2).2).2)) := fun h => by unfold entS; rw [if_neg h]
        have HL1 : Hid (¬ (varsS l 1 (takS l (varsS l 1 p).2).2).2 < 0 → (∃ iv, (varsS l 1 p).1 = [iv]) ∧ (∃ dv, (varsS l 1 (takS l (varsS l 1 p).2).2).1 = [dv])) := fun h => ⟨List.length_eq_one_iff.1 (eV.2.2.1 (tak_nn (l := l) (vars_nn (l := l) (by omega)))), List.length_eq_one_iff.1 (eW.2.2.1 (by omega))⟩
        have hwl := eW.2.2.2 (by omega)
        generalize varsS l 1 p = V at *
        obtain ⟨V1, V2⟩ := V
        dsimp only at *
        generalize takS l V2 = Tk at *
        obtain ⟨T1, T2⟩ := Tk
        dsimp only at *
        have hbt := bA_size T1
        have hnm : (bA T1).size ≤ 1048576 := by rw [hbt]; omega
        generalize varsS l 1 T2 = W at *
        obtain ⟨W1, W2⟩ := W
        dsimp only at *
        clear hbt
        generalize bA T1 = tn at *
        clear eV eT
        go_wp2_with fail
        refine HV5.mono ?_
        rintro e w5 ⟨u5, rfl, r5, b5⟩
        go_wp2_with fail
        refine (HT6 w5).mono ?_
        rintro e w6 ⟨rfl, b6⟩
        go_wp2_with fail
        refine (HV7 w6).mono ?_
        rintro e w7 ⟨u7, rfl, r7, b7⟩
        have b67 := b6.trans (b7.mono b6.size)
        have b57 := b5.trans (b67.mono b5.size)
        have ST7 := HST.out.below b57
        by_cases hneg : W2 < 0
        · have hnone : Hid (parS l = none) := by show _ = _; rw [HPAR.out, entsS_none HEN.out hlt (HNE.out hneg)]; rfl
          have q0 := Joins.cell_of_block ST7.res 0
          have q1 := Joins.cell_of_block ST7.res 1
          have q2 := Joins.cell_of_block ST7.res 2
          have q3 := Joins.cell_of_block ST7.res 3
          have q4 := Joins.cell_of_block ST7.res 4
          have qf := fun i => Joins.unfrozen_of_block ST7.res i
          dsimp at q0 q1 q2 q3 q4
          obtain ⟨hgg, hbz⟩ := par_zero ST7.res ST7.bel
          have HZ3 : Hid (SaysQ (parS l) w (.returned (.tuple #[.agg #[.int .i64 0, .int .i64 0, .int .i64 0, .string ⟨#[]⟩, .slice none 0 0], .bool false])) (put5W w7 w.heap.size (.int .i64 0) (.int .i64 0) (.int .i64 0) (.string ⟨#[]⟩) (.slice none 0 0))) := HNONE.out ⟨0, 0, 0, ⟨#[]⟩, []⟩ none 0 0 _ hnone.out hbz
          have HGG : Hid ((put5W w7 w.heap.size (.int .i64 0) (.int .i64 0) (.int .i64 0) (.string ⟨#[]⟩) (.slice none 0 0)).heap[w.heap.size]? = some (.cells #[.int .i64 0, .int .i64 0, .int .i64 0, .string ⟨#[]⟩, .slice none 0 0] 59 (0, 0))) := hgg
          clear hgg hbz ST7 HNE HSE HL1 HV5 HT6 HV7
          go_wp2
          change bodyPost _ _ _ _ _ (put5W w7 w.heap.size (.int .i64 0) (.int .i64 0) (.int .i64 0) (.string ⟨#[]⟩) (.slice none 0 0))
          generalize put5W w7 w.heap.size (.int .i64 0) (.int .i64 0) (.int .i64 0) (.string ⟨#[]⟩) (.slice none 0 0) = wz at *
          exact bodyPost_ret (results_ib (p := 2) (u := 3) Tryz.results30 _ _ w.heap.size _ rfl rfl HGG.out) rfl HZ3.out
        · obtain ⟨⟨iv, hiv⟩, ⟨dv, hdv⟩⟩ := HL1.out (by omega)
          subst hiv hdv
          have hsome : entS l p = some (⟨hashN tn, iv, tn, dv⟩, W2) := HSE.out (by omega)
          have HEN' := entsS_some HEN.out hlt hsome
          have HH := fun w' => sHashOf tn w' hnm
          generalize hashN tn = hv at *
          have HEN' : Hid (entsS l n N2 = (entsS l (n - (k + 1)) W2).map fun q => ((acc ++ [⟨hv, iv, tn, dv⟩]) ++ q.1, q.2)) := HEN'
          obtain ⟨g5, cc5, rfl, i5, hg5a, hg5b⟩ := one_cell r5
          obtain ⟨g7, cc7, rfl, i7, hg7a, hg7b⟩ := one_cell r7
          have i5 := (b67.cell (p := ⟨g5, 0, none⟩) hg5b).trans i5
          have hqw := lt_of_block HST.out.box
          have hs5 := b5.size
          have hs67 := b67.size
          have hs6 := b6.size
          have haccl : acc.length + 1 ≤ 1099511627776 := by omega
          have c4 : w7.cell? ⟨q, 4, none⟩ = some u := Joins.cell_of_block ST7.box 4
          have c4d : w7.drew.cell? ⟨q, 4, none⟩ = some u := c4
          have SD := ST7.below ((Below.refl w7.heap.size w7).drew)
          have HSTEP : Hid (∀ w8, Below w7.drew.heap.size w7.drew w8 → (w8.cell? ⟨g5, 0, none⟩ = some (.int .i64 iv) ∧ w8.cell? ⟨g7, 0, none⟩ = some (.int .i64 dv)) ∧ w8.cell? ⟨q, 4, none⟩ = some u ∧ PaSt w q g3 n ya yb yc ds u acc (w8.alloc (.cells #[.int .i64 hv, .int .i64 iv, .string tn, .int .i64 dv] 77)) ∧ q < w8.heap.size ∧ g5 < w8.heap.size ∧ g7 < w8.heap.size) := fun w8 b8 => by
            have hs8 : w7.heap.size ≤ w8.heap.size := b8.size
            have S8 := SD.below b8
            exact ⟨⟨(b8.cell (p := ⟨g5, 0, none⟩) (show g5 < w7.heap.size by omega)).trans i5, (b8.cell (p := ⟨g7, 0, none⟩) (show g7 < w7.heap.size by omega)).trans i7⟩, Joins.cell_of_block S8.box 4, S8.below (below_lit w8 _), by omega, by omega, by omega⟩
          clear HSE HL1 HV5 HT6 HV7 HNE ST7 SD r5 r7 hsome
          go_wp2
          have i5d : w7.drew.cell? ⟨g5, 0, none⟩ = some (.int .i64 iv) := i5
          have i7d : w7.drew.cell? ⟨g7, 0, none⟩ = some (.int .i64 dv) := i7
          go_region_law
            (first
            | (go_simp; go_at_call 48; refine (HH _).mono ?_; rintro e w8 ⟨rfl, b8⟩; obtain ⟨⟨j5, j7⟩, c8, ST8, hq8, hg58, hg78⟩ := HSTEP.out w8 b8; have c9 : (w8.alloc (.cells #[.int .i64 hv, .int .i64 iv, .string tn, .int .i64 dv] 77)).cell? ⟨q, 4, none⟩ = some u := Joins.cell_of_block ST8.box 4; have hblk8 := (MapKept.heap_alloc w8 (.cells #[.int .i64 hv, .int .i64 iv, .string tn, .int .i64 dv] 77)).1; have hb8 : q + 1 ≤ (w8.alloc (.cells #[.int .i64 hv, .int .i64 iv, .string tn, .int .i64 dv] 77)).heap.size := Nat.le_trans hq8 (by simp); dsimp only)
            | ((refine step_append_ent (by rfl) (.tmp 80) (.tmp 91) (by rfl) (q + 1) u acc ⟨hv, iv, tn, dv⟩ ST8.row (by rfl) w8.heap.size 1 (by rfl) hblk8 haccl hb8 ?_; intro v' w9 hr9 hg9; obtain ⟨⟨d9, f9⟩, ST9⟩ := ST8.app hg9 hr9; obtain ⟨va, vc, hv9, -, -⟩ := hr9.at; rw [List.length_append, List.length_singleton, hacc] at hv9; subst hv9; have ST9 : Hid (PaSt w q g3 n ya yb yc ds (.slice va (k + 1) vc) (acc ++ [⟨hv, iv, tn, dv⟩]) (w9.setCell ⟨q, 4, none⟩ (.slice va (k + 1) vc))) := ST9)))
          all_goals go_wp2
          all_goals go_roundw
          all_goals first
            | exact ⟨k + 1, W2, acc ++ [⟨hv, iv, tn, dv⟩], _, by omega, by go_num, by go_num, ⟨by omega, by omega⟩, by simp; omega, HEN', ST9⟩
            | (simp [intOf]; omega)
      · obtain rfl : k = n := by omega
        have hz := HEN.out
        rw [Nat.sub_self, entsS] at hz
        simp only [Option.map_some, List.append_nil] at hz
        have hpar8 : parS l = if p = l.length then some ⟨ya, yb, yc, ds, acc⟩ else none := by rw [HPAR.out, hz]; rfl
        have st := HST.out
        obtain ⟨ua, uc, hu, -, -⟩ := st.row.at
        rw [hacc] at hu
        subst hu
        have b0 : wr.cell? ⟨q, 0, none⟩ = some (.int .i64 ya) := Joins.cell_of_block st.box 0
        have b1 : wr.cell? ⟨q, 1, none⟩ = some (.int .i64 yb) := Joins.cell_of_block st.box 1
        have b2 : wr.cell? ⟨q, 2, none⟩ = some (.int .i64 yc) := Joins.cell_of_block st.box 2
        have b3 : wr.cell? ⟨q, 3, none⟩ = some (.string ds) := Joins.cell_of_block st.box 3
        have b4 : wr.cell? ⟨q, 4, none⟩ = some (.slice ua k uc) := Joins.cell_of_block st.box 4
        have q0 := Joins.cell_of_block st.res 0
        have q1 := Joins.cell_of_block st.res 1
        have q2 := Joins.cell_of_block st.res 2
        have q3 := Joins.cell_of_block st.res 3
        have q4 := Joins.cell_of_block st.res 4
        have qf := fun i => Joins.unfrozen_of_block st.res i
        dsimp at q0 q1 q2 q3 q4
        have hlt5 := st.lt
        obtain ⟨hgg, K5, hbb⟩ := put5W_facts (.int .i64 ya) (.int .i64 yb) (.int .i64 yc) (.string ds) (.slice ua k uc) st.bel st.res st.row (by omega)
        have HGG : Hid ((put5W wr w.heap.size (.int .i64 ya) (.int .i64 yb) (.int .i64 yc) (.string ds) (.slice ua k uc)).heap[w.heap.size]? = some (.cells #[.int .i64 ya, .int .i64 yb, .int .i64 yc, .string ds, .slice ua k uc] 59 (0, 0))) := hgg
        have hzl := HZL.out
        by_cases hpl : p = l.length
        · have hsome : parS l = some ⟨ya, yb, yc, ds, acc⟩ := by rw [hpar8, if_pos hpl]
          have HR8 : Hid (SaysQ (parS l) w (.returned (.tuple #[.agg #[.int .i64 ya, .int .i64 yb, .int .i64 yc, .string ds, .slice ua k uc], .bool true])) (put5W wr w.heap.size (.int .i64 ya) (.int .i64 yb) (.int .i64 yc) (.string ds) (.slice ua k uc))) := HSOME.out ⟨ya, yb, yc, ds, acc⟩ (.slice ua k uc) _ hsome K5 hbb
          have hps : (p == (s.size : Int)) = true := by rw [hzl]; simp [hpl]
          clear st HST hz hgg K5 hbb HSOME HNONE HPAR hpar8 hsome hzl hpl
          go_wp2
          change bodyPost _ _ _ _ _ (put5W wr w.heap.size (.int .i64 ya) (.int .i64 yb) (.int .i64 yc) (.string ds) (.slice ua k uc))
          generalize put5W wr w.heap.size (.int .i64 ya) (.int .i64 yb) (.int .i64 yc) (.string ds) (.slice ua k uc) = wz at *
          exact bodyPost_ret (results_ib (p := 2) (u := 3) Tryz.results30 _ _ w.heap.size _ rfl rfl HGG.out) rfl HR8.out
        · have hnone : parS l = none := by rw [hpar8, if_neg hpl]
          have HR8 : Hid (SaysQ (parS l) w (.returned (.tuple #[.agg #[.int .i64 ya, .int .i64 yb, .int .i64 yc, .string ds, .slice ua k uc], .bool false])) (put5W wr w.heap.size (.int .i64 ya) (.int .i64 yb) (.int .i64 yc) (.string ds) (.slice ua k uc))) := HNONE.out ⟨ya, yb, yc, ds, acc⟩ ua k uc _ hnone hbb
          have hps : (p == (s.size : Int)) = false := by rw [hzl]; simp [hpl]
          clear st HST hz hgg K5 hbb HSOME HNONE HPAR hpar8 hnone hzl hpl
          go_wp2
          change bodyPost _ _ _ _ _ (put5W wr w.heap.size (.int .i64 ya) (.int .i64 yb) (.int .i64 yc) (.string ds) (.slice ua k uc))
          generalize put5W wr w.heap.size (.int .i64 ya) (.int .i64 yb) (.int .i64 yc) (.string ds) (.slice ua k uc) = wz at *
          exact bodyPost_ret (results_ib (p := 2) (u := 3) Tryz.results30 _ _ w.heap.size _ rfl rfl HGG.out) rfl HR8.out

end Go.Proofs.YtpijjinoeghgoaaGreatDoor
