/- The law of directories that are changed: its walk. -/
import Derived.Test.YtmhblmonigakbaaGreatDoorRows
import Derived.Test.YtmhblmonigakbaaGreatDoorMy
import Derived.Test.YtmhblmonigakbaaGreatDoorMw
namespace Go.Proofs.YtmhblmonigakbaaGreatDoor
open Go.RowKit

set_option maxRecDepth 100000 in
set_option maxHeartbeats 1000000 in
theorem drawAdd_any (S : Src) (ok : S.ok) (w : World) (hl : Lies S w) :
    Calls Tryz.prog 6 #[.slice S.a S.len S.cap] w fun e w' => ∃ v d s id, e = .returned (.tuple #[v, .string s, .int .i64 id]) ∧ EntRow w' w.heap.size v d ∧ Shorts d ∧ d.length ≤ 13 ∧ s.size ≤ 100 ∧ Below w.heap.size w w' := by
  go_enter Tryz.func6, Tryz.ntmps6
  go_wp2_with fail
  refine (new_any S ok _ hl).mono ?_
  rintro e w1 ⟨rfl, c1, b1⟩
  have hp := c1.size
  go_wp2_with fail
  refine (name_any S ok _ (s0 S) w1 c1).mono ?_
  rintro e w2 ⟨t, s1, ht, rfl, c2, g2⟩
  have hb5 := below_lit w2 (.cells #[.int .i64 1, .int .i64 2, .int .i64 7, .int .i64 0, .int .i64 100000, .int .i64 100001] 3)
  have hh5 : (w2.alloc (.cells #[.int .i64 1, .int .i64 2, .int .i64 7, .int .i64 0, .int .i64 100000, .int .i64 100001] 3)).heap[w2.heap.size]? = some (.cells (([1, 2, 7, 0, 100000, 100001] : List Int).map (Value.int .i64)).toArray 3 (0, 0)) := heap_alloc_new _ _
  have hp4 := c2.size
  have HP := pick_any S ok [1, 2, 7, 0, 100000, 100001] 6 rfl w2.heap.size 3 _ s1 _ (c2.below (hb5.mono hp4)) (by decide) (by decide) (by omega) hh5
  have G5 := gb_below2 g2 hb5
  generalize pX S [1, 2, 7, 0, 100000, 100001] s1 = z at HP
  generalize bS S (([1, 2, 7, 0, 100000, 100001] : List Int).length : Int) s1 = s2 at HP
  obtain ⟨w5, HW5⟩ : ∃ w5, Hid (w5 = w2.alloc (.cells #[.int .i64 1, .int .i64 2, .int .i64 7, .int .i64 0, .int .i64 100000, .int .i64 100001] 3)) := ⟨_, rfl⟩
  rw [← HW5.out] at HP G5
  clear hb5 hh5 c1 c2 g2
  go_wp2_with fail
  rw [← HW5.out]
  refine HP.mono ?_
  rintro e w3 ⟨rfl, c3, g3⟩
  have G3 := gb_trans G5 g3
  clear HP
  go_wp2_with fail
  refine (size_any S ok 25 (by decide) (by decide) w3).mono ?_
  rintro e w3' ⟨m, hm, rfl, rfl⟩
  go_wp2_with fail
  refine (l5Any_any S ok m hm _ s2 w3 c3).mono ?_
  rintro e w4 ⟨v, d, s3, rfl, row4, hsh, hlen, c4, g4⟩
  have G4 := gb_trans G3 g4
  have B4 : Below w.heap.size w w4 := b1.trans (below_gb G4 (Nat.le_refl _) hp)
  have HR : Hid (EntRow w4 w.heap.size v d) := row4.mono (Nat.le_trans (Nat.le_of_lt hp) G3.size)
  have HSH : Hid (Shorts d) := hsh
  clear row4 hsh
  go_wp2
  exact bodyPost_ret (results_tmp3 rfl _ _ _) rfl ⟨v, d, _, _, rfl, HR.out, HSH.out, hlen, ht, B4⟩

theorem bon {a b c : World} (h : Below a.heap.size a b) (k : Below b.heap.size b c) : Below a.heap.size a c := h.trans (k.mono h.size)

/-- all that the law asks of an entry that was added -/
structure DirF (d : List En) (s : ByteArray) (id : Int) (x z : List En) (e : En) : Prop where
  add : addN d s id = (x, true)
  right : dirB x = true
  len : x.length = d.length + 1
  look : lookN x s = (e, true)
  other : ∀ o, alikeB o s = true → lookN x o = (e, true)
  drop : dropN x s = (d, true)
  resp : respN x s 5 = (z, true)
  rightZ : dirB z = true
  lookZ : lookN z s = (⟨e.hash, e.index, s, 5⟩, true)
  name : e.name = s
  eid : e.id = id
  lenZ : z.length = x.length
  shX : Shorts d → s.size ≤ 1048576 → Shorts x
  shZ : Shorts x → s.size ≤ 1048576 → Shorts z
theorem dir_facts {d : List En} {s : ByteArray} {id : Int} (hr : dirB d = true) (ho : addOk d s id = true) : ∃ x z e, DirF d s id x z e := by
  have hR := dirB_iff.1 hr
  have hX := right_add hR ho
  have hss : alikeB s s = true := by rw [alike_self]; exact (addOk_iff.1 ho).1
  have hat : ∀ o, alikeB s o = true → atN (insN d (newE d s id)) o = some (d.takeWhile (fun x => lessB x (newE d s id).hash (newE d s id).index)).length := fun o h => at_ins hX.toRightP h
  have hget := ins_at d (newE d s id)
  have hi : (d.takeWhile (fun x => lessB x (newE d s id).hash (newE d s id).index)).length < (insN d (newE d s id)).length := by unfold insN; rw [List.length_append, List.length_cons]; omega
  have hera := ins_erase d (newE d s id)
  have hat0 := hat s hss
  generalize (d.takeWhile (fun x => lessB x (newE d s id).hash (newE d s id).index)).length = i at hat hget hi hera hat0
  have hnm : alikeB ((insN d (newE d s id))[i]).name s = true := by rw [← getElem!_pos _ i hi, hget]; exact hss
  have hZ := right_set hX hi hnm (id := 5) (by rfl)
  have hz5 : ((insN d (newE d s id)).set i (respE (insN d (newE d s id))[i]! s 5))[i]! = ⟨(newE d s id).hash, (newE d s id).index, s, 5⟩ := by
    rw [getElem!_pos _ i (by rw [List.length_set]; exact hi), List.getElem_set_self, hget]; rfl
  refine ⟨insN d (newE d s id), (insN d (newE d s id)).set i (respE (insN d (newE d s id))[i]! s 5), newE d s id, ⟨addN_yes hR ho, dirB_iff.2 hX, ins_len _ _, ?_, ?_, ?_, ?_, dirB_iff.2 hZ, ?_, rfl, rfl, by rw [List.length_set], ?_, ?_⟩⟩
  · rw [lookN_yes hX hat0, hget]
  · intro o h
    rw [alike_sym] at h
    rw [lookN_yes hX (hat o h), hget]
  · rw [dropN_yes hX hat0, hera]
  · exact respN_yes hX hat0 rfl
  · have hi2 : i < ((insN d (newE d s id)).set i (respE (insN d (newE d s id))[i]! s 5)).length := by rw [List.length_set]; exact hi
    rw [lookN_yes hZ (atN_eq hZ.toRightP hi2 (by rw [← getElem!_pos _ i hi2, hz5]; exact hss)), hz5]
  · intro h1 h2 e he
    rcases mem_ins.1 he with rfl | he
    · exact h2
    · exact h1 e he
  · intro h1 h2
    exact shorts_set h1 h2 i

set_option maxRecDepth 100000 in
set_option maxHeartbeats 8000000 in
theorem dir_walk (S : Src) (ok : S.ok) (w : World) (hl : Lies S w) (hT : Tabs w) (hC : CrcTab w) :
    Calls Tryz.prog 3 #[.slice S.a S.len S.cap] w fun e w' => e = .returned (.bool true) ∧ Below w.heap.size w w' := by
  have hlen : S.len ≤ 1048576 := ok.1
  have HTT : Hid (Tabs w) := hT
  have HCC : Hid (CrcTab w) := hC
  have HAL : Hid (∀ W, Below w.heap.size w W → Calls Tryz.prog 11 #[.slice S.a S.len S.cap] W fun e w' => ∃ a b, a.size ≤ 100 ∧ b.size ≤ 100 ∧ e = .returned (.tuple #[.string a, .string b]) ∧ Below W.heap.size W w') := fun W hW => sdrawAlike_any S ok W (hl.below hW)
  clear hT hC
  go_enter Tryz.func3, Tryz.ntmps3
  go_wp2_with (first | (go_at_call 5; go_in))
  refine (drawAdd_any S ok _ hl).mono ?_
  rintro _ w1 ⟨v, d, s, id, rfl, row1, hsh, hdl, hsl, b1⟩
  have HSH : Hid (Shorts d) := hsh
  have HV1 : Hid (EntsAt w1 v d) := row1.at
  have A1' := row1.at
  obtain ⟨a0, ca0, rfl, -, -⟩ := A1'
  clear row1 hsh hl ok
  have HI1 := iAdd _ d s id w1 (HTT.out.below b1) (HCC.out.below b1) HV1.out HSH.out (by omega) (by omega)
  have HS1 := fun w' (hb : Below w1.heap.size w1 w') => sAdd _ d s id w' (HV1.out.below hb) HSH.out (by omega) (by omega)
  have HD1 := fun w' (hb : Below w1.heap.size w1 w') => sDirOk _ d w' (HV1.out.below hb) HSH.out (by omega)
  have HSD : Hid (∀ u l w', l.length ≤ 1048576 → EntsAt w' u l → Below w1.heap.size w1 w' → Calls Tryz.prog 10 #[u, .slice a0 d.length ca0] w' fun e w'' => e = .returned (.bool (decide (l = d))) ∧ Below w'.heap.size w' w'') := fun u l w' h1 h2 h3 => sameDir_any u _ l d w' h2 (HV1.out.below h3) h1
  have HWR : Hid (dirB d = false → addN d s id = ([], false)) := fun hr => (wrong hr s id 0 0).1
  have HNO : Hid (dirB d = true → addOk d s id = false → addN d s id = (d, false)) := fun hr ho => addN_no (dirB_iff.1 hr) ho
  have HYS : Hid (dirB d = true → addOk d s id = true → ∃ x z e, DirF d s id x z e) := fun hr ho => dir_facts hr ho
  obtain ⟨X, HX⟩ : ∃ X, Hid (addN d s id = X) := ⟨_, rfl⟩
  rw [HX.out] at HI1 HS1
  obtain ⟨x, q⟩ := X
  dsimp only at HI1 HS1
  go_wp2_with fail
  refine HI1.mono ?_
  rintro e w2 ⟨xv, rfl, rowX, b2⟩
  have HXV : Hid (EntsAt w2 xv x) := rowX.at
  have HB12 : Hid (Below w1.heap.size w1 w2) := b2
  have HD2 : Hid (Below w.heap.size w w2) := b1.trans (b2.mono b1.size)
  have A2' := rowX.at
  obtain ⟨a1, ca1, rfl, -, -⟩ := A2'
  clear HI1 rowX
  go_wp2_with fail
  refine (HS1 w2 b2).mono ?_
  rintro e w3 ⟨xv3, rfl, -, b3⟩
  have B3 : Below w2.heap.size w2 w3 := b3
  have HD3 := HD1 w3 (b2.trans (b3.mono b2.size))
  clear HS1 HD1
  cases hr : dirB d
  · have hq := HWR.out hr
    rw [HX.out] at hq
    cases hq
    rw [hr] at HD3
    go_wp2_with fail
    refine HD3.mono ?_
    rintro e w4 ⟨rfl, b4⟩
    have D4 := HD2.out.trans ((B3.trans (b4.mono B3.size)).mono HD2.out.size)
    go_wp2
    go_ret
    exact ⟨rfl, D4⟩
  · rw [hr] at HD3
    cases ho : addOk d s id
    · have hq := HNO.out hr ho
      rw [HX.out] at hq
      cases hq
      go_wp2_with fail
      refine HD3.mono ?_
      rintro e w4 ⟨rfl, b4⟩
      have B4 := B3.trans (b4.mono B3.size)
      have D4 := HD2.out.trans (B4.mono HD2.out.size)
      have HSS := HSD.out _ d w4 (by omega) (HXV.out.below B4) (HB12.out.trans (B4.mono HB12.out.size))
      rw [decide_eq_true rfl] at HSS
      clear HD3
      go_wp2_with fail
      refine HSS.mono ?_
      rintro e w5 ⟨rfl, b5⟩
      have D5 := D4.trans (b5.mono D4.size)
      go_wp2
      go_ret
      exact ⟨rfl, D5⟩
    · obtain ⟨x', z, e', F⟩ := HYS.out hr ho
      have hq := F.add
      rw [HX.out] at hq
      cases hq
      have hxl : x.length ≤ 1048576 := by rw [F.len]; omega
      have HSX : Hid (Shorts x) := F.shX HSH.out (by omega)
      have HSZ : Hid (Shorts z) := F.shZ HSX.out (by omega)
      have hzl : z.length ≤ 1048576 := by rw [F.lenZ]; exact hxl
      have hB : ∀ W, Below w2.heap.size w2 W → Below w.heap.size w W := fun W hW => HD2.out.trans (hW.mono HD2.out.size)
      have HLK : Hid (∀ o : ByteArray, o.size ≤ 1048576 → ∀ W, Below w2.heap.size w2 W → _) := fun o ho W hW => iLook _ x o W (HTT.out.below (hB W hW)) (HCC.out.below (hB W hW)) (HXV.out.below hW) HSX.out ho hxl
      have HDX : Hid (∀ W, Below w2.heap.size w2 W → _) := fun W hW => sDirOk _ x W (HXV.out.below hW) HSX.out hxl
      have HDP : Hid (∀ W, Below w2.heap.size w2 W → _) := fun W hW => iDrop _ x s W (HTT.out.below (hB W hW)) (HCC.out.below (hB W hW)) (HXV.out.below hW) HSX.out (by omega) hxl
      have HRP : Hid (∀ W, Below w2.heap.size w2 W → _) := fun W hW => iRespell _ x s 5 W (HTT.out.below (hB W hW)) (HCC.out.below (hB W hW)) (HXV.out.below hW) HSX.out (by omega) hxl
      have HLZ : Hid (∀ u W, EntsAt W u z → Below w2.heap.size w2 W → _) := fun u W hu hW => iLook u z s W (HTT.out.below (hB W hW)) (HCC.out.below (hB W hW)) hu HSZ.out (by omega) hzl
      have HDZ : Hid (∀ u W, EntsAt W u z → _) := fun u W hu => sDirOk u z W hu HSZ.out hzl
      have HAK : Hid (∀ o : ByteArray, o.size ≤ 1048576 → ∀ W, _) := fun o ho W => sAlike o s W ho (by omega)
      have HBB : Hid (∀ W, Below w2.heap.size w2 W → Below w.heap.size w W) := hB
      have HF : Hid (DirF d s id x z e') := F
      obtain ⟨e0, e1, e2, e3⟩ := e'
      have hn := F.name
      have hi := F.eid
      dsimp only at hn hi
      subst hn hi
      have hlx : (x.length : Int) = (d.length : Int) + 1 := by rw [F.len]; omega
      have hwl : IntKind.i64.wrap ((d.length : Int) + 1) = (x.length : Int) := by rw [IntKind.wrap_i64]; omega
      clear F hB HX HYS HNO HWR
      generalize hdn : d.length = n at *
      generalize hxn : x.length = nx at *
      have HDN : Hid (d.length = n) := hdn
      clear hdn hxn hlx
      go_wp2_with fail
      refine HD3.mono ?_
      rintro e w4 ⟨rfl, b4⟩
      have B4 := bon B3 b4
      clear HD3 b3 B3 b4
      go_wp2_with fail
      refine (HAL.out w4 (HBB.out _ B4)).mono ?_
      rintro e w5 ⟨a', o, -, hol, rfl, b5⟩
      have B5 := bon B4 b5
      have K1 := HLK.out e2 (by omega) w5 B5
      rw [HF.out.look] at K1
      dsimp only at K1
      clear B4 b5
      go_wp2_with fail
      refine K1.mono ?_
      rintro e w6 ⟨rfl, b6⟩
      have B6 := bon B5 b6
      have bE := below_lit w6 (.cells #[.int .i64 e0, .int .i64 e1, .string e2, .int .i64 e3] 34)
      have cE := new_cells w6 e0 e1 e2 e3
      have hsE := hs_alloc w6 (.cells #[.int .i64 e0, .int .i64 e1, .string e2, .int .i64 e3] 34)
      have BE := bon B6 bE
      obtain ⟨wE, HWE⟩ : ∃ wE, Hid (wE = w6.alloc (.cells #[.int .i64 e0, .int .i64 e1, .string e2, .int .i64 e3] 34)) := ⟨_, rfl⟩
      rw [← HWE.out] at bE cE hsE BE
      have HEC : Hid (∀ W, Below wE.heap.size wE W → CellsE W w6.heap.size 0 ⟨e0, e1, e2, e3⟩) := fun W hW => cE.below (by omega) hW
      obtain ⟨g, HG⟩ : ∃ g, Hid (g = w6.heap.size) := ⟨_, rfl⟩
      have K2 := HDX.out wE BE
      rw [HF.out.right] at K2
      clear K1 cE b6 B5 bE
      go_wp2_with fail
      rw [← HWE.out]
      refine K2.mono ?_
      rintro e w7 ⟨rfl, b7⟩
      have C7 : Below wE.heap.size wE w7 := b7
      have c7 := HEC.out w7 C7
      have y2 := c7.c2
      have y3 := c7.c3
      dsimp only [Nat.zero_add] at y2 y3
      have K3 := HLK.out o (by omega) w7 (bon BE C7)
      obtain ⟨LO, HLO⟩ : ∃ LO, Hid (lookN x o = LO) := ⟨_, rfl⟩
      rw [HLO.out] at K3
      obtain ⟨⟨f0, f1, f2, f3⟩, by'⟩ := LO
      dsimp only at K3
      clear K2 c7 b7
      go_wp2_with fail
      refine K3.mono ?_
      rintro e w8 ⟨rfl, b8⟩
      have C8 := bon C7 b8
      have bF := below_lit w8 (.cells #[.int .i64 f0, .int .i64 f1, .string f2, .int .i64 f3] 34)
      have cF := new_cells w8 f0 f1 f2 f3
      have hsF := hs_alloc w8 (.cells #[.int .i64 f0, .int .i64 f1, .string f2, .int .i64 f3] 34)
      have CF := bon C8 bF
      obtain ⟨wF, HWF⟩ : ∃ wF, Hid (wF = w8.alloc (.cells #[.int .i64 f0, .int .i64 f1, .string f2, .int .i64 f3] 34)) := ⟨_, rfl⟩
      rw [← HWF.out] at bF cF hsF CF
      have K4 := HAK.out o (by omega) wF
      clear K3 y2 y3
      go_wp2_with fail
      rw [← HWF.out]
      refine K4.mono ?_
      rintro e w9 ⟨rfl, b9⟩
      have C9 := bon CF b9
      have cF9 := cF.below (by omega) b9
      have cE9 := HEC.out w9 C9
      have z0 := cF9.c0
      have z1 := cF9.c1
      have z2 := cF9.c2
      have z3 := cF9.c3
      have y0 := cE9.c0
      have y1 := cE9.c1
      have y2 := cE9.c2
      have y3 := cE9.c3
      dsimp only [Nat.zero_add] at z0 z1 z2 z3 y0 y1 y2 y3
      /- whatever the other name is, the law goes on -/
      have HGO : Hid (alikeB o e2 = true → by' = true ∧ e0 = f0 ∧ e1 = f1 ∧ e2 = f2 ∧ e3 = f3) := fun h => by
        have h1 := HF.out.other o h
        rw [HLO.out] at h1
        cases h1
        exact ⟨rfl, rfl, rfl, rfl, rfl⟩
      have K5 := HDP.out w9 (bon BE C9)
      rw [HF.out.drop] at K5
      dsimp only at K5
      have hNE : ∀ w', (binOp .neq 34 (.agg #[.int .i64 e0, .int .i64 e1, .string e2, .int .i64 e3]) (.agg #[.int .i64 e0, .int .i64 e1, .string e2, .int .i64 e3])).run Tryz.prog w' = .ok (.bool false) w' := fun w' => by
        have := neE ⟨e0, e1, e2, e3⟩ ⟨e0, e1, e2, e3⟩ w'
        rw [decide_eq_true rfl] at this
        exact this
      obtain ⟨ak, HAK2⟩ : ∃ ak, Hid (alikeB o e2 = ak) := ⟨_, rfl⟩
      rw [HAK2.out] at HGO ⊢
      clear K4 cF9 cE9 cF b9 bF
      cases ak
      · go_wp2_with fail
        refine K5.mono ?_
        rintro e w10 ⟨yv, rfl, rowY, b10⟩
        have C10 := bon C9 b10
        have HYV : Hid (EntsAt w10 yv d) := rowY.at
        have A10 := rowY.at
        obtain ⟨ay, cay, rfl, -, -⟩ := A10
        have K6 := HRP.out w10 (bon BE C10)
        rw [HF.out.resp] at K6
        dsimp only at K6
        clear K5 rowY b10
        go_wp2_with fail
        refine K6.mono ?_
        rintro e w11 ⟨zv, rfl, rowZ, b11⟩
        have C11 := bon C10 b11
        have HZV : Hid (EntsAt w11 zv z) := rowZ.at
        have A11 := rowZ.at
        obtain ⟨az, caz, rfl, -, -⟩ := A11
        have K7 := HLZ.out _ w11 HZV.out (bon BE C11)
        rw [HF.out.lookZ] at K7
        dsimp only at K7
        clear K6 rowZ
        go_wp2_with fail
        refine K7.mono ?_
        rintro e w12 ⟨rfl, b12⟩
        have C12 := bon C11 b12
        have bG := below_lit w12 (.cells #[.int .i64 e0, .int .i64 e1, .string e2, .int .i64 5] 34)
        have cG := new_cells w12 e0 e1 e2 5
        have hsG := hs_alloc w12 (.cells #[.int .i64 e0, .int .i64 e1, .string e2, .int .i64 5] 34)
        have CG := bon C12 bG
        obtain ⟨wG, HWG⟩ : ∃ wG, Hid (wG = w12.alloc (.cells #[.int .i64 e0, .int .i64 e1, .string e2, .int .i64 5] 34)) := ⟨_, rfl⟩
        rw [← HWG.out] at bG cG hsG CG
        have K8 := HSD.out _ d wG (by rw [HDN.out]; omega) (HYV.out.below (bon (bon b11 b12) bG)) (bon HB12.out (bon BE CG))
        rw [decide_eq_true rfl] at K8
        have HZG := HZV.out.below (bon b12 bG)
        have HZG : Hid (EntsAt wG _ z) := HZG
        clear K7 b12 b11 bG
        go_wp2_with fail
        rw [← HWG.out]
        refine K8.mono ?_
        rintro e w13 ⟨rfl, b13⟩
        have K9 := HDZ.out _ w13 (HZG.out.below b13)
        rw [HF.out.rightZ] at K9
        clear K8
        go_wp2_with fail
        refine K9.mono ?_
        rintro e w14 ⟨rfl, b14⟩
        have C14 := bon CG (bon b13 b14)
        have cG14 := cG.below (by omega) (bon b13 b14)
        have cE14 := HEC.out w14 C14
        have p0 := cG14.c0
        have p1 := cG14.c1
        have p3 := cG14.c3
        have r0 := cE14.c0
        have r1 := cE14.c1
        dsimp only [Nat.zero_add] at p0 p1 p3 r0 r1
        have D14 := HBB.out _ (bon BE C14)
        clear K9 cG cG14 cE14 b13 b14 C9 C10 C11 C12 CG CF C7 C8
        go_wp2
        go_ret
        exact ⟨rfl, D14⟩
      · obtain ⟨rfl, rfl, rfl, rfl, rfl⟩ := HGO.out rfl
        go_wp2_with fail
        refine K5.mono ?_
        rintro e w10 ⟨yv, rfl, rowY, b10⟩
        have C10 := bon C9 b10
        have HYV : Hid (EntsAt w10 yv d) := rowY.at
        have A10 := rowY.at
        obtain ⟨ay, cay, rfl, -, -⟩ := A10
        have K6 := HRP.out w10 (bon BE C10)
        rw [HF.out.resp] at K6
        dsimp only at K6
        clear K5 rowY b10
        go_wp2_with fail
        refine K6.mono ?_
        rintro e w11 ⟨zv, rfl, rowZ, b11⟩
        have C11 := bon C10 b11
        have HZV : Hid (EntsAt w11 zv z) := rowZ.at
        have A11 := rowZ.at
        obtain ⟨az, caz, rfl, -, -⟩ := A11
        have K7 := HLZ.out _ w11 HZV.out (bon BE C11)
        rw [HF.out.lookZ] at K7
        dsimp only at K7
        clear K6 rowZ
        go_wp2_with fail
        refine K7.mono ?_
        rintro e w12 ⟨rfl, b12⟩
        have C12 := bon C11 b12
        have bG := below_lit w12 (.cells #[.int .i64 e0, .int .i64 e1, .string e2, .int .i64 5] 34)
        have cG := new_cells w12 e0 e1 e2 5
        have hsG := hs_alloc w12 (.cells #[.int .i64 e0, .int .i64 e1, .string e2, .int .i64 5] 34)
        have CG := bon C12 bG
        obtain ⟨wG, HWG⟩ : ∃ wG, Hid (wG = w12.alloc (.cells #[.int .i64 e0, .int .i64 e1, .string e2, .int .i64 5] 34)) := ⟨_, rfl⟩
        rw [← HWG.out] at bG cG hsG CG
        have K8 := HSD.out _ d wG (by rw [HDN.out]; omega) (HYV.out.below (bon (bon b11 b12) bG)) (bon HB12.out (bon BE CG))
        rw [decide_eq_true rfl] at K8
        have HZG := HZV.out.below (bon b12 bG)
        have HZG : Hid (EntsAt wG _ z) := HZG
        clear K7 b12 b11 bG
        go_wp2_with fail
        rw [← HWG.out]
        refine K8.mono ?_
        rintro e w13 ⟨rfl, b13⟩
        have K9 := HDZ.out _ w13 (HZG.out.below b13)
        rw [HF.out.rightZ] at K9
        clear K8
        go_wp2_with fail
        refine K9.mono ?_
        rintro e w14 ⟨rfl, b14⟩
        have C14 := bon CG (bon b13 b14)
        have cG14 := cG.below (by omega) (bon b13 b14)
        have cE14 := HEC.out w14 C14
        have p0 := cG14.c0
        have p1 := cG14.c1
        have p3 := cG14.c3
        have r0 := cE14.c0
        have r1 := cE14.c1
        dsimp only [Nat.zero_add] at p0 p1 p3 r0 r1
        have D14 := HBB.out _ (bon BE C14)
        clear K9 cG cG14 cE14 b13 b14 C9 C10 C11 C12 CG CF C7 C8
        go_wp2
        go_ret
        exact ⟨rfl, D14⟩

end Go.Proofs.YtmhblmonigakbaaGreatDoor
