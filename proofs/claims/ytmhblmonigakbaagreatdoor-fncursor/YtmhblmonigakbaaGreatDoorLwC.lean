/- The law of going through a directory while it is changed: its walk. -/
import Derived.Test.YtmhblmonigakbaaGreatDoorRows
import Derived.Test.YtmhblmonigakbaaGreatDoorCuB
import Derived.Test.YtmhblmonigakbaaGreatDoorMw
import Derived.Deep.CutRange
import Derived.Deep.CutBlock
namespace Go.Proofs.YtmhblmonigakbaaGreatDoor
open Go.RowKit

set_option maxRecDepth 100000 in
set_option maxHeartbeats 16000000 in
theorem cursor_walk (S : Src) (ok : S.ok) (w : World) (hl : Lies S w) (hT : Tabs w) (hC : CrcTab w) :
    Calls Tryz.prog 4 #[.slice S.a S.len S.cap] w fun e w' => e = .returned (.bool true) ∧ Below w.heap.size w w' := by
  have hlen : S.len ≤ 1048576 := ok.1
  have HTT : Hid (Tabs w) := hT
  have HCC : Hid (CrcTab w) := hC
  have HAT : Hid (∀ j : Nat, j ≤ 100 → ∀ W, Below w.heap.size w W → Calls Tryz.prog 16 #[.slice S.a S.len S.cap, .int .i64 j] W fun e w' => ∃ r : Int, e = .returned (.int .i64 r) ∧ W = w') := fun j hj W hW => at_any S ok j hj W (hl.below hW)
  have HFR : Hid (∀ j : Nat, j < 100 → ∀ W, Below w.heap.size w W → Calls Tryz.prog 17 #[.slice S.a S.len S.cap, .int .i64 j] W fun e w' => ∃ S' : Src, e = .returned (.slice S'.a S'.len S'.cap) ∧ S'.ok ∧ Lies S' w' ∧ Below W.heap.size W w') := fun j hj W hW => freshN_any S ok j hj W (hl.below hW)
  have HAD : Hid (∀ u d s W, Below w.heap.size w W → EntsAt W u d → Shorts d → s.size ≤ 1048576 → d.length ≤ 1048576 → Calls Tryz.prog 7 #[u, .string s, .int .i64 3] W fun e w' => ∃ x, e = .returned (.tuple #[x, .bool (addN d s 3).2]) ∧ EntRow w' W.heap.size x (addN d s 3).1 ∧ Below W.heap.size W w') := fun u d s W hW hu hd hs hn => iAdd u d s 3 W (HTT.out.below hW) (HCC.out.below hW) hu hd hs hn
  have HDR : Hid (∀ u d s W, Below w.heap.size w W → EntsAt W u d → Shorts d → s.size ≤ 1048576 → d.length ≤ 1048576 → Calls Tryz.prog 14 #[u, .string s] W fun e w' => ∃ x, e = .returned (.tuple #[x, .bool (dropN d s).2]) ∧ EntRow w' W.heap.size x (dropN d s).1 ∧ Below W.heap.size W w') := fun u d s W hW hu hd hs hn => iDrop u d s W (HTT.out.below hW) (HCC.out.below hW) hu hd hs hn
  have HNX : Hid (∀ u d h k W, Below w.heap.size w W → EntsAt W u d → Shorts d → d.length ≤ 1048576 → Calls Tryz.prog 19 #[u, .int .i64 h, .int .i64 k] W fun e w' => e = .returned (.tuple #[.agg #[.int .i64 (nextN d h k).1.hash, .int .i64 (nextN d h k).1.index, .string (nextN d h k).1.name, .int .i64 (nextN d h k).1.id], .bool (nextN d h k).2]) ∧ Below W.heap.size W w') := fun u d h k W hW hu hd hn => iNext u d h k W (HTT.out.below hW) (HCC.out.below hW) hu hd hn
  clear hT hC
  go_enter Tryz.func4, Tryz.ntmps4
  go_wp2_with (first | (go_at_call 5; go_in))
  refine (drawAdd_any S ok _ hl).mono ?_
  rintro _ w1 ⟨v, d0, s0, id0, rfl, row1, hsh, hdl, hsl, b1⟩
  have HR1 : Hid (EntRow w1 w.heap.size v d0) := row1
  have HS1 : Hid (Shorts d0) := hsh
  clear hl ok row1 hsh
  go_wp2_with fail
  refine (sDirOk v d0 w1 HR1.out.at HS1.out (by omega)).mono ?_
  rintro e w2 ⟨rfl, b2⟩
  have B2 : Below w.heap.size w w2 := b1.trans (b2.mono b1.size)
  have HR2 : Hid (EntRow w2 w.heap.size v d0) := HR1.out.below b2
  have HRT : Hid (dirB d0 = true → Right d0) := fun h => dirB_iff.1 h
  generalize dirB d0 = q at HRT
  go_upto_if 45 with fail
  go_cut [3] from 43 to 46 (fun dv wx => Hid (∃ d, EntRow wx w.heap.size dv d ∧ Right d ∧ Shorts d) ∧ Below w.heap.size w wx)
  case first =>
    cases q
    · have hr3 := lit_ents w2
      have hb3 := below_lit w2 (.cells #[] 34)
      go_wp2_with fail
      go_meet
      exact ⟨⟨[], hr3.mono B2.size, Right.nil, Shorts.nil⟩, B2.trans (hb3.mono B2.size)⟩
    · go_wp2_with fail
      go_meet
      exact ⟨⟨d0, HR2.out, HRT.out trivial, HS1.out⟩, B2⟩
  case rest =>
    obtain ⟨HD, BC⟩ := hcut
    obtain ⟨d0', rowd, hR, hsd⟩ := HD.out
    have hsd : Hid (Shorts d0') := hsd
    have hR : Hid (Right d0') := hR
    have HDL : Hid (d0'.length ≤ 12) := hR.out.len
    have hb3 := below_lit wc (.cells #[] 34)
    have row3 := lit_ents wc
    have hv3 := rowd.at.below hb3
    have HRD : Hid (EntRow wc w.heap.size u3 d0') := rowd
    have HLL : Hid (([] : List En).length + d0'.length ≤ 1099511627776) := by show _ ≤ _; have := HDL.out; simp; omega
    clear HD HR1 HR2 HS1 HRT b1 b2 B2 rowd
    obtain ⟨a3, ca3, rfl, -, -⟩ := HRD.out.at
    obtain ⟨nd, HND⟩ : ∃ nd, Hid (nd = d0'.length) := ⟨_, rfl⟩
    rw [← HND.out] at hv3 HRD ⊢
    go_upto_block 0 with (first
      | (at_builtin; refine append_ents _ rfl (.tmp 47) (.tmp 48) rfl wc.heap.size _ _ [] d0' HLL.out row3 hv3 rfl rfl hb3.size ?_; intro v4 w4 row4 b4; rw [List.nil_append] at row4; have b4c := hb3.trans b4; have hb5 := below_lit w4 (.cells #[] 34); have row5 := lit_ents w4; have b5c := b4c.trans (hb5.mono b4c.size); have hv5 := HRD.out.at.below b5c; have HR4 : Hid (EntRow w4 wc.heap.size v4 d0') := row4; clear row4 hv3 row3)
      | (at_builtin; refine append_ents _ rfl (.tmp 50) (.tmp 51) rfl w4.heap.size _ _ [] d0' HLL.out row5 hv5 rfl rfl hb5.size ?_; intro v6 w6 row6 b6; rw [List.nil_append] at row6; have b6c := hb5.trans b6; have HR6 : Hid (EntRow w6 w4.heap.size v6 d0') := row6; clear row6 hv5 row5))
    have hb7 := below_lit w6 (.cells #[] 34)
    have row7 := lit_ents w6
    have HF0 : Hid (Four (w6.alloc (.cells #[] 34)) w.heap.size (.slice a3 nd ca3) v4 v6 (.slice (some ⟨w6.heap.size, 0, none⟩) 0 0) d0' d0' d0' []) := by
      have c1 : Below wc.heap.size wc w6 := b4c.trans (b6c.mono b4c.size)
      have r4 := HR4.out.below b6c
      exact ⟨(HRD.out.below c1).below hb7, (r4.mono BC.size).below hb7, ((HR6.out.mono (Nat.le_trans BC.size b4c.size))).below hb7, row7.mono (Nat.le_trans (Nat.le_trans BC.size b4c.size) b6c.size), (off_new HRD.out HR4.out (Nat.le_refl _)).symm, off_new HR4.out HR6.out (Nat.le_refl _), off_new r4 row7 (Nat.le_refl _), (off_new (HRD.out.below c1) row7 (Nat.le_refl _)).symm, (off_new HR6.out row7 (Nat.le_refl _)).symm⟩
    have HG0 : Hid (Goes d0' d0' d0' [] (-1) (-1) 0) := ⟨CurI.start hR.out, hsd.out, by have := HDL.out; omega, by simp, HDL.out⟩
    have HB0 : Hid (Below w.heap.size w (w6.alloc (.cells #[] 34))) := by
      have c1 : Below wc.heap.size wc w6 := b4c.trans (b6c.mono b4c.size)
      have c2 := c1.trans (hb7.mono c1.size)
      exact BC.trans (c2.mono BC.size)
    clear hb3 hb5 hb7 row7 HR4 HR6 HRD b4 b4c b5c b6 b6c BC HLL hdl
    go_cut [3, 6, 7, 8, 9, 10, 11, 12, 13, 14, 15, 16, 17, 18, 19, 20, 21, 22, 23] from 54 to 163 (fun dv ev av sv hv kv _ _ _ _ _ _ _ _ _ _ _ _ _ wx => ∃ (d ever all seen : List En) (h k : Int), hv = .int .i64 h ∧ kv = .int .i64 k ∧ Hid (Four wx w.heap.size dv ev av sv d ever all seen) ∧ Hid (CurI d ever all seen h k) ∧ Hid (Shorts d) ∧ Hid (ever.length ≤ 73) ∧ Hid (seen.length ≤ 60) ∧ Hid (all.length ≤ 12) ∧ Hid (Below w.heap.size w wx))
    case rest =>
      clear HF0 HG0 HB0 hR hsd HDL HND
      obtain ⟨d, ever, all, seen, h, k, rfl, rfl, HF4, HC0, HSH, HLE, HLS, HLA, HB4⟩ := hcut
      go_upto_block 4 with fail
      go_cut [8, 9, 10, 24, 25, 26] from 164 to 183 (fun sv hv kv _ _ _ wx => ∃ (seen' : List En) (h' k' : Int), hv = .int .i64 h' ∧ kv = .int .i64 k' ∧ Hid (Four wx w.heap.size u3 u6 u7 sv d ever all seen') ∧ Hid (CurI d ever all seen' h' k') ∧ Hid (seen'.length ≤ 74) ∧ Hid ((nextN d h' k').2 = false) ∧ Hid (Below w.heap.size w wx))
      case first =>
       go_wp2_with fail
       go_loopw [8, 9, 10, 24] (fun sv hv kv jv wx => ∃ (seen' : List En) (h' k' : Int) (j : Nat), j ≤ 14 ∧ hv = .int .i64 h' ∧ kv = .int .i64 k' ∧ jv = .int .i64 j ∧ Hid (Four wx w.heap.size u3 u6 u7 sv d ever all seen') ∧ Hid (CurI d ever all seen' h' k') ∧ Hid (seen'.length ≤ 60 + j) ∧ Hid (leftN d h' k' + j ≤ 12 ∨ (nextN d h' k').2 = false) ∧ Hid (Below w.heap.size w wx)) (fun _ _ _ jv _ => 14 - (intOf jv).toNat)
       case atStart => exact ⟨seen, h, k, 0, by omega, rfl, rfl, rfl, HF4, HC0, HLS.out, .inl (left_le HC0.out.right h k), HB4⟩
       case round =>
         clear HF4 HB4 HC0 HLS
         obtain ⟨seen, h, k, j, hj, rfl, rfl, rfl, HF, HC, HLS, HLF, HB⟩ := hrel
         by_cases h14 : j < 14
         · have h14z : (j : Int) < 14 := by omega
           obtain ⟨X, HX⟩ : ∃ X, Hid (nextN d h k = X) := ⟨_, rfl⟩
           have HN := HNX.out u3 d h k wr HB.out HF.out.d.at HSH.out (by have := HC.out.right.len; omega)
           rw [HX.out] at HN
           obtain ⟨⟨x0, x1, x2, x3⟩, isb⟩ := X
           dsimp only at HN
           go_wp2_with fail
           refine HN.mono ?_
           rintro e w5 ⟨rfl, b5⟩
           have hb8 := below_lit w5 (.cells #[.int .i64 x0, .int .i64 x1, .string x2, .int .i64 x3] 34)
           have hs8 := hs_alloc w5 (.cells #[.int .i64 x0, .int .i64 x1, .string x2, .int .i64 x3] 34)
           have hb9 := below_lit (w5.alloc (.cells #[.int .i64 x0, .int .i64 x1, .string x2, .int .i64 x3] 34)) (.cells #[.int .i64 x0, .int .i64 x1, .string x2, .int .i64 x3] 34)
           have c9 := new_cells (w5.alloc (.cells #[.int .i64 x0, .int .i64 x1, .string x2, .int .i64 x3] 34)) x0 x1 x2 x3
           rw [hs8] at c9
           clear HN
           cases isb
           · have HF5 : Hid (Four (w5.alloc (.cells #[.int .i64 x0, .int .i64 x1, .string x2, .int .i64 x3] 34)) w.heap.size u3 u6 u7 u8 d ever all seen) := HF.out.below (bon b5 hb8)
             have HB5 : Hid (Below w.heap.size w (w5.alloc (.cells #[.int .i64 x0, .int .i64 x1, .string x2, .int .i64 x3] 34))) := HB.out.trans ((bon b5 hb8).mono HB.out.size)
             have HLN : Hid (leftN d h k + (j + 1) ≤ 12 ∨ (nextN d h k).2 = false) := .inr (by rw [HX.out])
             have HLS2 : Hid (seen.length ≤ 60 + (j + 1)) := by have := HLS.out; show _ ≤ _; omega
             clear hb8 hb9 c9 hs8 b5 HF HB HX
             go_wp2
             go_roundw
             case rel => first | exact ⟨seen, h, k, j + 1, by omega, rfl, rfl, by go_num, HF5, HC, HLS2, HLN, HB5⟩ | ((repeat apply Exists.intro); exact ⟨⟨seen, h, k, j + 1, by omega, rfl, rfl, by go_num, HF5, HC, HLS2, HLN, HB5⟩, rfl⟩)
             case measure => simp [intOf]; omega
           · have HCN : Hid (CurI d ever all (seen ++ [⟨x0, x1, x2, x3⟩]) x0 x1) := by
               have h1 := HC.out.next (by rw [HX.out])
               rw [HX.out] at h1
               exact h1
             have HLN : Hid (leftN d x0 x1 + (j + 1) ≤ 12 ∨ (nextN d x0 x1).2 = false) := by
               have h1 := left_next (d := d) (h := h) (k := k) (by rw [HX.out])
               rw [HX.out] at h1
               dsimp only at h1
               rcases HLF.out with h2 | h2
               · left; omega
               · rw [HX.out] at h2; cases h2
             have HLS2 : Hid ((seen ++ [(⟨x0, x1, x2, x3⟩ : En)]).length ≤ 60 + (j + 1)) := by have := HLS.out; show _ ≤ _; rw [List.length_append]; simp; omega
             have HF8 : Hid (Four ((w5.alloc (.cells #[.int .i64 x0, .int .i64 x1, .string x2, .int .i64 x3] 34)).alloc (.cells #[.int .i64 x0, .int .i64 x1, .string x2, .int .i64 x3] 34)) w.heap.size u3 u6 u7 u8 d ever all seen) := HF.out.below (bon (bon b5 hb8) hb9)
             have HB8 : Hid (Below w.heap.size w ((w5.alloc (.cells #[.int .i64 x0, .int .i64 x1, .string x2, .int .i64 x3] 34)).alloc (.cells #[.int .i64 x0, .int .i64 x1, .string x2, .int .i64 x3] 34))) := HB.out.trans ((bon (bon b5 hb8) hb9).mono HB.out.size)
             have HC9 : Hid (CellsE ((w5.alloc (.cells #[.int .i64 x0, .int .i64 x1, .string x2, .int .i64 x3] 34)).alloc (.cells #[.int .i64 x0, .int .i64 x1, .string x2, .int .i64 x3] 34)) (w5.heap.size + 1) 0 ⟨x0, x1, x2, x3⟩) := c9
             have HLL : Hid (seen.length + 1 ≤ 1048576) := by have := HLS.out; show _ ≤ _; omega
             clear hb8 hb9 c9 hs8 b5 HX HF HB
             go_wp2_with (at_builtin; refine append_entH _ rfl (.tmp 180) (.tmp 182) rfl w.heap.size _ (w5.heap.size + 1) 1 seen ⟨x0, x1, x2, x3⟩ HLL.out HF8.out.s HC9.out rfl rfl HB8.out.size ?_; intro v9 w9 row9 g9 l9; have HF9 : Hid (Four w9 w.heap.size u3 u6 u7 v9 d ever all (seen ++ [⟨x0, x1, x2, x3⟩])) := HF8.out.addS row9 g9 l9; have B9 : Hid (Below w.heap.size w w9) := HB8.out.trans ((Below.refl _ _).grown g9 HB8.out.size (fun kk hk => (World.ownsRow.lt HF8.out.s kk hk).1)); clear row9 g9 l9)
             go_roundw
             case rel => first | exact ⟨seen ++ [⟨x0, x1, x2, x3⟩], x0, x1, j + 1, by omega, rfl, rfl, by go_num, HF9, HCN, HLS2, HLN, B9⟩ | ((repeat apply Exists.intro); exact ⟨⟨seen ++ [⟨x0, x1, x2, x3⟩], x0, x1, j + 1, by omega, rfl, rfl, by go_num, HF9, HCN, HLS2, HLN, B9⟩, rfl⟩)
             case measure => simp [intOf]; omega
         · obtain rfl : j = 14 := by omega
           have HDN : Hid ((nextN d h k).2 = false) := by
             rcases HLF.out with h1 | h1
             · omega
             · exact h1
           have HL4 : Hid (seen.length ≤ 74) := HLS
           go_wp2_with fail
           go_meet
           exact ⟨seen, h, k, rfl, rfl, HF, HC, HL4, HDN, HB⟩
      case rest =>
        clear HF4 HB4 HC0 HLS
        obtain ⟨seen, h, k, rfl, rfl, HF, HC, HLS, HDN, HB⟩ := hcut
        obtain ⟨wT, HWT⟩ : ∃ wT, wT = wc := ⟨_, rfl⟩
        subst HWT
        have HCT : Hid (∀ t, t < all.length → seen.countP (fun x => decide (x = all[t]!)) = 1) := fun t ht => HC.out.done HDN.out _ (by rw [getElem!_pos all t ht]; exact List.getElem_mem ht)
        have HWS : Hid (∀ t, t < seen.length → ever.any (fun x => decide (x = seen[t]!)) = true) := fun t ht => by
          rw [List.any_eq_true]
          exact ⟨seen[t]!, HC.out.was _ (by rw [getElem!_pos seen t ht]; exact List.getElem_mem ht), by simp⟩
        have HNN : Hid (Calls Tryz.prog 19 #[u3, .int .i64 h, .int .i64 k] _ _) := HNX.out u3 d h k wT HB.out HF.out.d.at HSH.out (by have := HC.out.right.len; omega)
        have HNW := fun W (hW : Below wT.heap.size wT W) => HNX.out u3 d h k W (HB.out.trans (hW.mono HB.out.size)) (HF.out.d.at.below hW) HSH.out (by have := HC.out.right.len; omega)
        have HNX2 : Hid (∀ W, Below wT.heap.size wT W → _) := HNW
        obtain ⟨a7, c7, e7, -, hva⟩ := HF.out.a.at
        obtain ⟨a8, c8, e8, -, hvs⟩ := HF.out.s.at
        obtain ⟨a6, c6, e6, -, hve⟩ := HF.out.e.at
        obtain ⟨n7, HN7⟩ : ∃ n7, Hid (n7 = all.length) := ⟨_, rfl⟩
        obtain ⟨n8, HN8⟩ : ∃ n8, Hid (n8 = seen.length) := ⟨_, rfl⟩
        obtain ⟨n6, HN6⟩ : ∃ n6, Hid (n6 = ever.length) := ⟨_, rfl⟩
        rw [← HN7.out] at e7 hva HCT HLA
        rw [← HN8.out] at e8 hvs HWS HLS
        rw [← HN6.out] at e6 hve HLE
        have HVA : Hid (∀ t, t < n7 → ∃ b off, a7 = some ⟨b, off, none⟩ ∧ b < wT.heap.size ∧ CellsE wT b (off + t * 4) all[t]!) := hva
        have HVS : Hid (∀ t, t < n8 → ∃ b off, a8 = some ⟨b, off, none⟩ ∧ b < wT.heap.size ∧ CellsE wT b (off + t * 4) seen[t]!) := hvs
        have HVE : Hid (∀ t, t < n6 → ∃ b off, a6 = some ⟨b, off, none⟩ ∧ b < wT.heap.size ∧ CellsE wT b (off + t * 4) ever[t]!) := hve
        have HTS : Hid (∀ t, t < n8 → seen.take (t + 1) = seen.take t ++ [seen[t]!]) := fun t ht => by rw [List.take_succ_eq_append_getElem (by rw [← HN8.out]; exact ht), getElem!_pos seen t (by rw [← HN8.out]; exact ht)]
        have HTE : Hid (∀ t, t < n6 → ever.take (t + 1) = ever.take t ++ [ever[t]!]) := fun t ht => by rw [List.take_succ_eq_append_getElem (by rw [← HN6.out]; exact ht), getElem!_pos ever t (by rw [← HN6.out]; exact ht)]
        have HT8 : Hid (seen.take n8 = seen) := by show _ = _; rw [HN8.out, List.take_length]
        have HT6 : Hid (ever.take n6 = ever) := by show _ = _; rw [HN6.out, List.take_length]
        have hn7 : n7 ≤ 12 := HLA.out
        have hn8 : n8 ≤ 74 := HLS.out
        have hn6 : n6 ≤ 73 := HLE.out
        subst e7 e8 e6
        have HBT : Hid (Below w.heap.size w wT) := HB
        clear hva hvs hve HF HC HB HNN HNW HNX HAT HFR HAD HDR HTT HCC HSH HLE HLS HLA
        go_upto_block 6 with fail
        go_cut [27, 28, 29] from 184 to 208 (fun _ _ _ wx => Hid (Below wT.heap.size wT wx))
        case first =>
         go_wp2_with fail
         go_loopw [27] (fun iv wx => ∃ i : Nat, i ≤ n7 ∧ iv = .int .i64 i ∧ Hid (Below wT.heap.size wT wx)) (fun iv _ => n7 - (intOf iv).toNat)
         case atStart => exact ⟨0, Nat.zero_le _, rfl, Below.refl _ _⟩
         case round =>
           obtain ⟨i, hi, rfl, HBI⟩ := hrel
           by_cases hin : i < n7
           · have HC1 := HCT.out i hin
             have HC1 : Hid (seen.countP (fun x => decide (x = all[i]!)) = 1) := HC1
             obtain ⟨b1, o1, rfl, hb1, hc1⟩ := HVA.out i hin
             have HY : Hid (CellsE wT b1 (o1 + i * 4) all[i]! ∧ b1 < wT.heap.size) := ⟨hc1, hb1⟩
             generalize all[i]! = y at HC1 HY
             obtain ⟨y0, y1, y2, y3⟩ := y
             have hiz : (i : Int) < (n7 : Int) := by omega
             have hi0 : (0 : Int) ≤ (i : Int) := by omega
             clear hc1
             go_wp2
             go_loopw [28, 29] (fun nv kv wx => ∃ j c : Nat, j ≤ n8 ∧ c ≤ j ∧ kv = .int .i64 j ∧ nv = .int .i64 c ∧ Hid (c = (seen.take j).countP (fun x => decide (x = ⟨y0, y1, y2, y3⟩))) ∧ Hid (Below wT.heap.size wT wx)) (fun _ kv _ => n8 - (intOf kv).toNat)
             case atStart => exact ⟨0, 0, Nat.zero_le _, Nat.le_refl _, rfl, rfl, by show _ = _; simp, HBI⟩
             case round =>
               obtain ⟨j, c, hj, hcj, rfl, rfl, HCC, HBJ⟩ := hrel
               by_cases hjn : j < n8
               · obtain ⟨b2, o2, rfl, hb2, hc2⟩ := HVS.out j hjn
                 have HTJ := HTS.out j hjn
                 generalize seen[j]! = z at hc2 HTJ
                 obtain ⟨z0, z1, z2, z3⟩ := z
                 have hc2 := hc2.below hb2 HBJ.out
                 have hc1 := HY.out.1.below HY.out.2 HBJ.out
                 have hEQ := fun w' => eqE ⟨z0, z1, z2, z3⟩ ⟨y0, y1, y2, y3⟩ w'
                 dsimp only at hEQ
                 obtain ⟨qe, HQE⟩ : ∃ qe : Bool, Hid (decide ((⟨z0, z1, z2, z3⟩ : En) = ⟨y0, y1, y2, y3⟩) = qe) := ⟨_, rfl⟩
                 rw [HQE.out] at hEQ
                 have HCN : Hid ((seen.take (j + 1)).countP (fun x => decide (x = ⟨y0, y1, y2, y3⟩)) = c + (if qe then 1 else 0)) := by
                   show _ = _
                   rw [HTJ, List.countP_append, ← HCC.out, List.countP_cons, List.countP_nil, HQE.out]
                   cases qe <;> simp
                 have p0 := cell_regrown hc2.c0
                 have p1 := cell_regrown hc2.c1
                 have p2 := cell_regrown hc2.c2
                 have p3 := cell_regrown hc2.c3
                 have q0 := cell_regrown hc1.c0
                 have q1 := cell_regrown hc1.c1
                 have q2 := cell_regrown hc1.c2
                 have q3 := cell_regrown hc1.c3
                 dsimp only at p0 p1 p2 p3 q0 q1 q2 q3
                 have hjz : (j : Int) < (n8 : Int) := by omega
                 have hj0 : (0 : Int) ≤ (j : Int) := by omega
                 clear hc1 hc2 HTJ HQE
                 cases qe
                 · have HC2 : Hid (c = (seen.take (j + 1)).countP (fun x => decide (x = ⟨y0, y1, y2, y3⟩))) := by show _ = _; rw [HCN.out]; rfl
                   go_wp2
                   refine wp_region_quiet_below (by kernel_rfl) (by kernel_rfl) ?_
                   repeat (go_big_quiet_step (fail))
                   refine wpQuiet_nil ?_
                   rintro w' ⟨⟨dq, osq⟩, rfl⟩
                   have hbq := below_regrown wr dq osq
                   generalize Go.Sort.grow (redrawn wr dq) osq = wz at hbq ⊢
                   have HBZ : Hid (Below wT.heap.size wT wz) := HBJ.out.trans (hbq.mono HBJ.out.size)
                   clear p0 p1 p2 p3 q0 q1 q2 q3 hEQ HCN
                   go_wp2
                   go_roundw
                   case rel => first | exact ⟨j + 1, c, by omega, by omega, by go_num, rfl, HC2, HBZ⟩ | ((repeat apply Exists.intro); exact ⟨⟨j + 1, c, by omega, by omega, by go_num, rfl, HC2, HBZ⟩, rfl⟩)
                   case measure => simp [intOf]; omega
                 · have HC2 : Hid (c + 1 = (seen.take (j + 1)).countP (fun x => decide (x = ⟨y0, y1, y2, y3⟩))) := by show _ = _; rw [HCN.out]; rfl
                   go_wp2
                   refine wp_region_quiet_below (by kernel_rfl) (by kernel_rfl) ?_
                   repeat (go_big_quiet_step (fail))
                   refine wpQuiet_nil ?_
                   rintro w' ⟨⟨dq, osq⟩, rfl⟩
                   have hbq := below_regrown wr dq osq
                   generalize Go.Sort.grow (redrawn wr dq) osq = wz at hbq ⊢
                   have HBZ : Hid (Below wT.heap.size wT wz) := HBJ.out.trans (hbq.mono HBJ.out.size)
                   clear p0 p1 p2 p3 q0 q1 q2 q3 hEQ HCN
                   go_wp2
                   go_roundw
                   case rel => first | exact ⟨j + 1, c + 1, by omega, by omega, by go_num, by go_num, HC2, HBZ⟩ | ((repeat apply Exists.intro); exact ⟨⟨j + 1, c + 1, by omega, by omega, by go_num, by go_num, HC2, HBZ⟩, rfl⟩)
                   case measure => simp [intOf]; omega
               · obtain rfl : j = n8 := by omega
                 obtain rfl : c = 1 := by have h1 := HCC.out; rw [HT8.out, HC1.out] at h1; exact h1
                 go_wp2
                 go_roundw
                 case rel => first | exact ⟨i + 1, by omega, by go_num, HBJ⟩ | ((repeat apply Exists.intro); exact ⟨⟨i + 1, by omega, by go_num, HBJ⟩, rfl⟩)
                 case measure => simp [intOf]; omega
           · obtain rfl : i = n7 := by omega
             go_wp2_with fail
             go_meet
             exact HBI
        case rest =>
          have HBK : Hid (Below wT.heap.size wT wc) := hcut
          go_upto_block 10 with fail
          go_cut [30, 31, 32] from 209 to 234 (fun _ _ _ wx => Hid (Below wT.heap.size wT wx))
          case first =>
            go_wp2_with fail
            go_loopw [30] (fun kv wx => ∃ j : Nat, j ≤ n8 ∧ kv = .int .i64 j ∧ Hid (Below wT.heap.size wT wx)) (fun kv _ => n8 - (intOf kv).toNat)
            case atStart => exact ⟨0, Nat.zero_le _, rfl, HBK⟩
            case round =>
              clear HBK
              obtain ⟨j, hj, rfl, HBJ⟩ := hrel
              by_cases hjn : j < n8
              · have HW1 : Hid (ever.any (fun x => decide (x = seen[j]!)) = true) := HWS.out j hjn
                obtain ⟨b1, o1, rfl, hb1, hc1⟩ := HVS.out j hjn
                have HY : Hid (CellsE wT b1 (o1 + j * 4) seen[j]! ∧ b1 < wT.heap.size) := ⟨hc1, hb1⟩
                generalize seen[j]! = y at HW1 HY
                obtain ⟨y0, y1, y2, y3⟩ := y
                have hjz : (j : Int) < (n8 : Int) := by omega
                have hj0 : (0 : Int) ≤ (j : Int) := by omega
                clear hc1
                go_wp2
                go_loopw [31, 32] (fun wv iv wx => ∃ (i : Nat) (b : Bool), i ≤ n6 ∧ iv = .int .i64 i ∧ wv = .bool b ∧ Hid (b = (ever.take i).any (fun x => decide (x = ⟨y0, y1, y2, y3⟩))) ∧ Hid (Below wT.heap.size wT wx)) (fun _ iv _ => n6 - (intOf iv).toNat)
                case atStart => exact ⟨0, false, Nat.zero_le _, rfl, rfl, by show _ = _; simp, HBJ⟩
                case round =>
                  obtain ⟨i, b, hi, rfl, rfl, HBB, HBI⟩ := hrel
                  by_cases hin : i < n6
                  · obtain ⟨b2, o2, rfl, hb2, hc2⟩ := HVE.out i hin
                    have HTJ := HTE.out i hin
                    generalize ever[i]! = z at hc2 HTJ
                    obtain ⟨z0, z1, z2, z3⟩ := z
                    have hc2 := hc2.below hb2 HBI.out
                    have hc1 := HY.out.1.below HY.out.2 HBI.out
                    have hEQ := fun w' => eqE ⟨z0, z1, z2, z3⟩ ⟨y0, y1, y2, y3⟩ w'
                    dsimp only at hEQ
                    obtain ⟨qe, HQE⟩ : ∃ qe : Bool, Hid (decide ((⟨z0, z1, z2, z3⟩ : En) = ⟨y0, y1, y2, y3⟩) = qe) := ⟨_, rfl⟩
                    rw [HQE.out] at hEQ
                    have HCN : Hid ((b || qe) = (ever.take (i + 1)).any (fun x => decide (x = ⟨y0, y1, y2, y3⟩))) := by
                      show _ = _
                      rw [HTJ, List.any_append, ← HBB.out, List.any_cons, List.any_nil, HQE.out, Bool.or_false]
                    have p0 := cell_regrown hc2.c0
                    have p1 := cell_regrown hc2.c1
                    have p2 := cell_regrown hc2.c2
                    have p3 := cell_regrown hc2.c3
                    have q0 := cell_regrown hc1.c0
                    have q1 := cell_regrown hc1.c1
                    have q2 := cell_regrown hc1.c2
                    have q3 := cell_regrown hc1.c3
                    dsimp only at p0 p1 p2 p3 q0 q1 q2 q3
                    have hiz : (i : Int) < (n6 : Int) := by omega
                    have hi0 : (0 : Int) ≤ (i : Int) := by omega
                    clear hc1 hc2 HTJ HQE HBB
                    cases b
                    · go_wp2
                      refine wp_region_quiet_below (by kernel_rfl) (by kernel_rfl) ?_
                      repeat (go_big_quiet_step (fail))
                      refine wpQuiet_nil ?_
                      rintro w' ⟨⟨dq, osq⟩, rfl⟩
                      have hbq := below_regrown wr dq osq
                      generalize Go.Sort.grow (redrawn wr dq) osq = wz at hbq ⊢
                      have HBZ : Hid (Below wT.heap.size wT wz) := HBI.out.trans (hbq.mono HBI.out.size)
                      have HC2 : Hid (qe = (ever.take (i + 1)).any (fun x => decide (x = ⟨y0, y1, y2, y3⟩))) := by have h1 := HCN.out; rwa [Bool.false_or] at h1
                      clear p0 p1 p2 p3 q0 q1 q2 q3 hEQ HCN
                      go_wp2
                      go_roundw
                      case rel => first | exact ⟨i + 1, qe, by omega, by go_num, rfl, HC2, HBZ⟩ | ((repeat apply Exists.intro); exact ⟨⟨i + 1, qe, by omega, by go_num, rfl, HC2, HBZ⟩, rfl⟩)
                      case measure => simp [intOf]; omega
                    · go_wp2
                      refine wp_region_quiet_below (by kernel_rfl) (by kernel_rfl) ?_
                      repeat (go_big_quiet_step (fail))
                      refine wpQuiet_nil ?_
                      rintro w' ⟨⟨dq, osq⟩, rfl⟩
                      have hbq := below_regrown wr dq osq
                      generalize Go.Sort.grow (redrawn wr dq) osq = wz at hbq ⊢
                      have HBZ : Hid (Below wT.heap.size wT wz) := HBI.out.trans (hbq.mono HBI.out.size)
                      have HC2 : Hid (true = (ever.take (i + 1)).any (fun x => decide (x = ⟨y0, y1, y2, y3⟩))) := by have h1 := HCN.out; rwa [Bool.true_or] at h1
                      clear p0 p1 p2 p3 q0 q1 q2 q3 hEQ HCN
                      go_wp2
                      go_roundw
                      case rel => first | exact ⟨i + 1, true, by omega, by go_num, rfl, HC2, HBZ⟩ | ((repeat apply Exists.intro); exact ⟨⟨i + 1, true, by omega, by go_num, rfl, HC2, HBZ⟩, rfl⟩)
                      case measure => simp [intOf]; omega
                  · obtain rfl : i = n6 := by omega
                    obtain rfl : b = true := by have h1 := HBB.out; rw [HT6.out, HW1.out] at h1; exact h1
                    go_wp2
                    go_roundw
                    case rel => first | exact ⟨j + 1, by omega, by go_num, HBI⟩ | ((repeat apply Exists.intro); exact ⟨⟨j + 1, by omega, by go_num, HBI⟩, rfl⟩)
                    case measure => simp [intOf]; omega
              · obtain rfl : j = n8 := by omega
                go_wp2_with fail
                go_meet
                exact HBJ
          case rest =>
            have HBL : Hid (Below wT.heap.size wT wc) := hcut
            have HNE := HNX2.out wc HBL.out
            rw [HDN.out] at HNE
            generalize (nextN d h k).1 = z at HNE
            obtain ⟨z0, z1, z2, z3⟩ := z
            dsimp only at HNE
            have D5 : Hid (Below w.heap.size w wc) := HBT.out.trans (HBL.out.mono HBT.out.size)
            clear HVS HVE HTS HTE HWS HVA HCT
            go_wp2_with fail
            refine HNE.mono ?_
            rintro e w9 ⟨rfl, b9⟩
            have hb10 := below_lit w9 (.cells #[.int .i64 z0, .int .i64 z1, .string z2, .int .i64 z3] 34)
            have D10 := D5.out.trans ((bon b9 hb10).mono D5.out.size)
            go_wp2
            go_ret
            exact ⟨rfl, D10⟩
    case first =>
      go_wp2_with fail
      go_loopw [3, 6, 7, 8, 9, 10, 11] (fun dv ev av sv hv kv iv wr => ∃ (d ever all seen : List En) (h k : Int) (i : Nat), i ≤ 60 ∧ hv = .int .i64 h ∧ kv = .int .i64 k ∧ iv = .int .i64 i ∧ Hid (Four wr w.heap.size dv ev av sv d ever all seen) ∧ Hid (Goes d ever all seen h k i) ∧ Hid (Below w.heap.size w wr)) (fun _ _ _ _ _ _ iv _ => 60 - (intOf iv).toNat)
      case atStart => exact ⟨d0', d0', d0', [], -1, -1, 0, by omega, rfl, rfl, rfl, HF0, HG0, HB0⟩
      case round =>
        clear HF0 HG0 HB0 hR hsd HDL HND
        obtain ⟨d, ever, all, seen, h, k, i, hi, rfl, rfl, rfl, HF, HG, HB⟩ := hrel
        have hfl : Hid (d.length ≤ 12) := HG.out.cur.right.len
        by_cases h60 : i < 60
        · have h60z : (i : Int) < 60 := by omega
          go_wp2_with fail
          refine (HAT.out i (by omega) wr HB.out).mono ?_
          rintro e w3 ⟨r, rfl, rfl⟩
          obtain ⟨q, HQ⟩ : ∃ q : Bool, Hid ((r.tmod 3 == 0) = q) := ⟨_, rfl⟩
          have hq := HQ.out
          cases q
          · obtain ⟨X, HX⟩ : ∃ X, Hid (nextN d h k = X) := ⟨_, rfl⟩
            have HN := HNX.out u3 d h k wr HB.out HF.out.d.at HG.out.sh (by have := hfl.out; omega)
            rw [HX.out] at HN
            obtain ⟨⟨x0, x1, x2, x3⟩, isb⟩ := X
            dsimp only at HN
            go_wp2_with fail
            refine HN.mono ?_
            rintro e w4 ⟨rfl, b4⟩
            have hb8 := below_lit w4 (.cells #[.int .i64 x0, .int .i64 x1, .string x2, .int .i64 x3] 34)
            have hs8 := hs_alloc w4 (.cells #[.int .i64 x0, .int .i64 x1, .string x2, .int .i64 x3] 34)
            have hb9 := below_lit (w4.alloc (.cells #[.int .i64 x0, .int .i64 x1, .string x2, .int .i64 x3] 34)) (.cells #[.int .i64 x0, .int .i64 x1, .string x2, .int .i64 x3] 34)
            have c9 := new_cells (w4.alloc (.cells #[.int .i64 x0, .int .i64 x1, .string x2, .int .i64 x3] 34)) x0 x1 x2 x3
            rw [hs8] at c9
            clear HN
            cases isb
            · have HF4 : Hid (Four (w4.alloc (.cells #[.int .i64 x0, .int .i64 x1, .string x2, .int .i64 x3] 34)) w.heap.size u3 u6 u7 u8 d ever all seen) := HF.out.below (bon b4 hb8)
              have HB4 : Hid (Below w.heap.size w (w4.alloc (.cells #[.int .i64 x0, .int .i64 x1, .string x2, .int .i64 x3] 34))) := HB.out.trans ((bon b4 hb8).mono HB.out.size)
              have HC0 : Hid (CurI d ever all seen h k) := HG.out.cur
              have HSH : Hid (Shorts d) := HG.out.sh
              have HLE : Hid (ever.length ≤ 73) := by have := HG.out.le; show _ ≤ _; omega
              have HLS : Hid (seen.length ≤ 60) := by have := HG.out.ls; show _ ≤ _; omega
              have HLA : Hid (all.length ≤ 12) := HG.out.la
              clear hb8 hb9 c9 hs8 b4 HF HB HG hq HQ HX
              go_wp2_with fail
              go_meet
              exact ⟨d, ever, all, seen, h, k, rfl, rfl, HF4, HC0, HSH, HLE, HLS, HLA, HB4⟩
            · have hnm := next_mem (d := d) (h := h) (k := k) (by rw [HX.out])
              rw [HX.out] at hnm
              have hbe := behB_iff.1 hnm.2
              dsimp only at hbe
              have HCN : Hid (CurI d ever all (seen ++ [⟨x0, x1, x2, x3⟩]) x0 x1) := by
                have h1 := HG.out.cur.next (by rw [HX.out])
                rw [HX.out] at h1
                exact h1
              have HGN : Hid (Goes d ever all (seen ++ [⟨x0, x1, x2, x3⟩]) x0 x1 (i + 1)) := ⟨HCN.out, HG.out.sh, by have := HG.out.le; omega, by have := HG.out.ls; rw [List.length_append]; simp; omega, HG.out.la⟩
              have HF8 : Hid (Four ((w4.alloc (.cells #[.int .i64 x0, .int .i64 x1, .string x2, .int .i64 x3] 34)).alloc (.cells #[.int .i64 x0, .int .i64 x1, .string x2, .int .i64 x3] 34)) w.heap.size u3 u6 u7 u8 d ever all seen) := HF.out.below (bon (bon b4 hb8) hb9)
              have HB8 : Hid (Below w.heap.size w ((w4.alloc (.cells #[.int .i64 x0, .int .i64 x1, .string x2, .int .i64 x3] 34)).alloc (.cells #[.int .i64 x0, .int .i64 x1, .string x2, .int .i64 x3] 34))) := HB.out.trans ((bon (bon b4 hb8) hb9).mono HB.out.size)
              have HC9 : Hid (CellsE ((w4.alloc (.cells #[.int .i64 x0, .int .i64 x1, .string x2, .int .i64 x3] 34)).alloc (.cells #[.int .i64 x0, .int .i64 x1, .string x2, .int .i64 x3] 34)) (w4.heap.size + 1) 0 ⟨x0, x1, x2, x3⟩) := c9
              have HLL : Hid (seen.length + 1 ≤ 1048576) := by have := HG.out.ls; show _ ≤ _; omega
              have hlt : ¬ (x0 < h) := by omega
              clear hb8 hb9 c9 hs8 b4 hnm HX hq HQ
              by_cases hx0 : x0 = h
              · have e1 : (x0 == h) = true := by simp [hx0]
                have e2 : ¬ (x1 ≤ k) := by omega
                clear hx0 hbe
                go_wp2_with (at_builtin; refine append_entH _ rfl (.tmp 160) (.tmp 162) rfl w.heap.size _ (w4.heap.size + 1) 1 seen ⟨x0, x1, x2, x3⟩ HLL.out HF8.out.s HC9.out rfl rfl HB8.out.size ?_; intro v9 w9 row9 g9 l9; have HF9 : Hid (Four w9 w.heap.size u3 u6 u7 v9 d ever all (seen ++ [⟨x0, x1, x2, x3⟩])) := HF8.out.addS row9 g9 l9; have B9 : Hid (Below w.heap.size w w9) := HB8.out.trans ((Below.refl _ _).grown g9 HB8.out.size (fun kk hk => (World.ownsRow.lt HF8.out.s kk hk).1)); clear row9 g9 l9)
                go_roundw
                case rel => first | exact ⟨d, ever, all, seen ++ [⟨x0, x1, x2, x3⟩], x0, x1, i + 1, by omega, rfl, rfl, by go_num, HF9, HGN, B9⟩ | ((repeat apply Exists.intro); exact ⟨⟨d, ever, all, seen ++ [⟨x0, x1, x2, x3⟩], x0, x1, i + 1, by omega, rfl, rfl, by go_num, HF9, HGN, B9⟩, rfl⟩)
                case measure => simp [intOf]; omega
              · have e1 : (x0 == h) = false := by simp [hx0]
                clear hbe
                go_wp2_with (at_builtin; refine append_entH _ rfl (.tmp 160) (.tmp 162) rfl w.heap.size _ (w4.heap.size + 1) 1 seen ⟨x0, x1, x2, x3⟩ HLL.out HF8.out.s HC9.out rfl rfl HB8.out.size ?_; intro v9 w9 row9 g9 l9; have HF9 : Hid (Four w9 w.heap.size u3 u6 u7 v9 d ever all (seen ++ [⟨x0, x1, x2, x3⟩])) := HF8.out.addS row9 g9 l9; have B9 : Hid (Below w.heap.size w w9) := HB8.out.trans ((Below.refl _ _).grown g9 HB8.out.size (fun kk hk => (World.ownsRow.lt HF8.out.s kk hk).1)); clear row9 g9 l9)
                go_roundw
                case rel => first | exact ⟨d, ever, all, seen ++ [⟨x0, x1, x2, x3⟩], x0, x1, i + 1, by omega, rfl, rfl, by go_num, HF9, HGN, B9⟩ | ((repeat apply Exists.intro); exact ⟨⟨d, ever, all, seen ++ [⟨x0, x1, x2, x3⟩], x0, x1, i + 1, by omega, rfl, rfl, by go_num, HF9, HGN, B9⟩, rfl⟩)
                case measure => simp [intOf]; omega
          · go_wp2_with fail
            refine (HFR.out i (by omega) wr HB.out).mono ?_
            rintro e w4 ⟨S', rfl, ok', hl', b4⟩
            have B4 := HB.out.trans (b4.mono HB.out.size)
            go_wp2_with fail
            refine (sdrawAlike_any S' ok' w4 hl').mono ?_
            rintro e w5 ⟨s, s2, hs, -, rfl, b5⟩
            have B5 := B4.trans (b5.mono B4.size)
            have HF5 : Hid (Four w5 w.heap.size u3 u6 u7 u8 d ever all seen) := HF.out.below (bon b4 b5)
            obtain ⟨i1, HI1⟩ : ∃ i1, Hid (i1 = i + 1) := ⟨_, rfl⟩
            have hwi : IntKind.i64.wrap ((i : Int) + 1) = (i1 : Int) := by rw [IntKind.wrap_i64, HI1.out]; omega
            have HA12 : Hid (all.length ≤ 12) := HG.out.la
            clear ok' hl' b4 b5 B4 hq HQ
            go_wp2_with fail
            refine (HAT.out i1 (by have := HI1.out; omega) w5 B5).mono ?_
            rintro e w5' ⟨r2, rfl, rfl⟩
            obtain ⟨q2, HQ2⟩ : ∃ q2 : Bool, Hid ((r2.tmod 2 == 0) = q2) := ⟨_, rfl⟩
            have hq2 := HQ2.out
            clear hwi
            go_upto_if 75 with fail
            go_cut [3, 6, 14, 15, 16, 17] from 54 to 163 (fun dv ev _ _ _ _ wx => ∃ (D ever' : List En), Hid (Four wx w.heap.size dv ev u7 u8 D ever' all seen) ∧ Hid (Goes D ever' (stayN D all) seen h k (i + 1)) ∧ Hid (Below w.heap.size w wx))
            case rest =>
              obtain ⟨D, ever', HF9, HG9, B9⟩ := hcut
              obtain ⟨wL, HWL⟩ : ∃ wL, wL = wc := ⟨_, rfl⟩
              subst HWL
              have hbl := below_lit wL (.cells #[] 34)
              have rowl := lit_ents wL
              have HFI : Hid (Four wL w.heap.size u3 u6 u7 u8 D ever' all seen) := HF9
              have HSD : Hid (Shorts D) := HG9.out.sh
              have HDD : Hid ((D).length ≤ 12) := HG9.out.cur.right.len
              have HNA : Hid (∀ t, t < all.length → all[t]!.name.size ≤ 1048576) := HG.out.alln
              have HST : Hid (∀ j, j < all.length → stayN (D) (all.take (j + 1)) = stayN (D) (all.take j) ++ (if lookN (D) all[j]!.name = (all[j]!, true) then [all[j]!] else [])) := fun j hj => stay_snoc _ _ hj
              have HSE : Hid (stayN (D) (all.take all.length) = stayN (D) all) := by show _ = _; rw [List.take_length]
              have HALN : Hid (all.length ≤ 12) := HA12
              have HRL : Hid (EntRow (wL.alloc (.cells #[] 34)) wL.heap.size (.slice (some ⟨wL.heap.size, 0, none⟩) 0 0) (stayN (D) (all.take 0))) := by rw [List.take_zero]; exact rowl
              have HBL : Hid (Below wL.heap.size wL (wL.alloc (.cells #[] 34))) := hbl
              obtain ⟨a7, c7, e7, -, hva⟩ := HFI.out.a.at
              obtain ⟨m, HM⟩ : ∃ m, Hid (m = all.length) := ⟨_, rfl⟩
              rw [← HM.out] at e7 hva HNA HST HSE HALN
              have HVA : Hid (∀ t, t < m → ∃ b off, a7 = some ⟨b, off, none⟩ ∧ b < wL.heap.size ∧ CellsE wL b (off + t * 4) all[t]!) := hva
              subst e7
              have hm12 : m ≤ 12 := HALN.out
              clear hbl rowl hva HF9
              go_wp2
              go_loopw [18, 19] (fun lv jv wx => ∃ j : Nat, j ≤ m ∧ jv = .int .i64 j ∧ Hid (EntRow wx wL.heap.size lv (stayN D (all.take j))) ∧ Hid (Below wL.heap.size wL wx)) (fun _ jv _ => m - (intOf jv).toNat)
              case atStart => exact ⟨0, Nat.zero_le _, rfl, HRL, HBL⟩
              case round =>
                clear HRL HBL
                obtain ⟨j, hj, rfl, HRJ, HBJ⟩ := hrel
                by_cases hjm : j < m
                · obtain ⟨b1, o1, rfl, hb1, hc1⟩ := HVA.out j hjm
                  have hc1 := hc1.below hb1 HBJ.out
                  have hny := HNA.out j hjm
                  have HSJ := HST.out j hjm
                  generalize all[j]! = y at hc1 hny HSJ
                  obtain ⟨y0, y1, y2, y3⟩ := y
                  have HSJ : Hid (stayN D (all.take (j + 1)) = stayN D (all.take j) ++ (if lookN D y2 = (⟨y0, y1, y2, y3⟩, true) then [⟨y0, y1, y2, y3⟩] else [])) := HSJ
                  dsimp only at hny
                  have k2 := hc1.c2
                  dsimp only at k2
                  have HLK := sLook u3 D y2 wr ((HFI.out.below HBJ.out).d.at) HSD.out hny (by have := HDD.out; omega)
                  obtain ⟨X, HX⟩ : ∃ X, Hid (lookN D y2 = X) := ⟨_, rfl⟩
                  rw [HX.out] at HLK HSJ
                  obtain ⟨⟨x0, x1, x2, x3⟩, isb⟩ := X
                  dsimp only at HLK
                  have hjz : (j : Int) < (m : Int) := by omega
                  have hj0 : (0 : Int) ≤ (j : Int) := by omega
                  have HC1 : Hid (CellsE wr b1 (o1 + j * 4) ⟨y0, y1, y2, y3⟩) := hc1
                  have HB1 : Hid (b1 < wr.heap.size) := Nat.lt_of_lt_of_le hb1 HBJ.out.size
                  clear hc1
                  go_wp2_with fail
                  refine HLK.mono ?_
                  rintro e wk ⟨rfl, bk⟩
                  have bX := below_lit wk (.cells #[.int .i64 x0, .int .i64 x1, .string x2, .int .i64 x3] 34)
                  have cX := new_cells wk x0 x1 x2 x3
                  have hsX := hs_alloc wk (.cells #[.int .i64 x0, .int .i64 x1, .string x2, .int .i64 x3] 34)
                  have cY := (HC1.out.below HB1.out bk).below (Nat.lt_of_lt_of_le HB1.out bk.size) bX
                  obtain ⟨wX, HWX⟩ : ∃ wX, Hid (wX = wk.alloc (.cells #[.int .i64 x0, .int .i64 x1, .string x2, .int .i64 x3] 34)) := ⟨_, rfl⟩
                  rw [← HWX.out] at bX cX hsX cY
                  have BX : Hid (Below wL.heap.size wL wX) := HBJ.out.trans ((bon bk bX).mono HBJ.out.size)
                  have HRX : Hid (EntRow wX wL.heap.size u18 (stayN D (all.take j))) := (HRJ.out.below bk).below bX
                  have p0 := cell_regrown cX.c0
                  have p1 := cell_regrown cX.c1
                  have p2 := cell_regrown cX.c2
                  have p3 := cell_regrown cX.c3
                  have q0 := cell_regrown cY.c0
                  have q1 := cell_regrown cY.c1
                  have q2 := cell_regrown cY.c2
                  have q3 := cell_regrown cY.c3
                  dsimp only [Nat.zero_add] at p0 p1 p2 p3 q0 q1 q2 q3
                  have hEQ := fun w' => eqE ⟨x0, x1, x2, x3⟩ ⟨y0, y1, y2, y3⟩ w'
                  dsimp only at hEQ
                  obtain ⟨qe, HQE⟩ : ∃ qe : Bool, Hid (decide ((⟨x0, x1, x2, x3⟩ : En) = ⟨y0, y1, y2, y3⟩) = qe) := ⟨_, rfl⟩
                  rw [HQE.out] at hEQ
                  have HCX : Hid (CellsE wX wk.heap.size 0 ⟨x0, x1, x2, x3⟩) := cX
                  have HSX : Hid (wk.heap.size < wX.heap.size) := by show _ < _; omega
                  have HNO : Hid (isb = false ∨ qe = false → stayN D (all.take (j + 1)) = stayN D (all.take j)) := fun hh => by
                    rw [HSJ.out, if_neg, List.append_nil]
                    intro e
                    cases e
                    rcases hh with hh | hh
                    · cases hh
                    · have := HQE.out; rw [hh] at this; simp at this
                  have HYS : Hid (isb = true → qe = true → stayN D (all.take (j + 1)) = stayN D (all.take j) ++ [⟨x0, x1, x2, x3⟩]) := fun h1 h2 => by
                    have h3 := HQE.out
                    rw [h2] at h3
                    have h3 := of_decide_eq_true h3
                    rw [HSJ.out, h1, h3, if_pos rfl]
                  clear HLK cX cY bX bk HX HSJ HQE
                  cases isb
                  · have HNN : Hid (stayN D (all.take (j + 1)) = stayN D (all.take j)) := HNO.out (.inl rfl)
                    clear HNO HYS
                    go_wp2
                    rw [← HWX.out]
                    refine wp_region_quiet_below (by kernel_rfl) (by kernel_rfl) ?_
                    repeat (go_big_quiet_step (fail))
                    refine wpQuiet_nil ?_
                    rintro w' ⟨⟨dq, osq⟩, rfl⟩
                    have hbq := below_regrown wX dq osq
                    generalize Go.Sort.grow (redrawn wX dq) osq = wz at hbq ⊢
                    have HRZ : Hid (EntRow wz wL.heap.size u18 (stayN D (all.take (j + 1)))) := by rw [HNN.out]; exact HRX.out.below hbq
                    have HBZ : Hid (Below wL.heap.size wL wz) := BX.out.trans (hbq.mono BX.out.size)
                    clear p0 p1 p2 p3 q0 q1 q2 q3 hEQ
                    go_wp2
                    go_roundw
                    case rel => first | exact ⟨j + 1, by omega, by go_num, HRZ, HBZ⟩ | ((repeat apply Exists.intro); exact ⟨⟨j + 1, by omega, by go_num, HRZ, HBZ⟩, rfl⟩)
                    case measure => simp [intOf]; omega
                  · cases qe
                    · have HNN : Hid (stayN D (all.take (j + 1)) = stayN D (all.take j)) := HNO.out (.inr rfl)
                      clear HNO HYS
                      go_wp2
                      rw [← HWX.out]
                      refine wp_region_quiet_below (by kernel_rfl) (by kernel_rfl) ?_
                      repeat (go_big_quiet_step (fail))
                      refine wpQuiet_nil ?_
                      rintro w' ⟨⟨dq, osq⟩, rfl⟩
                      have hbq := below_regrown wX dq osq
                      generalize Go.Sort.grow (redrawn wX dq) osq = wz at hbq ⊢
                      have HRZ : Hid (EntRow wz wL.heap.size u18 (stayN D (all.take (j + 1)))) := by rw [HNN.out]; exact HRX.out.below hbq
                      have HBZ : Hid (Below wL.heap.size wL wz) := BX.out.trans (hbq.mono BX.out.size)
                      clear p0 p1 p2 p3 q0 q1 q2 q3 hEQ
                      go_wp2
                      go_roundw
                      case rel => first | exact ⟨j + 1, by omega, by go_num, HRZ, HBZ⟩ | ((repeat apply Exists.intro); exact ⟨⟨j + 1, by omega, by go_num, HRZ, HBZ⟩, rfl⟩)
                      case measure => simp [intOf]; omega
                    · have HYY : Hid (stayN D (all.take (j + 1)) = stayN D (all.take j) ++ [⟨x0, x1, x2, x3⟩]) := HYS.out rfl rfl
                      clear HNO HYS
                      go_wp2
                      rw [← HWX.out]
                      refine wp_region_quiet_below (by kernel_rfl) (by kernel_rfl) ?_
                      repeat (go_big_quiet_step (fail))
                      refine wpQuiet_nil ?_
                      rintro w' ⟨⟨dq, osq⟩, rfl⟩
                      have hbq := below_regrown wX dq osq
                      generalize Go.Sort.grow (redrawn wX dq) osq = wz at hbq ⊢
                      have HBZ : Hid (Below wL.heap.size wL wz) := BX.out.trans (hbq.mono BX.out.size)
                      have cz := HCX.out.below HSX.out hbq
                      have z0 := cz.c0
                      have z1 := cz.c1
                      have z2 := cz.c2
                      have z3 := cz.c3
                      dsimp only [Nat.zero_add] at z0 z1 z2 z3
                      have hba := below_lit wz (.cells #[.int .i64 x0, .int .i64 x1, .string x2, .int .i64 x3] 34)
                      have hua := one_ent wz ⟨x0, x1, x2, x3⟩
                      have HRA : Hid (EntRow (wz.alloc (.cells #[.int .i64 x0, .int .i64 x1, .string x2, .int .i64 x3] 34)) wL.heap.size u18 (stayN D (all.take j))) := (HRX.out.below hbq).below hba
                      have HBA : Hid (Below wL.heap.size wL (wz.alloc (.cells #[.int .i64 x0, .int .i64 x1, .string x2, .int .i64 x3] 34))) := HBZ.out.trans (hba.mono HBZ.out.size)
                      have HUA : Hid (EntsAt (wz.alloc (.cells #[.int .i64 x0, .int .i64 x1, .string x2, .int .i64 x3] 34)) (.slice (some ⟨wz.heap.size, 0, none⟩) 1 1) [⟨x0, x1, x2, x3⟩]) := hua
                      have HLL : Hid ((stayN D (all.take j)).length + [(⟨x0, x1, x2, x3⟩ : En)].length ≤ 1099511627776) := by
                        have h1 := stay_len D (all.take j)
                        have h2 := HALN.out
                        rw [List.length_take, ← HM.out] at h1
                        show _ ≤ _
                        simp; omega
                      clear p0 p1 p2 p3 q0 q1 q2 q3 hEQ cz hba hua hbq
                      go_wp2_with (at_builtin; refine append_ents _ rfl (.tmp 126) (.tmp 128) rfl wL.heap.size _ _ (stayN D (all.take j)) [⟨x0, x1, x2, x3⟩] HLL.out HRA.out HUA.out rfl rfl HBA.out.size ?_; intro vv ww rowv bv; have HRV : Hid _ := rowv; have HBV : Hid (Below wL.heap.size wL ww) := HBA.out.trans bv; clear rowv bv)
                      go_roundw
                      case rel => first | exact ⟨j + 1, by omega, by go_num, by show EntRow _ _ _ _; rw [HYY.out]; exact HRV.out, HBV⟩ | ((repeat apply Exists.intro); exact ⟨⟨j + 1, by omega, by go_num, by show EntRow _ _ _ _; rw [HYY.out]; exact HRV.out, HBV⟩, rfl⟩)
                      case measure => simp [intOf]; omega
                · obtain rfl : j = m := by omega
                  have HRE : Hid (EntRow wr wL.heap.size u18 (stayN D all)) := by have h1 := HRJ.out; rw [HSE.out] at h1; exact h1
                  have HFE : Hid (Four wr w.heap.size u3 u6 u18 u8 D ever' (stayN D all) seen) := HFI.out.newA B9.out.size HBJ.out HRE.out
                  have HBE : Hid (Below w.heap.size w wr) := B9.out.trans (HBJ.out.mono B9.out.size)
                  clear HRJ HSE
                  go_wp2
                  go_roundw
                  case rel => first | exact ⟨D, ever', stayN D all, seen, h, k, i + 1, by omega, rfl, rfl, by go_num, HFE, HG9, HBE⟩ | ((repeat apply Exists.intro); exact ⟨⟨D, ever', stayN D all, seen, h, k, i + 1, by omega, rfl, rfl, by go_num, HFE, HG9, HBE⟩, rfl⟩)
                  case measure => simp [intOf]; omega
            case first =>
             cases q2
             · go_wp2_with fail
               refine (HDR.out u3 d s w5 B5 HF5.out.d.at HG.out.sh (by omega) (by have := hfl.out; omega)).mono ?_
               rintro e w6 ⟨xv, rfl, rowx, b6⟩
               have HF9 : Hid (Four w6 w.heap.size xv u6 u7 u8 (dropN d s).1 ever all seen) := HF5.out.newD B5.size b6 rowx
               have B9 : Hid (Below w.heap.size w w6) := B5.trans (b6.mono B5.size)
               have HG9 : Hid (Goes (dropN d s).1 ever (stayN (dropN d s).1 all) seen h k (i + 1)) := ⟨HG.out.cur.dropped s, shorts_sub HG.out.sh (drop_sub HG.out.cur.right s), by have := HG.out.le; omega, by have := HG.out.ls; omega, Nat.le_trans (stay_len _ _) HG.out.la⟩
               clear rowx b6 hq2 HQ2
               go_wp2_with fail
               go_meet
               exact ⟨_, _, HF9, HG9, B9⟩
             · obtain ⟨X, HX⟩ : ∃ X, Hid (addN d s 3 = X) := ⟨_, rfl⟩
               have HADi := HAD.out u3 d s w5 B5 HF5.out.d.at HG.out.sh (by omega) (by have := hfl.out; omega)
               rw [HX.out] at HADi
               obtain ⟨x, isb⟩ := X
               dsimp only at HADi
               go_wp2_with fail
               refine HADi.mono ?_
               rintro e w6 ⟨xv, rfl, rowx, b6⟩
               have HF6 : Hid (Four w6 w.heap.size xv u6 u7 u8 x ever all seen) := HF5.out.newD B5.size b6 rowx
               have B6 : Hid (Below w.heap.size w w6) := B5.trans (b6.mono B5.size)
               clear rowx b6 hq2 HQ2 HADi
               cases ho : addOk d s 3
               · have hxe := addN_no HG.out.cur.right ho
                 rw [HX.out] at hxe
                 cases hxe
                 have HF9 := HF6
                 have B9 := B6
                 have HG9 : Hid (Goes d ever (stayN d all) seen h k (i + 1)) := ⟨HG.out.cur.kept, HG.out.sh, by have := HG.out.le; omega, by have := HG.out.ls; omega, Nat.le_trans (stay_len _ _) HG.out.la⟩
                 go_wp2_with fail
                 go_meet
                 exact ⟨_, _, HF9, HG9, B9⟩
               · have hxe := addN_yes HG.out.cur.right ho
                 rw [HX.out] at hxe
                 obtain rfl : isb = true := (Prod.mk.inj hxe).2
                 have hcu := HG.out.cur.added s 3 ho
                 rw [HX.out] at hcu
                 have hsx : Hid (Shorts x) := by
                   have h1 := shorts_add HG.out.sh (show s.size ≤ 1048576 by omega) 3
                   rw [(Prod.mk.inj hxe).1]
                   rw [addL_yes ho] at h1
                   exact h1
                 generalize newE d s 3 = y at hcu
                 obtain ⟨y0, y1, y2, y3⟩ := y
                 have HLX := sLook xv x s w6 HF6.out.d.at hsx.out (by omega) (by have := hcu.2.right.len; dsimp only at this; omega)
                 dsimp only at hcu
                 rw [hcu.1] at HLX
                 dsimp only at HLX
                 have HG9 : Hid (Goes x (ever ++ [⟨y0, y1, y2, y3⟩]) (stayN x all) seen h k (i + 1)) := ⟨hcu.2, hsx.out, by have := HG.out.le; rw [List.length_append]; simp; omega, by have := HG.out.ls; omega, Nat.le_trans (stay_len _ _) HG.out.la⟩
                 clear hxe hcu ho HX
                 go_wp2_with fail
                 refine HLX.mono ?_
                 rintro e w7 ⟨rfl, b7⟩
                 have hb8 := below_lit w7 (.cells #[.int .i64 y0, .int .i64 y1, .string y2, .int .i64 y3] 34)
                 have hs8 := hs_alloc w7 (.cells #[.int .i64 y0, .int .i64 y1, .string y2, .int .i64 y3] 34)
                 have c8 := new_cells w7 y0 y1 y2 y3
                 have hb9 := below_lit (w7.alloc (.cells #[.int .i64 y0, .int .i64 y1, .string y2, .int .i64 y3] 34)) (.cells #[.int .i64 y0, .int .i64 y1, .string y2, .int .i64 y3] 34)
                 have c9 := new_cells (w7.alloc (.cells #[.int .i64 y0, .int .i64 y1, .string y2, .int .i64 y3] 34)) y0 y1 y2 y3
                 rw [hs8] at c9
                 have HF8 : Hid (Four ((w7.alloc (.cells #[.int .i64 y0, .int .i64 y1, .string y2, .int .i64 y3] 34)).alloc (.cells #[.int .i64 y0, .int .i64 y1, .string y2, .int .i64 y3] 34)) w.heap.size xv u6 u7 u8 x ever all seen) := HF6.out.below (bon (bon b7 hb8) hb9)
                 have HB8 : Hid (Below w.heap.size w ((w7.alloc (.cells #[.int .i64 y0, .int .i64 y1, .string y2, .int .i64 y3] 34)).alloc (.cells #[.int .i64 y0, .int .i64 y1, .string y2, .int .i64 y3] 34))) := B6.out.trans ((bon (bon b7 hb8) hb9).mono B6.out.size)
                 have HC9 : Hid (CellsE ((w7.alloc (.cells #[.int .i64 y0, .int .i64 y1, .string y2, .int .i64 y3] 34)).alloc (.cells #[.int .i64 y0, .int .i64 y1, .string y2, .int .i64 y3] 34)) (w7.heap.size + 1) 0 ⟨y0, y1, y2, y3⟩) := c9
                 have HLL : Hid (ever.length + 1 ≤ 1048576) := by have := HG.out.le; show _ ≤ _; omega
                 clear hb8 hb9 c8 c9 hs8 b7 HLX
                 go_wp2_with (at_builtin; refine append_entH _ rfl (.tmp 90) (.tmp 92) rfl w.heap.size _ (w7.heap.size + 1) 1 ever ⟨y0, y1, y2, y3⟩ HLL.out HF8.out.e HC9.out rfl rfl HB8.out.size ?_; intro v9 w9 row9 g9 l9; have HF9 : Hid (Four w9 w.heap.size xv v9 u7 u8 x (ever ++ [⟨y0, y1, y2, y3⟩]) all seen) := HF8.out.addE row9 g9 l9; have B9 : Hid (Below w.heap.size w w9) := HB8.out.trans ((Below.refl _ _).grown g9 HB8.out.size (fun kk hk => (World.ownsRow.lt HF8.out.e kk hk).1)); clear row9 g9 l9)
                 go_meet
                 exact ⟨_, _, HF9, HG9, B9⟩
        · obtain rfl : i = 60 := by omega
          have HF4 := HF
          have HB4 := HB
          have HC0 : Hid (CurI d ever all seen h k) := HG.out.cur
          have HSH : Hid (Shorts d) := HG.out.sh
          have HLE : Hid (ever.length ≤ 73) := by have := HG.out.le; show _ ≤ _; omega
          have HLS : Hid (seen.length ≤ 60) := HG.out.ls
          have HLA : Hid (all.length ≤ 12) := HG.out.la
          clear HF HB HG
          go_wp2_with fail
          go_meet
          exact ⟨d, ever, all, seen, h, k, rfl, rfl, HF4, HC0, HSH, HLE, HLS, HLA, HB4⟩

end Go.Proofs.YtmhblmonigakbaaGreatDoor
