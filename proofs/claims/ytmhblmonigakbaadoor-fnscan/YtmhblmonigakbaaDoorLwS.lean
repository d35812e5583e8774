/- The law of going through a directory that nobody changes: its walk. -/
import Derived.Test.YtmhblmonigakbaaDoorRows
import Derived.Test.YtmhblmonigakbaaDoorMy
import Derived.Test.YtmhblmonigakbaaDoorMw
namespace Go.Proofs.YtmhblmonigakbaaDoor
open Go.RowKit

/-- 'append(out, x)', out a row of the call's own, x one entry: no other block changes -/
theorem append_entG (w : World) {ops : Array Oper} {rest : List Oper} {o : Oper} {a : Act} {Q : Exit → Act → World → Prop} (hgd : o.guard = none) (s x : Operand)
    (ho : o.op = .call { callee := .builtin .append, args := #[s, x], argTypes := #[37, 37] }) (base : Nat)
    (v : Value) (g cap : Nat) (l : List En) (e : En) (hl : l.length + 1 ≤ 1099511627776) (hown : EntRow w base v l) (hc : CellsE w g 0 e) (hs : a.eval s = v) (hx : a.eval x = .slice (some ⟨g, 0, none⟩) 1 cap)
    (hbase : base ≤ w.heap.size)
    (h : ∀ v' w', EntRow w' base v' (l ++ [e]) → w.grownBy w' v.ownBlock → wpList Tryd.prog ops Q rest (a.put o.dst v') w') :
    wpList Tryd.prog ops Q (o :: rest) a w := by
  obtain ⟨i0, hi, hz0, hz1, hz2⟩ := info_parts Tryd.infoE
  refine wpList_append_own _ hgd s x 37 ho base 41 i0 _ 4 40 Tryd.underlying37 hi hz0 hz1 hz2 rfl (by decide) v l.length (flatE l) hs hown ⟨g, 0, none⟩ 1 cap (encE e) hx rfl (fun j y hj => ?_) (encE_one e) (by unfold maxLen; omega) (by omega) hbase ?_
  · have hj1 := (List.getElem?_eq_some_iff.1 hj).1
    rw [encE_len] at hj1
    rw [Addr.add_lit]
    match j, hj1 with
    | 0, _ => exact hc.c0.trans hj
    | 1, _ => exact hc.c1.trans hj
    | 2, _ => exact hc.c2.trans hj
    | 3, _ => exact hc.c3.trans hj
  · intro v' w' hown' hgrow _
    refine h v' w' ?_ hgrow
    unfold EntRow
    rw [flatE_append, flatE_one, List.length_append]
    exact hown'

/-- the next one, when i of them have been met -/
def metN (d : List En) (i : Nat) : En × Bool := if i < d.length then (d[i]!, true) else (default, false)
theorem met_start {d : List En} (hr : Right d) (k : Int) : nextN d (-1) k = metN d 0 := by
  unfold metN
  by_cases h : 0 < d.length
  · rw [if_pos h]; exact next_start hr k h
  · have : d = [] := List.length_eq_zero_iff.1 (by omega)
    subst this
    rw [if_neg h]; exact next_none
theorem met_next {d : List En} (hr : Right d) {i : Nat} (hi : i < d.length) : nextN d d[i]!.hash d[i]!.index = metN d (i + 1) := by
  unfold metN
  by_cases h : i + 1 < d.length
  · rw [if_pos h]; exact next_at hr h
  · rw [if_neg h]; exact next_end hr (by omega)

set_option maxRecDepth 100000 in
set_option maxHeartbeats 4000000 in
theorem scan_walk (S : Src) (ok : S.ok) (w : World) (hl : Lies S w) (hT : Tabs w) (hC : CrcTab w) :
    Calls Tryd.prog 4 #[.slice S.a S.len S.cap] w fun e w' => e = .returned (.bool true) ∧ Below w.heap.size w w' := by
  have hlen : S.len ≤ 1048576 := ok.1
  have HTT : Hid (Tabs w) := hT
  have HCC : Hid (CrcTab w) := hC
  clear hT hC
  go_enter Tryd.func4, Tryd.ntmps4
  go_wp2_with (first | (go_at_call 12; go_in))
  refine (drawNext_any S ok _ hl).mono ?_
  rintro _ w1 ⟨v, d, h, k, rfl, row1, hsh, hdl, b1⟩
  have HSH : Hid (Shorts d) := hsh
  have HR1 : Hid (EntRow w1 w.heap.size v d) := row1
  have HI := fun hh kk w' (hb : Below w.heap.size w w') (hv : EntsAt w' v d) => iNext v d hh kk w' (HTT.out.below hb) (HCC.out.below hb) hv HSH.out (by omega)
  have HS := fun hh kk w' (hv : EntsAt w' v d) => sNext v d hh kk w' hv HSH.out (by omega)
  have HD := fun w' (hv : EntsAt w' v d) => sDirOk v d w' hv HSH.out (by omega)
  have HSD := fun u l w' (hl : l.length ≤ 1048576) (hu : EntsAt w' u l) (hv : EntsAt w' v d) => sameDir_any u v l d w' hu hv hl
  have HW : Hid (dirB d = false → (nextN d h k).2 = false) := fun hr => by rw [(wrong hr ⟨#[]⟩ 0 h k).2.2.2.2]
  have HRT : Hid (dirB d = true → Right d) := fun hr => dirB_iff.1 hr
  have A1 := row1.at
  have A1' := A1
  obtain ⟨a0, ca0, rfl, -, -⟩ := A1'
  clear row1 hsh hl ok
  have HI1 := HI h k w1 b1 A1
  generalize hx : nextN d h k = X at HI1 HW
  obtain ⟨⟨x0, x1, x2, x3⟩, q⟩ := X
  dsimp only at HI1 HW
  go_wp2_with fail
  refine HI1.mono ?_
  rintro e w2 ⟨rfl, b2⟩
  have D2 : Below w.heap.size w w2 := b1.trans (b2.mono b1.size)
  have bA := below_lit w2 (.cells #[.int .i64 x0, .int .i64 x1, .string x2, .int .i64 x3] 41)
  have cA := new_cells w2 x0 x1 x2 x3
  have hA : w2.heap.size < (w2.alloc (.cells #[.int .i64 x0, .int .i64 x1, .string x2, .int .i64 x3] 41)).heap.size := by simp
  obtain ⟨wA, HWA⟩ : ∃ wA, Hid (wA = w2.alloc (.cells #[.int .i64 x0, .int .i64 x1, .string x2, .int .i64 x3] 41)) := ⟨_, rfl⟩
  rw [← HWA.out] at bA cA hA
  have DA := D2.trans (bA.mono D2.size)
  have AA := (A1.below b2).below bA
  have HS1 := HS h k wA AA
  rw [hx] at HS1
  dsimp only at HS1
  clear HI1 hx
  go_wp2_with fail
  rw [← HWA.out]
  refine HS1.mono ?_
  rintro e w3 ⟨rfl, b3⟩
  have D3 := DA.trans (b3.mono DA.size)
  have bB := below_lit w3 (.cells #[.int .i64 x0, .int .i64 x1, .string x2, .int .i64 x3] 41)
  have cB := new_cells w3 x0 x1 x2 x3
  have cA3 := (cA.below hA b3).below (Nat.lt_of_lt_of_le hA b3.size) bB
  obtain ⟨wB, HWB⟩ : ∃ wB, Hid (wB = w3.alloc (.cells #[.int .i64 x0, .int .i64 x1, .string x2, .int .i64 x3] 41)) := ⟨_, rfl⟩
  have DB := D3.trans (bB.mono D3.size)
  have AB := (AA.below b3).below bB
  have e0 := cA3.c0
  have e1 := cA3.c1
  have e2 := cA3.c2
  have e3 := cA3.c3
  dsimp only [Nat.zero_add] at e0 e1 e2 e3
  have hNE : ∀ w', (binOp .neq 41 (.agg #[.int .i64 x0, .int .i64 x1, .string x2, .int .i64 x3]) (.agg #[.int .i64 x0, .int .i64 x1, .string x2, .int .i64 x3])).run Tryd.prog w' = .ok (.bool false) w' := fun w' => by
    have := neE ⟨x0, x1, x2, x3⟩ ⟨x0, x1, x2, x3⟩ w'
    rw [decide_eq_true rfl] at this
    exact this
  have HDB := HD _ AB
  have HAB : Hid (EntsAt _ _ d) := AB
  have HDBB : Hid (Below w.heap.size w _) := DB
  clear cA cB cA3 HS1 bB
  cases hr : dirB d
  · have hq : q = false := HW.out hr
    subst hq
    rw [hr] at HDB
    go_wp2_with fail
    refine HDB.mono ?_
    rintro e w4 ⟨rfl, b4⟩
    have D4 := HDBB.out.trans (b4.mono HDBB.out.size)
    go_wp2
    go_ret
    exact ⟨rfl, D4⟩
  · have HRR : Hid (Right d) := HRT.out hr
    rw [hr] at HDB
    go_wp2_with fail
    refine HDB.mono ?_
    rintro e w4 ⟨rfl, b4⟩
    have D4 := HDBB.out.trans (b4.mono HDBB.out.size)
    have A4 := HAB.out.below b4
    have hb5 := below_lit w4 (.cells #[] 41)
    have hr5 := lit_ents w4
    have D5 := D4.trans (hb5.mono D4.size)
    have A5 := A4.below hb5
    obtain ⟨w5, HW5⟩ : ∃ w5, Hid (w5 = w4.alloc (.cells #[] 41)) := ⟨_, rfl⟩
    rw [← HW5.out] at hb5 hr5 D5 A5
    have HR5 : Hid (EntRow w5 w4.heap.size (.slice (some ⟨w4.heap.size, 0, none⟩) 0 0) (d.take 0)) := by rw [List.take_zero]; exact hr5
    have HA4 : Hid (EntsAt w4 _ d) := A4
    have HM0 : Hid (nextN d (-1) k = metN d 0) := met_start HRR.out k
    have HMN : Hid (∀ i, i < d.length → nextN d d[i]!.hash d[i]!.index = metN d (i + 1)) := fun i hi => met_next HRR.out hi
    have HTK : Hid (∀ i, i < d.length → d.take (i + 1) = d.take i ++ [d[i]!]) := fun i hi => by rw [List.take_succ_eq_append_getElem hi, getElem!_pos d i hi]
    have HTE : Hid (d.take d.length = d) := List.take_length
    have HDL : Hid (d.length ≤ 12) := HRR.out.len
    have HD4 : Hid (Below w.heap.size w w4) := D4
    have HB5 : Hid (Below w4.heap.size w4 w5) := hb5
    clear HDB HD HS HRT HW hNE e0 e1 e2 e3 AA DA D2 D3 D4 D5 A1 A4 A5 b1 b2 b3 b4 bA hA hr5 hb5 DB AB hdl
    obtain ⟨n, HN⟩ : ∃ n, Hid (n = d.length) := ⟨_, rfl⟩
    rw [← HN.out] at HMN HTK HTE HDL
    go_wp2
    rw [← HW5.out]
    go_loopw [4, 5, 10, 11] (fun hv kv ov iv wr => ∃ (i : Nat) (hh kk : Int), i ≤ n ∧ hv = .int .i64 hh ∧ kv = .int .i64 kk ∧ iv = .int .i64 i ∧ Hid (nextN d hh kk = metN d i) ∧ Hid (EntRow wr w4.heap.size ov (d.take i)) ∧ Hid (Below w4.heap.size w4 wr)) (fun _ _ _ iv _ => 13 - (intOf iv).toNat)
    case atStart => exact ⟨0, -1, k, Nat.zero_le _, rfl, rfl, rfl, HM0, HR5, HB5⟩
    case round =>
      clear HM0 HR5 HB5
      obtain ⟨i, hh, kk, hi, rfl, rfl, rfl, HM, HRW, HBW⟩ := hrel
      have hn12 := HDL.out
      have hi12 : (i : Int) ≤ 12 := by omega
      have HI2 := HI hh kk wr (HD4.out.trans (HBW.out.mono HD4.out.size)) (HA4.out.below HBW.out)
      rw [HM.out] at HI2
      by_cases hlt : i < n
      · have HME : metN d i = (d[i]!, true) := by unfold metN; rw [← HN.out, if_pos hlt]
        rw [HME] at HI2
        have HT := HTK.out i hlt
        have HT : Hid (d.take (i + 1) = d.take i ++ [d[i]!]) := HT
        have HM2 : Hid (nextN d d[i]!.hash d[i]!.index = metN d (i + 1)) := HMN.out i hlt
        generalize d[i]! = y at HI2 HT HM2
        obtain ⟨y0, y1, y2, y3⟩ := y
        dsimp only at HI2 HM2
        clear HME HM
        go_wp2_with fail
        refine HI2.mono ?_
        rintro e w6 ⟨rfl, b6⟩
        have hb7 := below_lit w6 (.cells #[.int .i64 y0, .int .i64 y1, .string y2, .int .i64 y3] 41)
        have hs7 := hs_alloc w6 (.cells #[.int .i64 y0, .int .i64 y1, .string y2, .int .i64 y3] 41)
        have c7 := new_cells w6 y0 y1 y2 y3
        have hb8 := below_lit (w6.alloc (.cells #[.int .i64 y0, .int .i64 y1, .string y2, .int .i64 y3] 41)) (.cells #[.int .i64 y0, .int .i64 y1, .string y2, .int .i64 y3] 41)
        have c8 := new_cells (w6.alloc (.cells #[.int .i64 y0, .int .i64 y1, .string y2, .int .i64 y3] 41)) y0 y1 y2 y3
        rw [hs7] at c8
        have k8 := c7.below (by rw [hs7]; omega) hb8
        have HR6 := HRW.out.below b6
        have HR8 : Hid (EntRow ((w6.alloc (.cells #[.int .i64 y0, .int .i64 y1, .string y2, .int .i64 y3] 41)).alloc (.cells #[.int .i64 y0, .int .i64 y1, .string y2, .int .i64 y3] 41)) w4.heap.size u10 (d.take i)) := (HR6.below hb7).below hb8
        have B6 : Below w4.heap.size w4 w6 := HBW.out.trans (b6.mono HBW.out.size)
        have B7 : Below w4.heap.size w4 (w6.alloc (.cells #[.int .i64 y0, .int .i64 y1, .string y2, .int .i64 y3] 41)) := B6.trans (hb7.mono B6.size)
        have B8 : Below w4.heap.size w4 ((w6.alloc (.cells #[.int .i64 y0, .int .i64 y1, .string y2, .int .i64 y3] 41)).alloc (.cells #[.int .i64 y0, .int .i64 y1, .string y2, .int .i64 y3] 41)) := B7.trans (hb8.mono B7.size)
        have HNB : Hid (∀ kk, u10.ownBlock = some kk → w4.heap.size ≤ kk ∧ kk < w6.heap.size) := fun kk hk => World.ownsRow.lt HR6 kk hk
        have HLL : Hid ((d.take i).length + 1 ≤ 1099511627776) := by show _ ≤ _; rw [List.length_take]; omega
        have hh7 : ((w6.alloc (.cells #[.int .i64 y0, .int .i64 y1, .string y2, .int .i64 y3] 41)).alloc (.cells #[.int .i64 y0, .int .i64 y1, .string y2, .int .i64 y3] 41)).heap[w6.heap.size]? = some (.cells #[.int .i64 y0, .int .i64 y1, .string y2, .int .i64 y3] 41 (0, 0)) := (hb8.block _ (by rw [hs7]; omega)).trans (heap_alloc_new _ _)
        have hs8 := hs_alloc (w6.alloc (.cells #[.int .i64 y0, .int .i64 y1, .string y2, .int .i64 y3] 41)) (.cells #[.int .i64 y0, .int .i64 y1, .string y2, .int .i64 y3] 41)
        have HC8 : Hid (CellsE _ (w6.heap.size + 1) 0 ⟨y0, y1, y2, y3⟩) := c8
        have HB8 : Hid (Below w4.heap.size w4 _) := B8
        have HH7 : Hid (_ = _) := hh7
        have HS8 : Hid (w6.heap.size < ((w6.alloc (.cells #[.int .i64 y0, .int .i64 y1, .string y2, .int .i64 y3] 41)).alloc (.cells #[.int .i64 y0, .int .i64 y1, .string y2, .int .i64 y3] 41)).heap.size) := by show _ < _; rw [hs8, hs7]; omega
        clear HI2 c7 k8 c8 B6 B7 B8 HR6 hb7 hb8 hh7 hs7 hs8
        go_wp2_with (at_builtin; refine append_entG _ rfl (.tmp 63) (.tmp 65) rfl w4.heap.size _ (w6.heap.size + 1) 1 (d.take i) ⟨y0, y1, y2, y3⟩ HLL.out HR8.out HC8.out rfl rfl HB8.out.size ?_; intro v9 w9 hrow9 hg9; have HR9 : Hid _ := hrow9; have h9 := (hg9.block _ HS8.out (fun e => by have := (HNB.out _ e.symm).2; omega)).trans HH7.out; have m0 := cell_of_row w9 _ 0 _ _ (0, 0) h9; have m1 := cell_of_row w9 _ 1 _ _ (0, 0) h9; simp at m0 m1; have HB9 : Hid (Below w4.heap.size w4 w9) := HB8.out.trans ((Below.refl _ _).grown hg9 HB8.out.size (fun kk hk => (HNB.out kk hk).1)); clear hrow9 hg9 h9)
        go_roundw
        case rel => exact ⟨i + 1, y0, y1, by omega, rfl, rfl, by go_num, HM2, by show EntRow _ _ _ _; rw [HT.out]; exact HR9.out, HB9⟩
        case measure => simp [intOf]; omega
      · obtain rfl : i = n := by omega
        have HME : metN d i = (default, false) := by unfold metN; rw [← HN.out, if_neg (by omega)]
        rw [HME] at HI2
        have HR6 : Hid (EntRow wr w4.heap.size u10 d) := by have := HRW.out; rw [HTE.out] at this; exact this
        clear HME HM HRW
        dsimp only [default] at HI2
        go_wp2_with fail
        refine HI2.mono ?_
        rintro e w6 ⟨rfl, b6⟩
        have hb7 := below_lit w6 (.cells #[.int .i64 0, .int .i64 0, .string ⟨#[]⟩, .int .i64 0] 41)
        have B6 : Below w4.heap.size w4 w6 := HBW.out.trans (b6.mono HBW.out.size)
        have B7 := B6.trans (hb7.mono B6.size)
        have HSD7 := HSD u10 d _ (by rw [← HN.out]; omega) ((HR6.out.at.below b6).below hb7) (HA4.out.below B7)
        rw [decide_eq_true rfl] at HSD7
        have HD7 : Hid (Below w.heap.size w _) := HD4.out.trans (B7.mono HD4.out.size)
        clear HI2 hb7 B6 B7 HSD HI
        go_wp2_with fail
        refine HSD7.mono ?_
        rintro e w8 ⟨rfl, b8⟩
        have D8 := HD7.out.trans (b8.mono HD7.out.size)
        go_wp2
        go_ret
        exact ⟨rfl, D8⟩

end Go.Proofs.YtmhblmonigakbaaDoor
