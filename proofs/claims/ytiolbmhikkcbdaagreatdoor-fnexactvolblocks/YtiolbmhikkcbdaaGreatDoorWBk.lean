/- Blocks: laws.FnExactVolBlocks: the walk. -/
import Derived.Test.YtiolbmhikkcbdaaGreatDoorRows
import Derived.Test.YtiolbmhikkcbdaaGreatDoorNg
import Derived.Test.YtiolbmhikkcbdaaGreatDoorNh
import Derived.Test.YtiolbmhikkcbdaaGreatDoorBkV
import Derived.Test.YtiolbmhikkcbdaaGreatDoorBkJ
import Derived.Deep.RegionHeld3
namespace Go.Proofs.YtiolbmhikkcbdaaGreatDoor
open Go.RowKit Go.Sort

theorem vol_short {x : Vo} (h : x.ins.length ≤ 1048576 ∧ (x.ins.length + (x.ins.map fun y => y.ents.length).sum ≤ 1048576) ∧ ∀ y ∈ x.ins, y.data.size ≤ 1048576 ∧ ∀ t, t < y.ents.length → y.ents[t]!.name.size ≤ 1048576) : VolShort x := by
  obtain ⟨h1, h2, h3⟩ := h
  refine ⟨h1, fun y hy => ?_, fun y hy e he => ?_, fun y hy => (h3 y hy).1⟩
  · have := sum_le (List.mem_map.2 ⟨y, hy, rfl⟩ : y.ents.length ∈ x.ins.map fun y => y.ents.length)
    omega
  · obtain ⟨t, ht, rfl⟩ := List.getElem_of_mem he
    have := (h3 y hy).2 t ht
    rwa [getElem!_pos _ t ht] at this
theorem numI_all (k : Nat) (L : List (Ino × Value)) : numI k L L.length = k + 4 * (L.map (·.1)).length + 4 * ((L.map (·.1)).map fun y => y.ents.length).sum := by
  unfold numI
  rw [List.take_length]
  induction L with
  | nil => simp
  | cons p L ih => simp only [List.map_cons, List.sum_cons, List.length_cons, List.map_map] at ih ⊢; omega
theorem TxtRow.mid {B T base : Nat} {w w' : World} {v : Value} {l : List ByteArray} (h : TxtRow w base v l) (m : MidB B T w w') (hb : ∀ q, v.ownBlock = some q → q < B ∨ T ≤ q) : TxtRow w' base v l :=
  ⟨h.1, by
    rcases h.2 with h0 | ⟨g, cap, cur, e, hg, hh, r⟩
    · exact .inl h0
    · exact .inr ⟨g, cap, cur, e, hg, (m.block g (lt_of_block hh) (hb g (by rw [e]; rfl))).trans hh, r⟩⟩
theorem TxtRow.blk {w : World} {base : Nat} {v : Value} {l : List ByteArray} (h : TxtRow w base v l) : ∀ q, v.ownBlock = some q → base ≤ q ∧ q < w.heap.size := fun q hq => World.ownsRow.lt h q hq

set_option maxRecDepth 100000 in
set_option maxHeartbeats 2000000 in
theorem wVolBlocks (v : Value) (x : Vo) (w : World) (hT : Tabs w) (hC : CrcTab w) (hv : VolAt w v x) (hl : x.ins.length ≤ maxLen) (hh : ∀ y ∈ x.ins, InoHeld y) :
    Calls Tryz.prog 8 #[v] w fun e w' => e = .returned (.bool true) ∧ Below w.heap.size w w' := by
  unfold maxLen at hl
  have HZ := fun w' (b : Below w.heap.size w w') => szVol_at v x w' (hv.below b) (by omega) hh
  have HTO : VolShort x → ∀ w', Below w.heap.size w w' → _ := fun hs w' b => toVol_any v x w' hs.len hs.ents (hv.below b)
  have HS : VolShort x → ∀ u w', VolAt w' u x → _ := fun hs u w' h => sVolBlocks u x w' hs h
  have HI : VolShort x → ∀ u w', Below w.heap.size w w' → VolAt w' u x → _ := fun hs u w' b h => iVolBlocks u x w' (hT.below b) (hC.below b) hs h
  have HEQ : VolShort x → ∀ u1 u2 w', VolAt w' u1 x → VolAt w' u2 x → _ := fun hs u1 u2 w' h1 h2 => eqVol_same u1 u2 x w' (by have := hs.len; omega) (fun y hy => by have := hs.ents y hy; omega) h1 h2
  have hM := volBlocksN_len x
  generalize volBlocksN x = M at HS HI hM
  have HES := fun w' u1 u2 (h1 : TxtsAt w' u1 M) (h2 : TxtsAt w' u2 M) => eqStringS_any u1 u2 M M w' (by omega) h1 h2
  rw [decide_eq_true rfl] at HES
  have HVV : Hid (VolAt w v x) := hv
  obtain ⟨u0, rfl, hin⟩ := hv
  obtain ⟨a, ca, rfl, -, -⟩ := hin
  obtain ⟨nx, HNX⟩ : ∃ nx, Hid (nx = x.next) := ⟨_, rfl⟩
  rw [← HNX.out] at HZ HTO ⊢
  have S0 : (w.alloc (.cells #[.int .i64 nx, .slice a x.ins.length ca] 51)).heap.size = w.heap.size + 1 := by simp
  have B0 := below_lit w (.cells #[.int .i64 nx, .slice a x.ins.length ca] 51)
  have HZ := HZ _ B0
  rw [S0] at HZ
  go_enter Tryz.func8, Tryz.ntmps8
  go_wp2_with fail
  refine HZ.mono ?_
  rintro e w1 ⟨q, rfl, ⟨hq0, hq1⟩, HQ, b1⟩
  obtain ⟨p0, p1, HB1⟩ := box_cells b1
  by_cases hq : q < 0
  · go_wp2
    go_ret
    exact ⟨rfl, HB1⟩
  · have hq2 := HQ.out (by omega)
    have hs := vol_short hq2
    have hsum : x.ins.length + (x.ins.map fun y => y.ents.length).sum ≤ 1048576 := hq2.2.1
    have HTO := HTO hs
    have HS := HS hs
    have HI := HI hs
    have HEQ := HEQ hs
    have hse := hs.ents
    clear HQ HZ hq2
    go_wp2_with fail
    refine (HTO w1 HB1).mono ?_
    rintro e w2 ⟨u2, L2, rfl, hL2, r2, b2⟩
    have at2 : VolAt w2 (.agg #[.int .i64 nx, u2]) x := ⟨u2, by rw [HNX.out], by rw [← hL2]; exact r2.at⟩
    have C2 := b1.trans (b2.mono (by have := b1.size; rw [S0] at this; exact this))
    obtain ⟨p0, p1, HB2⟩ := box_cells C2
    go_wp2_with fail
    refine (HS _ w2 at2).mono ?_
    rintro e w3 ⟨v0, rfl, s3, b3⟩
    have C3 := C2.trans (b3.mono (by have := C2.size; rw [S0] at this; exact this))
    obtain ⟨p0, p1, HB3⟩ := box_cells C3
    go_wp2_with fail
    refine (HTO w3 HB3).mono ?_
    rintro e w4 ⟨u4, L4, rfl, hL4, r4, b4⟩
    have at4 : VolAt w4 (.agg #[.int .i64 nx, u4]) x := ⟨u4, by rw [HNX.out], by rw [← hL4]; exact r4.at⟩
    have C4 := C3.trans (b4.mono (by have := C3.size; rw [S0] at this; exact this))
    have hs4 := C4.size
    rw [S0] at hs4
    have s4 := s3.below b4
    have hr4 : Hid (InoRow w4 w3.heap.size u4 L4) := r4
    obtain ⟨ua, uc, hu4, -, -⟩ := r4.at
    rw [hL4] at hu4
    subst hu4
    have S4 : (w4.alloc (.cells #[.int .i64 nx, .slice ua x.ins.length uc] 26)).heap.size = w4.heap.size + 1 := by simp
    have BX4 := below_lit w4 (.cells #[.int .i64 nx, .slice ua x.ins.length uc] 26)
    have C5 := C4.trans (BX4.mono hs4)
    have hHI := HI _ (w4.alloc (.cells #[.int .i64 nx, .slice ua x.ins.length uc] 26)) (box_cells C5).2.2 (at4.below BX4)
    go_wp2_with fail
    refine hHI.mono ?_
    rintro e w5 ⟨v5, rfl, g5, b5⟩
    rw [S4] at b5 g5
    obtain ⟨x0, x1, HX5⟩ := box_cells b5
    have C6 := C5.trans (b5.mono (by omega))
    obtain ⟨p0, p1, HB5⟩ := box_cells C6
    have s5 := s4.below HX5
    go_wp2_with fail
    refine (HES w5 v5 v0 g5.at s5.at).mono ?_
    rintro e w6 ⟨rfl, b6⟩
    have D6 := b5.trans (b6.mono (by have := b5.size; rw [S4] at this; exact this))
    have C7 := C6.trans (b6.mono (by have := C6.size; rw [S0] at this; exact this))
    obtain ⟨x0, x1, HX6⟩ := box_cells D6
    obtain ⟨p0, p1, HB6⟩ := box_cells C7
    have g6 := g5.below b6
    have s6 := s5.below b6
    have hTO6 := HTO w6.drew HB6.drew
    have hsz6 : w4.heap.size + 1 ≤ w6.heap.size := by have := D6.size; rw [S4] at this; exact this
    have HF6 : Hid (∀ u7 L7 w7, L7.map (fun p : Ino × Value => p.1) = x.ins → InoRow w7 w6.drew.heap.size u7 L7 → Below w6.drew.heap.size w6.drew w7 → (VolAt w7 (.agg #[.int .i64 nx, u7]) x ∧ VolAt w7 (.agg #[.int .i64 nx, .slice ua x.ins.length uc]) x) ∧ Below w6.heap.size w6 w7 ∧ ((w7.cell? ⟨w4.heap.size, 0, none⟩ = some (.int .i64 nx) ∧ w7.cell? ⟨w4.heap.size, 1, none⟩ = some (.slice ua x.ins.length uc)) ∧ (w7.cell? ⟨w.heap.size, 0, none⟩ = some (.int .i64 nx) ∧ w7.cell? ⟨w.heap.size, 1, none⟩ = some (.slice a x.ins.length ca)))) := fun u7 L7 w7 hL7 r7 b7 => by
      have b7' : Below w6.heap.size w6 w7 := (Below.refl _ _).drew.trans b7
      have D7 := D6.trans (b7'.mono hsz6)
      have C8 := C7.trans (b7'.mono (by have := C7.size; rw [S0] at this; exact this))
      obtain ⟨y0, y1, HX7⟩ := box_cells D7
      obtain ⟨y2, y3, -⟩ := box_cells C8
      exact ⟨⟨⟨u7, by rw [HNX.out], by rw [← hL7]; exact r7.at⟩, at4.below HX7⟩, b7', ⟨y0, y1⟩, y2, y3⟩
    have HEQ : Hid (∀ u1 u2 w', VolAt w' u1 x → VolAt w' u2 x → Calls Tryz.prog 31 #[u1, u2] w' fun e w'' => e = .returned (.bool true) ∧ Below w'.heap.size w' w'') := HEQ
    have HTO : Hid _ := HTO
    have HI : Hid _ := HI
    have HES : Hid _ := HES
    have HV8 : Hid (∀ w7 w8, Below w6.heap.size w6 w7 → Below w7.heap.size w7 w8 → Below w6.heap.size w6 w8) := fun w7 w8 b7 b8 => b7.trans (b8.mono b7.size)
    clear hHI HS
    go_wp2_with fail
    go_region_held3 (fun w' => (w'.cell? ⟨w4.heap.size, 0, none⟩ = some (.int .i64 nx) ∧ w'.cell? ⟨w4.heap.size, 1, none⟩ = some (.slice ua x.ins.length uc)) ∧ (w'.cell? ⟨w.heap.size, 0, none⟩ = some (.int .i64 nx) ∧ w'.cell? ⟨w.heap.size, 1, none⟩ = some (.slice a x.ins.length ca))) (go_keep)
      (first
      | (go_at_call 29; refine hTO6.mono ?_; rintro e w7 ⟨u7, L7, rfl, hL7, r7, b7⟩; obtain ⟨⟨at7, at47⟩, b7', ⟨⟨y0, y1⟩, y2, y3⟩⟩ := HF6.out u7 L7 w7 hL7 r7 b7; obtain ⟨ub, ud, hu7, -, -⟩ := r7.at; rw [hL7] at hu7; subst hu7)
      | (go_at_call 31; refine (HEQ.out _ _ _ at47 at7).mono ?_; rintro e w8 ⟨rfl, b8⟩; have b68 := HV8.out w7 w8 b7' b8; have y0 := (b8.cell (p := ⟨w4.heap.size, 0, none⟩) (by have := b7'.size; show w4.heap.size < w7.heap.size; omega)).trans y0; have y1 := (b8.cell (p := ⟨w4.heap.size, 1, none⟩) (by have := b7'.size; show w4.heap.size < w7.heap.size; omega)).trans y1; have y2 := (b8.cell (p := ⟨w.heap.size, 0, none⟩) (by have := b7'.size; show w.heap.size < w7.heap.size; omega)).trans y2; have y3 := (b8.cell (p := ⟨w.heap.size, 1, none⟩) (by have := b7'.size; show w.heap.size < w7.heap.size; omega)).trans y3))
    have D8 := D6.trans (b68.mono hsz6)
    have C8 := C7.trans (b68.mono (by have := C7.size; rw [S0] at this; exact this))
    obtain ⟨x0, x1, HX8⟩ := box_cells D8
    obtain ⟨p0, p1, HB8⟩ := box_cells C8
    have g8 := g6.below b68
    have s8 := s6.below b68
    have r8 := hr4.out.below HX8
    have hw34 := b4.size
    have hw23 := b3.size
    have hw8 := HX8.size
    have hwc3 := C3.size
    rw [S0] at hwc3
    have hnum := numI_all 1 L4
    rw [hL4] at hnum
    have hL4l : L4.length = x.ins.length := by rw [← hL4, List.length_map]
    have hMK := markVol_any nx (.slice ua x.ins.length uc) L4 1 w3.heap.size w4.heap.size w8 r8 (fun q hq => (World.ownsRow.lt hr4.out.row q hq).2) (fun t q ht hq => ((hr4.out.ents t ht).blk q hq).2) (by decide) (by rw [hnum]; omega) (fun t ht => by
      have h1 : L4[t]!.1 ∈ x.ins := by rw [← hL4, getElem!_pos L4 t ht]; exact List.mem_map.2 ⟨L4[t], List.getElem_mem ht, rfl⟩
      have := hse _ h1; omega)
    generalize numI 1 L4 L4.length = nm at hMK
    generalize marksI 1 L4 = mk4 at hMK
    clear y0 y1 y2 y3 hTO6 HF6 HEQ HV8 at7 at47 r7 b7 b7' b8 hnum
    go_wp2_with fail
    refine hMK.mono ?_
    rintro e w9 ⟨rfl, r9, m9⟩
    have g9 := g8.mid m9 (fun q hq => .inr (by have := (g8.blk q hq).1; omega))
    have s9 := s8.mid m9 (fun q hq => .inl (by have := (s3.blk q hq).2; omega))
    have hb9 := m9.below (show w3.heap.size ≤ w8.heap.size by omega)
    have C9 := C8.trans (hb9.mono hwc3)
    obtain ⟨p0, p1, HB9⟩ := box_cells C9
    have hnn : ¬ ((nm : Int) < 0) := by omega
    clear r9 r8 x0 x1 hMK
    go_wp2_with fail
    refine (HES.out w9 v5 v0 g9.at s9.at).mono ?_
    rintro e w10 ⟨rfl, b10⟩
    have g10 := g9.below b10
    have s10 := s9.below b10
    have C10 := C9.trans (b10.mono (by have := C9.size; rw [S0] at this; exact this))
    obtain ⟨p0, p1, HB10⟩ := box_cells C10
    go_wp2_with fail
    refine (markStringS_any v5 M 1 (w4.heap.size + 1) w10 g10 (by omega) (by decide) (by decide)).mono ?_
    rintro e w11 ⟨rfl, h11, k11⟩
    have s11 : TxtRow w11 w2.heap.size v0 M := World.ownsRow.kept s10 k11 (by
      cases hu : v0.ownBlock with
      | none => exact .inl rfl
      | some q =>
        right
        intro e2
        have h1 := (s3.blk q hu).2
        have h2 := (g10.blk q e2.symm).1
        omega)
    have hsc10 := C10.size
    rw [S0] at hsc10
    have C11 := C10.trans (below_gbi k11 (fun q hq => by have := (g10.blk q hq).1; omega) hsc10)
    obtain ⟨p0, p1, HB11⟩ := box_cells C11
    obtain ⟨mm, HMM⟩ : ∃ mm : Nat, Hid (mm = 1 + M.length) := ⟨_, rfl⟩
    rw [← HMM.out]
    have hmm0 : ¬ ((mm : Int) < 0) := by omega
    go_wp2_with fail
    refine (heldStringS_marks v5 M.length 1 w11 (by omega) (by decide) (by decide) h11.at).mono ?_
    rintro e w12 ⟨rfl, b12⟩
    rw [← HMM.out]
    have s12 := s11.below b12
    have h12 := h11.below b12
    have C12 := C11.trans (b12.mono (by have := C11.size; rw [S0] at this; exact this))
    obtain ⟨p0, p1, HB12⟩ := box_cells C12
    go_wp2_with fail
    refine (HTO.out w12 HB12).mono ?_
    rintro e w13 ⟨u13, L13, rfl, hL13, r13, b13⟩
    have at13 : VolAt w13 (.agg #[.int .i64 nx, u13]) x := ⟨u13, by rw [HNX.out], by rw [← hL13]; exact r13.at⟩
    have s13 := s12.below b13
    have h13 := h12.below b13
    have HB13 := HB12.trans (b13.mono HB12.size)
    go_wp2_with fail
    refine (HI.out _ w13 HB13 at13).mono ?_
    rintro e w14 ⟨v14, rfl, g14, b14⟩
    have s14 := s13.below b14
    have h14 := h13.below b14
    have HB14 := HB13.trans (b14.mono HB13.size)
    go_wp2_with fail
    refine (HES.out w14 v14 v0 g14.at s14.at).mono ?_
    rintro e w15 ⟨rfl, b15⟩
    have h15 := h14.below b15
    have HB15 := HB14.trans (b15.mono HB14.size)
    go_wp2_with fail
    refine (heldStringS_marks v5 M.length 1 w15 (by omega) (by decide) (by decide) h15.at).mono ?_
    rintro e w16 ⟨rfl, b16⟩
    rw [← HMM.out]
    go_wp2
    go_ret
    exact ⟨rfl, HB15.trans (b16.mono HB15.size)⟩

end Go.Proofs.YtiolbmhikkcbdaaGreatDoor
