/- Volumes: laws.FnExactVolOk: the walk. -/
import Derived.Test.YtjggkhcomaiplaaDoorRows
import Derived.Test.YtjggkhcomaiplaaDoorLVd
import Derived.Test.YtjggkhcomaiplaaDoorOpV
import Derived.Test.YtjggkhcomaiplaaDoorIVh
namespace Go.Proofs.YtjggkhcomaiplaaDoor
open Go.RowKit Go.Sort

theorem short_of {x : Vo} (h : x.ins.length ≤ 1048576 ∧ (x.ins.length + (x.ins.map fun y => y.ents.length).sum ≤ 1048576) ∧ ∀ y ∈ x.ins, y.data.size ≤ 1048576 ∧ ∀ t, t < y.ents.length → y.ents[t]!.name.size ≤ 1048576) : VolShort x := by
  obtain ⟨h1, h2, h3⟩ := h
  refine ⟨h1, fun y hy => ?_, fun y hy e he => ?_, fun y hy => (h3 y hy).1⟩
  · have := sum_le (List.mem_map.2 ⟨y, hy, rfl⟩ : y.ents.length ∈ x.ins.map fun y => y.ents.length)
    omega
  · obtain ⟨t, ht, rfl⟩ := List.getElem_of_mem he
    have := (h3 y hy).2 t ht
    rwa [getElem!_pos _ t ht] at this

set_option maxRecDepth 100000 in
set_option maxHeartbeats 1000000 in
theorem wVolOk (v : Value) (x : Vo) (w : World) (hT : Tabs w) (hC : CrcTab w) (hv : VolAt w v x) (hl : x.ins.length ≤ maxLen) (hh : ∀ y ∈ x.ins, InoHeld y) :
    Calls Tryd.prog 3 #[v] w fun e w' => e = .returned (.bool true) ∧ Below w.heap.size w w' := by
  unfold maxLen at hl
  have HZ := fun w' (b : Below w.heap.size w w') => szVol_at v x w' (hv.below b) (by omega) hh
  have HTO : VolShort x → ∀ w', Below w.heap.size w w' → _ := fun hs w' b => toVol_any v x w' hs.len hs.ents (hv.below b)
  have HS : VolShort x → ∀ u w', VolAt w' u x → _ := fun hs u w' h => sVolOk u x w' hs h
  have HI : VolShort x → ∀ u w', Below w.heap.size w w' → VolAt w' u x → _ := fun hs u w' b h => iVolOk u x w' (hT.below b) (hC.below b) hs h
  have HEQ : VolShort x → ∀ u1 u2 w', VolAt w' u1 x → VolAt w' u2 x → _ := fun hs u1 u2 w' h1 h2 => eqVol_same u1 u2 x w' (by have := hs.len; omega) (fun y hy => by have := hs.ents y hy; omega) h1 h2
  generalize rightB x = rb at HS HI
  have HVV : Hid (VolAt w v x) := hv
  obtain ⟨u0, rfl, hin⟩ := hv
  obtain ⟨a, ca, rfl, -, -⟩ := hin
  obtain ⟨nx, HNX⟩ : ∃ nx, Hid (nx = x.next) := ⟨_, rfl⟩
  rw [← HNX.out] at HZ HTO ⊢
  have S0 : (w.alloc (.cells #[.int .i64 nx, .slice a x.ins.length ca] 24)).heap.size = w.heap.size + 1 := by simp
  have B0 := below_lit w (.cells #[.int .i64 nx, .slice a x.ins.length ca] 24)
  have HZ := HZ _ B0
  rw [S0] at HZ
  go_enter Tryd.func3, Tryd.ntmps3
  go_wp2_with fail
  refine HZ.mono ?_
  rintro e w1 ⟨q, rfl, ⟨hq0, hq1⟩, HQ, b1⟩
  obtain ⟨p0, p1, HB1⟩ := box_cells b1
  by_cases hq : q < 0
  · go_wp2
    go_ret
    exact ⟨rfl, HB1⟩
  · have hs := short_of (HQ.out (by omega))
    have HTO := HTO hs
    have HS := HS hs
    have HI := HI hs
    have HEQ := HEQ hs
    clear HQ HZ
    go_wp2_with fail
    refine (HTO w1 HB1).mono ?_
    rintro e w2 ⟨u2, L2, rfl, hL2, r2, b2⟩
    have at2 : VolAt w2 (.agg #[.int .i64 nx, u2]) x := ⟨u2, by rw [HNX.out], by rw [← hL2]; exact r2.at⟩
    have C2 := b1.trans (b2.mono (by have := b1.size; rw [S0] at this; exact this))
    obtain ⟨p0, p1, HB2⟩ := box_cells C2
    go_wp2_with fail
    refine (HS _ w2 at2).mono ?_
    rintro e w3 ⟨rfl, b3⟩
    have C3 := C2.trans (b3.mono (by have := C2.size; rw [S0] at this; exact this))
    obtain ⟨p0, p1, HB3⟩ := box_cells C3
    go_wp2_with fail
    refine (HTO w3 HB3).mono ?_
    rintro e w4 ⟨u4, L4, rfl, hL4, r4, b4⟩
    have at4 : VolAt w4 (.agg #[.int .i64 nx, u4]) x := ⟨u4, by rw [HNX.out], by rw [← hL4]; exact r4.at⟩
    have C4 := C3.trans (b4.mono (by have := C3.size; rw [S0] at this; exact this))
    have hs4 := C4.size
    rw [S0] at hs4
    obtain ⟨ua, uc, hu4, -, -⟩ := r4.at
    rw [hL4] at hu4
    subst hu4
    have S4 : (w4.alloc (.cells #[.int .i64 nx, .slice ua x.ins.length uc] 29)).heap.size = w4.heap.size + 1 := by simp
    have BX4 := below_lit w4 (.cells #[.int .i64 nx, .slice ua x.ins.length uc] 29)
    have C5 := C4.trans (BX4.mono hs4)
    have hHI := HI _ (w4.alloc (.cells #[.int .i64 nx, .slice ua x.ins.length uc] 29)) (box_cells C5).2.2 (at4.below BX4)
    go_wp2_with fail
    refine hHI.mono ?_
    rintro e w5 ⟨rfl, b5⟩
    rw [S4] at b5
    obtain ⟨x0, x1, HX5⟩ := box_cells b5
    have C6 := C5.trans (b5.mono (by omega))
    obtain ⟨p0, p1, HB5⟩ := box_cells C6
    have HF6 : Hid (∀ u6 L6 w6, L6.map (fun p : Ino × Value => p.1) = x.ins → InoRow w6 w5.drew.heap.size u6 L6 → Below w5.drew.heap.size w5.drew w6 → (VolAt w6 (.agg #[.int .i64 nx, u6]) x ∧ VolAt w6 (.agg #[.int .i64 nx, .slice ua x.ins.length uc]) x) ∧ (w6.cell? ⟨w4.heap.size, 0, none⟩ = some (.int .i64 nx) ∧ w6.cell? ⟨w4.heap.size, 1, none⟩ = some (.slice ua x.ins.length uc)) ∧ ∀ w7, Below w6.heap.size w6 w7 → Below w.heap.size w w7) := fun u6 L6 w6 hL6 r6 b6 => by
      have b6' : Below w5.heap.size w5 w6 := (Below.refl _ _).drew.trans b6
      have D6 := b5.trans (b6'.mono (by have := b5.size; rw [S4] at this; exact this))
      obtain ⟨y0, y1, HX6⟩ := box_cells D6
      have C7 := C6.trans (b6'.mono (by have := C6.size; rw [S0] at this; exact this))
      refine ⟨⟨⟨u6, by rw [HNX.out], by rw [← hL6]; exact r6.at⟩, at4.below HX6⟩, ⟨y0, y1⟩, fun w7 b7 => ?_⟩
      exact (box_cells (C7.trans (b7.mono (by have := C7.size; rw [S0] at this; exact this)))).2.2
    have hTO5 := HTO w5.drew HB5.drew
    have HEQ : Hid (∀ u1 u2 w', VolAt w' u1 x → VolAt w' u2 x → Calls Tryd.prog 8 #[u1, u2] w' fun e w'' => e = .returned (.bool true) ∧ Below w'.heap.size w' w'') := HEQ
    clear hHI HI HS HTO
    go_wp2_with fail
    go_region_with (first
      | (go_at_call 6; refine hTO5.mono ?_; rintro e w6 ⟨u6, L6, rfl, hL6, r6, b6⟩; obtain ⟨⟨at6, at46⟩, ⟨y0, y1⟩, hend⟩ := HF6.out u6 L6 w6 hL6 r6 b6; obtain ⟨ub, ud, hu6, -, -⟩ := r6.at; rw [hL6] at hu6; subst hu6; have hend : Hid _ := hend)
      | (go_at_call 8; refine (HEQ.out _ _ _ at46 at6).mono ?_; rintro e w7 ⟨rfl, b7⟩))
    all_goals
      try go_wp2
      go_ret
      exact ⟨rfl, hend.out w7 b7⟩

end Go.Proofs.YtjggkhcomaiplaaDoor
