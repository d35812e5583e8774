/- Devices: laws.FnExactNewDev: the walk. -/
import Derived.Test.YtpmdhoiodbjojaaRows
import Derived.Test.YtpmdhoiodbjojaaWDa
namespace Go.Proofs.Ytpmdhoiodbjojaa
open Go.RowKit

set_option maxRecDepth 100000 in
set_option maxHeartbeats 4000000 in
theorem wNewDev (w : World) : Calls Try.prog 5 #[] w fun e w' => e = .returned (.bool true) ∧ Below w.heap.size w w' := by
  have HS := fun w' => sNewDev w'
  have HI := fun w' => iNewDev w'
  have hk18 : newDv.blocks.length ≤ 18 := by decide
  have hk0 : newDv.pend.length = 0 := rfl
  generalize newDv = K at *
  have HEK := fun u v w' => eqDev_same u v K w' (by omega)
  go_enter Try.func5, Try.ntmps5
  go_wp2_with fail
  refine (HS w).mono ?_
  rintro e w3 ⟨u3, v3, rfl, r3, b3⟩
  obtain ⟨sa, s1, sc, sb, s2, sd, rfl, rfl⟩ := dev_forms r3
  have B3 := b3.trans ((below_lit w3 (.cells #[.slice sa s1 sc, .slice sb s2 sd] 27)).mono b3.size)
  have sv3 := VarD.new r3
  have hs3 : (w3.alloc (.cells #[.slice sa s1 sc, .slice sb s2 sd] 27)).heap.size = w3.heap.size + 1 := by simp
  have hw3 := b3.size
  have HI4 := HI (w3.alloc (.cells #[.slice sa s1 sc, .slice sb s2 sd] 27))
  rw [hs3] at HI4
  clear r3 b3
  go_wp2_with fail
  refine HI4.mono ?_
  rintro e w5 ⟨u5, v5, rfl, r5, b5⟩
  obtain ⟨ja, j1, jc, jb, j2, jd, rfl, rfl⟩ := dev_forms r5
  have b5' := b5
  rw [← hs3] at b5'
  have BL5 := below_lit w5 (.cells #[.slice ja j1 jc, .slice jb j2 jd] 27)
  have B5 := (B3.trans (b5'.mono (by omega))).trans (BL5.mono (by have := b5.size; rw [hs3] at this; omega))
  have sv5 := (sv3.below b5').below BL5
  have gv5 := VarD.new r5
  have hn5 := b5.size
  rw [hs3] at hn5
  have hs5 : (w5.alloc (.cells #[.slice ja j1 jc, .slice jb j2 jd] 27)).heap.size = w5.heap.size + 1 := by simp
  have HE5 := HEK _ _ _ gv5.r.at sv5.r.at
  rw [hs5] at HE5
  obtain ⟨x0, x1⟩ := sv5.cells
  clear sv3 HI4 r5 b5 b5' BL5 hs3 B3
  go_wp2_with fail
  refine HE5.mono ?_
  rintro e w10 ⟨rfl, b10⟩
  rw [← hs5] at b10
  have B10 := B5.trans (b10.mono (by omega))
  have sv10 := sv5.below b10
  have gv10 := gv5.below b10
  obtain ⟨g0, g1⟩ := gv10.cells
  have HMG := markDev_any _ _ K 1 (w3.heap.size + 1) w5.heap.size w10 gv10.r gv10.ta gv10.tb (by omega) (by omega) (by decide) (by decide)
  have HHG := fun w' h => heldDev_marks (.slice ja j1 jc) (.slice jb j2 jd) K.blocks.length K.pend.length 1 w' (by omega) (by omega) (by decide) (by decide) h
  generalize marksT 1 K.blocks.length = mT at *
  generalize marksW (1 + K.blocks.length) K.pend.length = mW at *
  obtain ⟨nm, HNM⟩ : ∃ nm : Nat, Hid (nm = 1 + K.blocks.length + 2 * K.pend.length) := ⟨_, rfl⟩
  rw [← HNM.out] at HMG
  have HHG : ∀ w', TxtsAt w' (.slice ja j1 jc) mT → WrsAt w' (.slice jb j2 jd) mW → Calls Try.prog 22 #[.agg #[.slice ja j1 jc, .slice jb j2 jd], .int .i64 1] w' fun e w'' => e = .returned (.int .i64 nm) ∧ Below w'.heap.size w' w'' := fun w' h1 h2 => by rw [HNM.out]; exact HHG w' h1 h2
  have hnn : ¬ ((nm : Int) < 0) := by omega
  have hz10 : w3.heap.size + 1 ≤ w10.heap.size := by have := lt_of_block gv10.hp; omega
  clear sv5 gv5 b10 HE5 hs5 B5
  go_wp2_with fail
  refine HMG.mono ?_
  rintro e w11 ⟨rfl, r11, m11⟩
  have B11 := B10.trans ((m11.below hz10).mono (by omega))
  have sv11 := sv10.mid m11 (by omega) (by omega)
  have gv11 := gv10.marked m11 r11
  obtain ⟨g0, g1⟩ := gv11.cells
  clear sv10 gv10 HMG m11 r11 B10
  go_wp2_with fail
  refine (HHG w11 gv11.r.t.at gv11.r.p.at).mono ?_
  rintro e w12 ⟨rfl, b12⟩
  have B12 := B11.trans (b12.mono B11.size)
  have sv12 := sv11.below b12
  have gv12 := gv11.below b12
  clear sv11 gv11 b12 g0 g1 x0 x1
  go_wp2_with fail
  refine (HI w12).mono ?_
  rintro e w14 ⟨u14, v14, rfl, r14, b14⟩
  obtain ⟨ka, k1, kc, kb, k2, kd, rfl, rfl⟩ := dev_forms r14
  have BL14 := below_lit w14 (.cells #[.slice ka k1 kc, .slice kb k2 kd] 27)
  have B14 := (B12.trans (b14.mono B12.size)).trans (BL14.mono (Nat.le_trans B12.size b14.size))
  have sv14 := (sv12.below b14).below BL14
  have gv14 := (gv12.below b14).below BL14
  have hv14 := VarD.new r14
  have hs14 : (w14.alloc (.cells #[.slice ka k1 kc, .slice kb k2 kd] 27)).heap.size = w14.heap.size + 1 := by simp
  have HE14 := HEK _ _ _ hv14.r.at sv14.r.at
  rw [hs14] at HE14
  obtain ⟨x0, x1⟩ := sv14.cells
  obtain ⟨h0, h1⟩ := hv14.cells
  clear sv12 gv12 b14 BL14 r14 B12 B11
  go_wp2_with fail
  refine HE14.mono ?_
  rintro e w15 ⟨rfl, b15⟩
  rw [← hs14] at b15
  have B15 := B14.trans (b15.mono B14.size)
  have gv15 := gv14.below b15
  obtain ⟨g0, g1⟩ := gv15.cells
  clear sv14 gv14 hv14 HE14 b15 h0 h1 x0 x1
  go_wp2_with fail
  refine (HHG w15 gv15.r.t.at gv15.r.p.at).mono ?_
  rintro e w16 ⟨rfl, b16⟩
  go_wp2
  go_ret
  exact ⟨rfl, B15.trans (b16.mono B15.size)⟩

end Go.Proofs.Ytpmdhoiodbjojaa
