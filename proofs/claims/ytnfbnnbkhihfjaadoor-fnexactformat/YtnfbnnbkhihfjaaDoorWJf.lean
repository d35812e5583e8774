/- Journals: spec.Format, impl.Format; laws.FnExactFormat: the walk. -/
import Derived.Test.YtnfbnnbkhihfjaaDoorRows
import Derived.Test.YtnfbnnbkhihfjaaDoorPg
import Derived.Test.YtnfbnnbkhihfjaaDoorLVn
import Derived.Test.YtnfbnnbkhihfjaaDoorMz
namespace Go.Proofs.YtnfbnnbkhihfjaaDoor
open Go.RowKit Go.Sort

def newVo : Vo := ⟨2, [rootI]⟩
theorem newVo_right : RightV newVo := newV_right
theorem newVo_at {w : World} {base g : Nat} (h : InoRow w base (.slice (some ⟨g, 0, none⟩) 1 1) [(rootI, .slice none 0 0)]) : VolAt w (.agg #[.int .i64 2, .slice (some ⟨g, 0, none⟩) 1 1]) newVo := ⟨_, rfl, h.at⟩
theorem newVo_short : VolShort newVo := ⟨by decide, by intro y hy; simp [newVo] at hy; subst hy; decide, (by intro y hy e he; simp [newVo] at hy; subst hy; cases he), by intro y hy; simp [newVo] at hy; subst hy; decide⟩
/-- what Format answers -/
def formatN : List ByteArray := blocksN newVo ++ [⟨#[]⟩]
theorem formatN_len : formatN.length = 18 := by unfold formatN; rw [List.length_append, blocksN_len]; rfl

set_option maxRecDepth 100000 in
set_option maxHeartbeats 1000000 in
theorem sFormat (w : World) : Calls Tryd.prog 4 #[] w fun e w' => ∃ u, e = .returned u ∧ TxtRow w' w.heap.size u formatN ∧ Below w.heap.size w w' := by
  have HB := fun v w' (h : VolAt w' v newVo) => sBlocks v newVo w' newVo_right.len (fun y hy => right_small newVo_right hy) h
  have hln := blocksN_len newVo
  have HF : Hid (formatN = blocksN newVo ++ [⟨#[]⟩]) := rfl
  rw [HF.out]
  generalize blocksN newVo = L at *
  go_enter Tryd.func4, Tryd.ntmps4
  go_wp2_with fail
  refine (sNewVol w).mono ?_
  rintro e w1 ⟨g, rfl, r1, b1⟩
  go_wp2_with fail
  refine (HB _ w1 (newVo_at r1)).mono ?_
  rintro e w2 ⟨u2, rfl, r2, b2⟩
  have B2 := b1.trans (b2.mono b1.size)
  go_wp2_with (at_builtin; refine append_txt _ rfl (.tmp 2) (.tmp 3) rfl w.heap.size _ L ⟨#[]⟩ (by omega) (r2.mono b1.size) rfl rfl B2.size ?_; intro v' w3 hr3 hb3)
  go_ret
  exact ⟨_, rfl, hr3, B2.trans hb3⟩

set_option maxRecDepth 100000 in
set_option maxHeartbeats 1000000 in
theorem iFormat (w : World) (hT : Tabs w) (hC : CrcTab w) : Calls Tryd.prog 5 #[] w fun e w' => ∃ u, e = .returned u ∧ TxtRow w' w.heap.size u formatN ∧ Below w.heap.size w w' := by
  have HB := fun v w' (b : Below w.heap.size w w') (h : VolAt w' v newVo) => iVolBlocks v newVo w' (hT.below b) (hC.below b) newVo_short h
  have hvb : volBlocksN newVo = blocksN newVo := by unfold volBlocksN; rw [if_pos (rightB_iff.2 newVo_right)]
  rw [hvb] at HB
  have hln := blocksN_len newVo
  have HF : Hid (formatN = blocksN newVo ++ [⟨#[]⟩]) := rfl
  rw [HF.out]
  generalize blocksN newVo = L at *
  go_enter Tryd.func5, Tryd.ntmps5
  go_wp2_with fail
  refine (iNewVol w).mono ?_
  rintro e w1 ⟨g, rfl, r1, b1⟩
  go_wp2_with fail
  refine (HB _ w1 b1 (newVo_at r1)).mono ?_
  rintro e w2 ⟨u2, rfl, r2, b2⟩
  have B2 := b1.trans (b2.mono b1.size)
  go_wp2_with (at_builtin; refine append_txt _ rfl (.tmp 2) (.tmp 3) rfl w.heap.size _ L ⟨#[]⟩ (by omega) (r2.mono b1.size) rfl rfl B2.size ?_; intro v' w3 hr3 hb3)
  go_ret
  exact ⟨_, rfl, hr3, B2.trans hb3⟩

set_option maxRecDepth 100000 in
set_option maxHeartbeats 1000000 in
theorem wFormat (w : World) (hT : Tabs w) (hC : CrcTab w) : Calls Tryd.prog 3 #[] w fun e w' => e = .returned (.bool true) ∧ Below w.heap.size w w' := by
  have HS := fun w' => sFormat w'
  have HI := fun w' (b : Below w.heap.size w w') => iFormat w' (hT.below b) (hC.below b)
  have hln := formatN_len
  generalize formatN = F at *
  have HEQ : ∀ u v w', TxtsAt w' u F → TxtsAt w' v F → Calls Tryd.prog 6 #[u, v] w' fun r w'' => r = .returned (.bool true) ∧ Below w'.heap.size w' w'' := fun u v w' hu hv => by
    have := eqStringS_any u v F F w' (by omega) hu hv
    rwa [decide_eq_true rfl] at this
  go_enter Tryd.func3, Tryd.ntmps3
  go_wp2_with fail
  refine (HS w).mono ?_
  rintro e w1 ⟨u1, rfl, r1, b1⟩
  go_wp2_with fail
  refine (HI w1 b1).mono ?_
  rintro e w2 ⟨u2, rfl, r2, b2⟩
  have B2 := b1.trans (b2.mono b1.size)
  have s2 := r1.below b2
  have hu1 : ∀ q, u1.ownBlock = some q → q < w1.heap.size := fun q hq => (World.ownsRow.lt r1 q hq).2
  go_wp2_with fail
  refine (HEQ _ _ w2 r2.at s2.at).mono ?_
  rintro e w3 ⟨rfl, b3⟩
  have B3 := B2.trans (b3.mono B2.size)
  have s3 := s2.below b3
  have g3 := r2.below b3
  have HM := markStringS_any u2 F 1 w1.heap.size w3 g3 (by omega) (by decide) (by decide)
  have HH := fun w' h => heldStringS_marks u2 F.length 1 w' (by omega) (by decide) (by decide) h
  have HH : ∀ w', TxtsAt w' u2 (marksT 1 F.length) → Calls Tryd.prog 8 #[u2, .int .i64 1] w' fun e w'' => e = .returned (.int .i64 ((1 + F.length : Nat) : Int)) ∧ Below w'.heap.size w' w'' := HH
  obtain ⟨nm, HNM⟩ : ∃ nm : Nat, Hid (nm = 1 + F.length) := ⟨_, rfl⟩
  rw [← HNM.out] at HM HH
  generalize marksT 1 F.length = mT at HM HH
  have hnn : ¬ ((nm : Int) < 0) := by omega
  have z1 := b1.size
  go_wp2_with fail
  refine HM.mono ?_
  rintro e w4 ⟨rfl, r4, g4⟩
  have B4 : Below w.heap.size w w4 := B3.grown g4 B3.size (fun q hq => by have := (World.ownsRow.lt g3 q hq).1; omega)
  have s4 : TxtRow w4 w.heap.size u1 F := ⟨s3.1, by
    rcases s3.2 with h0 | ⟨gg, cap, cur, e, hg, hh, r⟩
    · exact .inl h0
    · refine .inr ⟨gg, cap, cur, e, hg, (g4.block gg (lt_of_block hh) (fun e2 => ?_)).trans hh, r⟩
      have h1 := hu1 gg (by rw [e]; rfl)
      have h2 := (World.ownsRow.lt g3 gg e2.symm).1
      omega⟩
  clear HM g3 s3 s2 r2
  go_wp2_with fail
  refine (HH w4 r4.at).mono ?_
  rintro e w5 ⟨rfl, b5⟩
  have B5 := B4.trans (b5.mono B4.size)
  have s5 := s4.below b5
  have m5 := r4.below b5
  clear s4 r4
  go_wp2_with fail
  refine (HI w5 B5).mono ?_
  rintro e w6 ⟨u6, rfl, r6, b6⟩
  have B6 := B5.trans (b6.mono B5.size)
  have s6 := s5.below b6
  have m6 := m5.below b6
  go_wp2_with fail
  refine (HEQ _ _ w6 r6.at s6.at).mono ?_
  rintro e w7 ⟨rfl, b7⟩
  have B7 := B6.trans (b7.mono B6.size)
  have m7 := m6.below b7
  go_wp2_with fail
  refine (HH w7 m7.at).mono ?_
  rintro e w8 ⟨rfl, b8⟩
  go_wp2
  go_ret
  exact ⟨rfl, B7.trans (b8.mono B7.size)⟩

end Go.Proofs.YtnfbnnbkhihfjaaDoor
