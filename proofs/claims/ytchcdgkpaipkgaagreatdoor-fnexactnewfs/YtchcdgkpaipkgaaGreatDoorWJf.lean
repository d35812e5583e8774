/- Journals: spec.Format, impl.Format; laws.FnExactFormat: the walk. -/
import Derived.Test.YtchcdgkpaipkgaaGreatDoorRows
import Derived.Test.YtchcdgkpaipkgaaGreatDoorPg
import Derived.Test.YtchcdgkpaipkgaaGreatDoorLVn
import Derived.Test.YtchcdgkpaipkgaaGreatDoorMz
namespace Go.Proofs.YtchcdgkpaipkgaaGreatDoor
open Go.RowKit Go.Sort

def newVo : Vo := ⟨2, [rootI]⟩
theorem newVo_right : RightV newVo := newV_right
theorem newVo_at {w : World} {base g : Nat} (h : InoRow w base (.slice (some ⟨g, 0, none⟩) 1 1) [(rootI, .slice none 0 0)]) : VolAt w (.agg #[.int .i64 2, .slice (some ⟨g, 0, none⟩) 1 1]) newVo := ⟨_, rfl, h.at⟩
theorem newVo_short : VolShort newVo := ⟨by decide, by intro y hy; simp [newVo] at hy; subst hy; decide, (by intro y hy e he; simp [newVo] at hy; subst hy; cases he), by intro y hy; simp [newVo] at hy; subst hy; decide⟩
/-- what Format answers -/
def formatN : List ByteArray := blocksN newVo ++ [⟨#[]⟩]
theorem formatN_len : formatN.length = 18 := by unfold formatN; rw [List.length_append, blocksN_len]; rfl

set_option maxRecDepth 100000 in
set_option maxHeartbeats 1000000 in
theorem sFormat (w : World) : Calls Tryz.prog 10 #[] w fun e w' => ∃ u, e = .returned u ∧ TxtRow w' w.heap.size u formatN ∧ Below w.heap.size w w' := by
  have HB := fun v w' (h : VolAt w' v newVo) => sBlocks v newVo w' newVo_right.len (fun y hy => right_small newVo_right hy) h
  have hln := blocksN_len newVo
  have HF : Hid (formatN = blocksN newVo ++ [⟨#[]⟩]) := rfl
  rw [HF.out]
  generalize blocksN newVo = L at *
  go_enter Tryz.func10, Tryz.ntmps10
  go_wp2_with fail
  refine (sNewVol w).mono ?_
  rintro e w1 ⟨g, rfl, r1, b1⟩
  go_wp2_with fail
  refine (HB _ w1 (newVo_at r1)).mono ?_
  rintro e w2 ⟨u2, rfl, r2, b2⟩
  have B2 := b1.trans (b2.mono b1.size)
  go_wp2_with (at_builtin; refine append_txt _ rfl (.tmp 2) (.tmp 3) rfl w.heap.size _ L ⟨#[]⟩ (by omega) (r2.mono b1.size) rfl rfl B2.size ?_; intro v' w3 hr3 hb3)
  go_ret
  exact ⟨_, rfl, hr3, B2.trans hb3⟩

set_option maxRecDepth 100000 in
set_option maxHeartbeats 1000000 in
theorem iFormat (w : World) (hT : Tabs w) (hC : CrcTab w) : Calls Tryz.prog 15 #[] w fun e w' => ∃ u, e = .returned u ∧ TxtRow w' w.heap.size u formatN ∧ Below w.heap.size w w' := by
  have HB := fun v w' (b : Below w.heap.size w w') (h : VolAt w' v newVo) => iVolBlocks v newVo w' (hT.below b) (hC.below b) newVo_short h
  have hvb : volBlocksN newVo = blocksN newVo := by unfold volBlocksN; rw [if_pos (rightB_iff.2 newVo_right)]
  rw [hvb] at HB
  have hln := blocksN_len newVo
  have HF : Hid (formatN = blocksN newVo ++ [⟨#[]⟩]) := rfl
  rw [HF.out]
  generalize blocksN newVo = L at *
  go_enter Tryz.func15, Tryz.ntmps15
  go_wp2_with fail
  refine (iNewVol w).mono ?_
  rintro e w1 ⟨g, rfl, r1, b1⟩
  go_wp2_with fail
  refine (HB _ w1 b1 (newVo_at r1)).mono ?_
  rintro e w2 ⟨u2, rfl, r2, b2⟩
  have B2 := b1.trans (b2.mono b1.size)
  go_wp2_with (at_builtin; refine append_txt _ rfl (.tmp 2) (.tmp 3) rfl w.heap.size _ L ⟨#[]⟩ (by omega) (r2.mono b1.size) rfl rfl B2.size ?_; intro v' w3 hr3 hb3)
  go_ret
  exact ⟨_, rfl, hr3, B2.trans hb3⟩

end Go.Proofs.YtchcdgkpaipkgaaGreatDoor
