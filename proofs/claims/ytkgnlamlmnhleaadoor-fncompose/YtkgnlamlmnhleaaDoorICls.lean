/- Signs: impl.between, impl.Class, impl.FoldOf, impl.isSign: what they answer. -/
import Derived.Test.YtkgnlamlmnhleaaDoorRows
import Derived.Test.YtkgnlamlmnhleaaDoorSgn
import Derived.Test.YtkgnlamlmnhleaaDoorIBtw
import Derived.WalkKit
import Derived.WalkSpells
import Derived.WalkLawsBesides
namespace Go.Proofs.YtkgnlamlmnhleaaDoor
open Go.RowKit

theorem isSign_any (c : Int) (w : World) :
    Calls Tryd.prog 61 #[.int .i64 c] w fun e w' => e = .returned (.bool (sgnB c)) ∧ w = w' := by
  have HR : Hid (sgnB c = (inB c 0 1114111 && !inB c 55296 57343)) := rfl
  cases h1 : inB c 0 1114111
  · go_enter Tryd.func61, Tryd.ntmps61
    go_wp2_with (go_at_call 35; refine (btw_any _ _ _ _).mono ?_; rintro e w' ⟨rfl, rfl⟩)
    go_ret
    exact ⟨by rw [HR.out, h1]; rfl, rfl⟩
  · go_enter Tryd.func61, Tryd.ntmps61
    go_wp2_with (go_at_call 35; refine (btw_any _ _ _ _).mono ?_; rintro e w' ⟨rfl, rfl⟩)
    go_ret
    exact ⟨by rw [HR.out, h1]; simp, rfl⟩

set_option maxRecDepth 100000 in
theorem iClass (c : Int) (w : World) :
    Calls Tryd.prog 19 #[.int .i64 c] w fun e w' => e = .returned (.int .i64 (clsN c)) ∧ Below w.heap.size w w' := by
  by_cases h : c ∈ [768, 769, 770, 771, 772, 776, 778, 803, 807]
  · simp at h
    rcases h with rfl | rfl | rfl | rfl | rfl | rfl | rfl | rfl | rfl <;>
    · go_enter Tryd.func19, Tryd.ntmps19
      go_wp2
      go_ret
      exact ⟨rfl, Below.refl _ _⟩
  · have HR : Hid (clsN c = 0) := by
      show clsN c = 0
      simp at h
      simp [clsN, amongB, clsL, h]
    simp at h
    obtain ⟨h1, h2, h3, h4, h5, h6, h7, h8, h9⟩ := h
    generalize clsN c = r at HR ⊢
    go_enter Tryd.func19, Tryd.ntmps19
    go_wp2
    go_ret
    exact ⟨ret_int HR.out.symm, Below.refl _ _⟩

theorem foldN_up (c : Int) (h : upB c = true) : foldN c = [c + 32] := by unfold foldN; rw [h]; rfl
theorem upB_among (c : Int) (h : c = 198 ∨ c = 208 ∨ c = 216 ∨ c = 222) : upB c = true := by
  rcases h with rfl | rfl | rfl | rfl <;> rfl

set_option maxRecDepth 100000 in
set_option maxHeartbeats 1000000 in
theorem iFoldOf (c : Int) (w : World) :
    Calls Tryd.prog 63 #[.int .i64 c] w fun e w' => ∃ v, e = .returned v ∧ IntRow w' w.heap.size v (foldN c) ∧ Below w.heap.size w w' := by
  by_cases h : c ∈ [198, 208, 216, 222, 223, 962]
  · simp at h
    rcases h with rfl | rfl | rfl | rfl | rfl | rfl <;>
    · go_enter Tryd.func63, Tryd.ntmps63
      go_wp2_with (go_at_call 35; refine (btw_any _ _ _ _).mono ?_; rintro e w' ⟨rfl, rfl⟩)
      go_ret
      first
        | (refine ⟨.slice (some ⟨w.heap.size, 0, none⟩) 1 1, rfl, ret_lit _ w _ _ 1 _ ?_ ?_ ?_ ?_ ?_⟩ <;> first | rfl | decide | exact Below.refl _ _)
        | (refine ⟨.slice (some ⟨w.heap.size, 0, none⟩) 2 2, rfl, ret_lit _ w _ _ 2 _ ?_ ?_ ?_ ?_ ?_⟩ <;> first | rfl | decide | exact Below.refl _ _)
  · simp at h
    obtain ⟨h1, h2, h3, h4, h5, h6⟩ := h
    have HU : Hid (upB c = (inB c 65 90 || inB c 913 929 || inB c 931 937 || inB c 1040 1071)) := by
      show upB c = _
      unfold upB
      rw [show amongB c foldL = false by simp [amongB, foldL, h1, h2, h3, h4]]
      simp
    have HB := upB_le c
    have HF : Hid (foldN c = if upB c then [c + 32] else [c]) := by
      show foldN c = _
      unfold foldN
      rw [if_neg h5, if_neg h6]
    generalize upB c = u at HU HB HF
    generalize foldN c = r at HF ⊢
    cases u
    · have HF' : Hid (r = [c]) := HF
      have hu : inB c 65 90 = false ∧ inB c 913 929 = false ∧ inB c 931 937 = false ∧ inB c 1040 1071 = false := by
        have := HU.out
        revert this
        cases inB c 65 90 <;> cases inB c 913 929 <;> cases inB c 931 937 <;> cases inB c 1040 1071 <;> simp
      obtain ⟨u1, u2, u3, u4⟩ := hu
      clear HF HB HU
      go_enter Tryd.func63, Tryd.ntmps63
      go_wp2_with (go_at_call 35; refine (btw_any _ _ _ _).mono ?_; rintro e w' ⟨rfl, rfl⟩)
      go_ret
      rw [HF'.out]
      refine ⟨.slice (some ⟨w.heap.size, 0, none⟩) 1 1, rfl, ret_lit _ w _ _ 1 _ ?_ ?_ ?_ ?_ ?_⟩ <;> first | rfl | decide | exact Below.refl _ _ | simp
    · have HF' : Hid (r = [c + 32]) := HF
      have hb := HB rfl
      clear HF HB
      cases u1 : inB c 65 90
      · cases u2 : inB c 913 929
        · cases u3 : inB c 931 937
          · have u4 : inB c 1040 1071 = true := by have := HU.out; rw [u1, u2, u3] at this; simpa using this.symm
            clear HU
            go_enter Tryd.func63, Tryd.ntmps63
            go_wp2_with (go_at_call 35; refine (btw_any _ _ _ _).mono ?_; rintro e w' ⟨rfl, rfl⟩)
            go_ret
            rw [HF'.out]
            refine ⟨.slice (some ⟨w.heap.size, 0, none⟩) 1 1, rfl, ret_lit _ w _ _ 1 _ ?_ ?_ ?_ ?_ ?_⟩ <;> first | rfl | decide | exact Below.refl _ _ | simp
          · clear HU
            go_enter Tryd.func63, Tryd.ntmps63
            go_wp2_with (go_at_call 35; refine (btw_any _ _ _ _).mono ?_; rintro e w' ⟨rfl, rfl⟩)
            go_ret
            rw [HF'.out]
            refine ⟨.slice (some ⟨w.heap.size, 0, none⟩) 1 1, rfl, ret_lit _ w _ _ 1 _ ?_ ?_ ?_ ?_ ?_⟩ <;> first | rfl | decide | exact Below.refl _ _ | simp
        · clear HU
          go_enter Tryd.func63, Tryd.ntmps63
          go_wp2_with (go_at_call 35; refine (btw_any _ _ _ _).mono ?_; rintro e w' ⟨rfl, rfl⟩)
          go_ret
          rw [HF'.out]
          refine ⟨.slice (some ⟨w.heap.size, 0, none⟩) 1 1, rfl, ret_lit _ w _ _ 1 _ ?_ ?_ ?_ ?_ ?_⟩ <;> first | rfl | decide | exact Below.refl _ _ | simp
      · clear HU
        go_enter Tryd.func63, Tryd.ntmps63
        go_wp2_with (go_at_call 35; refine (btw_any _ _ _ _).mono ?_; rintro e w' ⟨rfl, rfl⟩)
        go_ret
        rw [HF'.out]
        refine ⟨.slice (some ⟨w.heap.size, 0, none⟩) 1 1, rfl, ret_lit _ w _ _ 1 _ ?_ ?_ ?_ ?_ ?_⟩ <;> first | rfl | decide | exact Below.refl _ _ | simp

end Go.Proofs.YtkgnlamlmnhleaaDoor
