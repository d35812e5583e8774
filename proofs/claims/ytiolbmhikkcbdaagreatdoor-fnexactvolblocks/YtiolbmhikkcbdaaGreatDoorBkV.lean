/- Blocks, spec: l7Blocks, VolBlocks. -/
import Derived.Test.YtiolbmhikkcbdaaGreatDoorRows
import Derived.Test.YtiolbmhikkcbdaaGreatDoorBkS
import Derived.Deep.RegionHeld3
namespace Go.Proofs.YtiolbmhikkcbdaaGreatDoor
open Go.RowKit Go.Sort

set_option maxRecDepth 100000 in
set_option maxHeartbeats 1000000 in
theorem sBlocks (v : Value) (x : Vo) (w : World) (hl : x.ins.length ≤ 16) (hx : ∀ y ∈ x.ins, InoS y) (hv : VolAt w v x) :
    Calls Tryz.prog 67 #[v] w fun e w' => ∃ u, e = .returned u ∧ TxtRow w' w.heap.size u (blocksN x) ∧ Below w.heap.size w w' := by
  have HST : Hid (∀ k, upT x k ++ [slotT x k] = upT x (k + 1)) := fun k => upT_step x k
  have HSI : Hid (∀ k, k < x.ins.length → slotT x k = inoT x.ins[k]!) := fun k hk => by unfold slotT; rw [if_pos hk]
  have HSN : Hid (∀ k, ¬ k < x.ins.length → slotT x k = ⟨#[]⟩) := fun k hk => by unfold slotT; rw [if_neg hk]
  have HLN : Hid (∀ k, (upT x k).length = k + 1) := fun k => upT_len x k
  have H0 : Hid (upT x 0 = [(⟨#[117]⟩ : ByteArray) ++ varT x.next ++ varT x.ins.length]) := rfl
  have HE : Hid (upT x 16 = blocksN x) := rfl
  have HIN : Hid (∀ k, k < x.ins.length → ∀ s w', EntsAt w' s x.ins[k]!.ents → Calls Tryz.prog 118 #[valI x.ins[k]! s] w' fun e w'' => e = .returned (.string (inoT x.ins[k]!)) ∧ Below w'.heap.size w' w'') := fun k hk s w' hs => sInode _ s w' (hx _ (place_mem hk)) hs
  generalize upT x = up at *
  generalize blocksN x = R at *
  generalize slotT x = sl at *
  clear hx
  obtain ⟨nx, l⟩ := x
  obtain ⟨u, rfl, a, ca, rfl, -, hva⟩ := hv
  dsimp only at *
  obtain ⟨n, HN⟩ : ∃ n, Hid (n = l.length) := ⟨_, rfl⟩
  rw [← HN.out] at hva hl HSI HSN H0 HIN ⊢
  have V := fun z w' => sVarT z w'
  have hz := varT_size
  generalize varT = tv at *
  have z1 := hz nx
  have z2 := hz n
  clear hz
  have S0 : (w.alloc (.cells #[.int .i64 nx, .slice a n ca] 26)).heap.size = w.heap.size + 1 := by simp
  have B0 := below_lit w (.cells #[.int .i64 nx, .slice a n ca] 26)
  go_enter Tryz.func67, Tryz.ntmps67
  go_wp2
  have q1 : ¬ (9223372036854775807 < 1 + (tv nx).size) := by omega
  have q2 : ¬ (9223372036854775807 < 1 + (tv nx).size + (tv n).size) := by omega
  have HD : Hid (∀ w1, Below (w.alloc (.cells #[.int .i64 nx, .slice a n ca] 26)).drew.heap.size (w.alloc (.cells #[.int .i64 nx, .slice a n ca] 26)).drew w1 → Below (w.heap.size + 1) (w.alloc (.cells #[.int .i64 nx, .slice a n ca] 26)) w1) := fun w1 b1 => (Below.refl _ _).drew.trans (b1.mono (by show w.heap.size + 1 ≤ (w.alloc _).heap.size; omega))
  go_region_held3 (fun w' => (w'.cell? ⟨w.heap.size, 0, none⟩ = some (.int .i64 nx) ∧ w'.cell? ⟨w.heap.size, 1, none⟩ = some (.slice a n ca))) (go_keep)
    (first
      | (go_at_call 117; refine (V _ _).mono ?_; rintro e w1 ⟨rfl, b1⟩; have C1 := HD.out w1 b1; obtain ⟨p0, p1, HB1⟩ := box_cells C1)
      | (go_at_call 117; refine (V _ _).mono ?_; rintro e w2 ⟨rfl, b2⟩; have C2 := C1.trans (b2.mono (by have := C1.size; rw [S0] at this; exact this)); obtain ⟨p0, p1, HB2⟩ := box_cells C2))
  have hs2 := C2.size
  rw [S0] at hs2
  have r0 : TxtRow (w2.alloc (.cells #[.string ((⟨#[117]⟩ : ByteArray) ++ tv nx ++ tv n)] 9)) (w.heap.size + 1) (.slice (some ⟨w2.heap.size, 0, none⟩) 1 1) (up 0) := by
    rw [H0.out]; exact head_row w2 _ _ hs2
  have C3 := C2.alloc hs2 (.cells #[.string ((⟨#[117]⟩ : ByteArray) ++ tv nx ++ tv n)] 9)
  have hup0 : Hid (∀ k, k ≤ 16 → (up k).length + 1 ≤ 1099511627776) := fun k hk => by rw [HLN.out]; omega
  clear C1 b1 b2 V z1 z2 q1 q2 HD p0 p1 HB1 HB2 H0
  generalize w2.alloc (.cells #[.string ((⟨#[117]⟩ : ByteArray) ++ tv nx ++ tv n)] 9) = w3 at *
  go_wp2
  go_loopw [3, 4] (fun o i wr => ∃ k : Nat, k ≤ 16 ∧ i = .int .i64 k ∧ TxtRow wr (w.heap.size + 1) o (up k) ∧ Below (w.heap.size + 1) (w.alloc (.cells #[.int .i64 nx, .slice a n ca] 26)) wr) (fun _ i _ => 16 - (intOf i).toNat)
  case atStart => exact ⟨0, Nat.zero_le _, rfl, r0, C3⟩
  case round =>
    obtain ⟨k, hk, rfl, hown, hbel⟩ := hrel
    obtain ⟨p0, p1, HB⟩ := box_cells hbel
    have hsb := hbel.size
    rw [S0] at hsb
    have hul := hup0.out k hk
    by_cases hlt : k < 16
    · have hlt' : (k : Int) < 16 := by omega
      have HSK := HST.out k
      by_cases hkn : k < n
      · obtain ⟨b1, o1, s1, rfl, hb1, hc1, hen⟩ := hva k hkn
        have hc1 := hc1.below hb1 HB
        have hII := HIN.out k hkn s1 wr (hen.below HB)
        rw [HSI.out k hkn] at HSK
        obtain ⟨ea, ec, rfl, -, -⟩ := hen
        have HSK : Hid _ := HSK
        generalize l[k]! = y at hc1 hII HSK
        obtain ⟨yi, yk, yl, yd, ye⟩ := y
        unfold valI at hII
        dsimp only at hc1 hII HSK
        have k0 := hc1.c0
        have k1 := hc1.c1
        have k2 := hc1.c2
        have k3 := hc1.c3
        have k4 := hc1.c4
        generalize inoT ⟨yi, yk, yl, yd, ye⟩ = ti at *
        clear hc1 hva
        generalize up k = uk at *
        go_wp2_with (first
          | (go_at_call 118; refine hII.mono ?_; rintro e w4 ⟨rfl, b4⟩; have hown4 := hown.below b4; have hs4 := b4.size; have hs4' : w.heap.size + 1 ≤ w4.heap.size := by omega)
          | (at_builtin; refine append_txt w4 rfl (.tmp 24) (.tmp 31) rfl (w.heap.size + 1) _ uk ti hul hown4 rfl rfl hs4' ?_; intro v' w5 hown5 hbel5))
        go_roundw
        case rel => exact ⟨k + 1, by omega, by go_num, by rw [← HSK.out]; exact hown5, (hbel.trans (b4.mono hsb)).trans hbel5⟩
        case measure => simp [intOf]; omega
      · rw [HSN.out k hkn] at HSK
        have HSK : Hid _ := HSK
        have hkn' : ¬ ((k : Int) < (n : Int)) := by omega
        generalize up k = uk at *
        go_wp2_with (at_builtin; refine append_txt wr rfl (.tmp 33) (.tmp 34) rfl (w.heap.size + 1) _ uk ⟨#[]⟩ hul hown rfl rfl hsb ?_; intro v' w5 hown5 hbel5)
        go_roundw
        case rel => exact ⟨k + 1, by omega, by go_num, by rw [← HSK.out]; exact hown5, hbel.trans hbel5⟩
        case measure => simp [intOf]; omega
    · obtain rfl : k = 16 := by omega
      rw [HE.out] at hown
      go_wp2
      go_ret
      exact ⟨_, rfl, hown.mono (by omega), HB⟩

theorem empty_strs (w : World) : TxtRow (w.alloc (.cells #[] 9)) w.heap.size (.slice (some ⟨w.heap.size, 0, none⟩) 0 0) [] :=
  World.ownsRow_lit (base := w.heap.size) (e := 9) (size := 1) w #[] 0 (Nat.le_refl _) (by unfold maxLen; omega) rfl

set_option maxRecDepth 100000 in
set_option maxHeartbeats 1000000 in
theorem sVolBlocks (v : Value) (x : Vo) (w : World) (hx : VolShort x) (hv : VolAt w v x) :
    Calls Tryz.prog 35 #[v] w fun e w' => ∃ u, e = .returned u ∧ TxtRow w' w.heap.size u (volBlocksN x) ∧ Below w.heap.size w w' := by
  have HOK : ∀ w', Below w.heap.size w w' → Calls Tryz.prog 14 #[v] w' fun e w'' => e = .returned (.bool (rightB x)) ∧ Below w'.heap.size w' w'' := fun w' b => sVolOk v x w' hx (hv.below b)
  have HBL : rightB x = true → ∀ w', Below w.heap.size w w' → _ := fun hr w' b => sBlocks v x w' (rightB_iff.1 hr).len (fun y hy => right_small (rightB_iff.1 hr) hy) (hv.below b)
  unfold volBlocksN
  obtain ⟨u, rfl, a, ca, rfl, -, -⟩ := hv
  have B0 := below_lit w (.cells #[.int .i64 x.next, .slice a x.ins.length ca] 26)
  have S0 : (w.alloc (.cells #[.int .i64 x.next, .slice a x.ins.length ca] 26)).heap.size = w.heap.size + 1 := by simp
  have hOK := HOK _ B0
  rw [S0] at hOK
  cases hr : rightB x with
  | false =>
    rw [hr] at hOK
    generalize x.next = nx at *
    generalize x.ins.length = n at *
    go_enter Tryz.func35, Tryz.ntmps35
    go_wp2_with (go_at_call 14; refine hOK.mono ?_; rintro e w1 ⟨rfl, b1⟩; obtain ⟨p0, p1, HB1⟩ := box_cells b1)
    go_ret
    exact ⟨_, rfl, TxtRow.mono (empty_strs w1) HB1.size, HB1.trans ((below_lit w1 _).mono HB1.size)⟩
  | true =>
    rw [hr] at hOK
    have HBL := HBL hr
    rw [if_pos rfl]
    generalize blocksN x = R at *
    generalize x.next = nx at *
    generalize x.ins.length = n at *
    go_enter Tryz.func35, Tryz.ntmps35
    go_wp2_with (first
      | (go_at_call 14; refine hOK.mono ?_; rintro e w1 ⟨rfl, b1⟩; obtain ⟨p0, p1, HB1⟩ := box_cells b1)
      | (go_at_call 67; refine (HBL _ HB1).mono ?_; rintro e w2 ⟨u2, rfl, r2, b2⟩))
    go_ret
    exact ⟨_, rfl, r2.mono HB1.size, HB1.trans (b2.mono HB1.size)⟩

end Go.Proofs.YtiolbmhikkcbdaaGreatDoor
