/- Blocks, impl: VolBlocks. -/
import Derived.Test.YtiolbmhikkcbdaaGreatDoorRows
import Derived.Test.YtiolbmhikkcbdaaGreatDoorBkI
import Derived.Test.YtiolbmhikkcbdaaGreatDoorNf
namespace Go.Proofs.YtiolbmhikkcbdaaGreatDoor
open Go.RowKit Go.Sort

/-- the texts laid so far -/
def fillB (x : Vo) (k : Nat) : List ByteArray := headT x :: (List.range 16).map fun i => if i < k then slotT x i else ⟨#[]⟩
theorem fillB_len (x : Vo) (k : Nat) : (fillB x k).length = 17 := by simp [fillB]
theorem fillB_zero (x : Vo) : (List.replicate 17 (⟨#[]⟩ : ByteArray)).set 0 (headT x) = fillB x 0 := by
  unfold fillB
  rw [List.replicate_succ, List.set_cons_zero]
  congr 1
theorem fillB_step (x : Vo) (k : Nat) : (fillB x k).set (1 + k) (slotT x k) = fillB x (k + 1) := by
  unfold fillB
  rw [show 1 + k = k + 1 by omega, List.set_cons_succ]
  congr 1
  apply List.ext_getElem (by simp)
  intro i h1 h2
  rw [List.getElem_set]
  simp only [List.getElem_map, List.getElem_range]
  by_cases e : k = i
  · subst e; simp
  · rw [if_neg e]
    by_cases h3 : i < k
    · rw [if_pos h3, if_pos (by omega)]
    · rw [if_neg h3, if_neg (by omega)]
theorem fillB_all (x : Vo) : fillB x x.ins.length = blocksN x := by
  unfold fillB blocksN
  congr 1
  apply List.map_congr_left
  intro i _
  unfold slotT
  split <;> rfl

set_option maxRecDepth 100000 in
set_option maxHeartbeats 1000000 in
theorem iVolBlocks (v : Value) (x : Vo) (w : World) (hT : Tabs w) (hC : CrcTab w) (hx : VolShort x) (hv : VolAt w v x) :
    Calls Tryz.prog 22 #[v] w fun e w' => ∃ u, e = .returned u ∧ TxtRow w' w.heap.size u (volBlocksN x) ∧ Below w.heap.size w w' := by
  have HOK : ∀ w', Below w.heap.size w w' → Calls Tryz.prog 15 #[v] w' fun e w'' => e = .returned (.bool (rightB x)) ∧ Below w'.heap.size w' w'' := fun w' b => iVolOk v x w' (hT.below b) (hC.below b) hx (hv.below b)
  unfold volBlocksN
  cases hr : rightB x with
  | false =>
    rw [hr] at HOK
    obtain ⟨u, rfl, a, ca, rfl, -, -⟩ := hv
    have B0 := below_lit w (.cells #[.int .i64 x.next, .slice a x.ins.length ca] 26)
    have hOK := HOK _ B0
    generalize x.next = nx at *
    generalize x.ins.length = n at *
    go_enter Tryz.func22, Tryz.ntmps22
    go_wp2_with (go_at_call 15; refine hOK.mono ?_; rintro e w1 ⟨rfl, b1⟩)
    go_ret
    exact ⟨_, rfl, ⟨rfl, .inl ⟨rfl, rfl⟩⟩, B0.trans (b1.mono B0.size)⟩
  | true =>
    rw [hr] at HOK
    rw [if_pos rfl]
    have hR := rightB_iff.1 hr
    have hl := hR.len
    have HIN : Hid (∀ k, k < x.ins.length → ∀ s w', EntsAt w' s x.ins[k]!.ents → Calls Tryz.prog 62 #[valI x.ins[k]! s] w' fun e w'' => e = .returned (.string (slotT x k)) ∧ Below w'.heap.size w' w'') := fun k hk s w' hs => by
      have := iInode _ s w' (right_small hR (place_mem hk)) hs
      unfold slotT
      rwa [if_pos hk]
    have HST : Hid (∀ k, (strsV (fillB x k)).set (1 + k) (.string (slotT x k)) = strsV (fillB x (k + 1))) := fun k => by rw [strsV_set, fillB_step x k]
    have H0 : Hid ((strsV (List.replicate 17 (⟨#[]⟩ : ByteArray))).set 0 (.string ((⟨#[117]⟩ : ByteArray) ++ varT x.next ++ varT x.ins.length)) = strsV (fillB x 0)) := by
      show _ = _; rw [strsV_set]; exact congrArg strsV (fillB_zero x)
    have HE : Hid (∀ w' u, w'.ownsRow w.heap.size 9 1 u 17 (strsV (fillB x x.ins.length)) → TxtRow w' w.heap.size u (blocksN x)) := fun w' u h => by
      rw [fillB_all] at h
      unfold TxtRow; rw [blocksN_len]; exact h
    clear hr hR hx hT hC
    generalize blocksN x = R at HE ⊢
    generalize fillB x = fb at HST H0 HE
    generalize slotT x = sl at HIN HST
    obtain ⟨u, rfl, a, ca, rfl, -, hva⟩ := hv
    obtain ⟨nx, l⟩ := x
    dsimp only at *
    obtain ⟨n, HN⟩ : ∃ n, Hid (n = l.length) := ⟨_, rfl⟩
    rw [← HN.out] at hva hl HIN H0 HE HOK ⊢
    have HHD := fun w' => iHead nx n a ca w'
    generalize (⟨#[117]⟩ : ByteArray) ++ varT nx ++ varT n = th at HHD H0
    have B0 := below_lit w (.cells #[.int .i64 nx, .slice a n ca] 26)
    have S0 : (w.alloc (.cells #[.int .i64 nx, .slice a n ca] 26)).heap.size = w.heap.size + 1 := by simp
    have hOK := HOK _ B0
    rw [S0] at hOK
    obtain ⟨i0, hi, hz0, hz1, hz2⟩ := info_parts Tryz.infoTxt
    go_enter Tryz.func22, Tryz.ntmps22
    go_wp2_with (first
      | (go_at_call 15; refine hOK.mono ?_; rintro e w1 ⟨rfl, b1⟩; obtain ⟨p0, p1, HB1⟩ := box_cells b1; have hs1 := b1.size; rw [S0] at hs1; have hs1' : w.heap.size ≤ w1.heap.size := by omega)
      | (at_make; refine wpList_make_full _ rfl _ _ 43 rfl w.heap.size 9 i0 (.string ⟨#[]⟩) 1 Tryz.underlying43 hi hz0 hz1 .i64 .i64 _ _ 17 rfl rfl rfl rfl (by rw [hz2]; omega) (by unfold maxLen; omega) hs1' ?_; intro w2 hown2 hgrow2; have b2 : Below w1.heap.size w1 w2 := (Below.refl _ _).grown hgrow2 (Nat.le_refl _) (fun _ h => by cases h); have hw2 := b2.size; have p0 := (b2.cell (p := ⟨w.heap.size, 0, none⟩) (show w.heap.size < w1.heap.size by omega)).trans p0; have p1 := (b2.cell (p := ⟨w.heap.size, 1, none⟩) (show w.heap.size < w1.heap.size by omega)).trans p1))
    refine (HHD w2).mono ?_
    rintro e w3 ⟨rfl, b3⟩
    have own3 : w3.ownsRow w.heap.size 9 1 (.slice (some ⟨w1.heap.size, 0, none⟩) 17 17) 17 (strsV (List.replicate 17 (⟨#[]⟩ : ByteArray))) := own_below (by rw [← made_strs]; simpa [Value.cells] using hown2) b3
    have hfz := own3.frozenAt 0
    obtain ⟨u0, hcl⟩ : ∃ u, w3.cell? ⟨w1.heap.size, 0, none⟩ = some u := ⟨_, (own3.cellAt 0 (by omega)).trans (List.getElem?_eq_getElem (by have := own3.1; omega))⟩
    have hw3 := b3.size
    have p1 := (b3.cell (p := ⟨w.heap.size, 1, none⟩) (show w.heap.size < w2.heap.size by omega)).trans p1
    have own4 := (own3.stored 0 (.string th)).1
    rw [H0.out] at own4
    have HO4 : Hid _ := own4
    have hne : ¬ w.heap.size = w1.heap.size := by omega
    have hne2 : ¬ w1.heap.size = w.heap.size := by omega
    have B4 : Below w.heap.size w (w3.setCell ⟨w1.heap.size, 0, none⟩ (.string th)) := (HB1.trans ((b2.trans (b3.mono b2.size)).mono HB1.size)).setCell (by show w.heap.size ≤ w1.heap.size; omega) _
    have HB4 : Hid _ := B4
    clear own4 own3 B4 hown2 hgrow2 HHD HOK hOK H0 hi hz0 hz1 hz2
    go_wp2
    go_loopw [17] (fun i wr => ∃ k : Nat, k ≤ n ∧ i = .int .i64 k ∧ wr.ownsRow w.heap.size 9 1 (.slice (some ⟨w1.heap.size, 0, none⟩) 17 17) 17 (strsV (fb k)) ∧ Below w.heap.size w wr) (fun i _ => n - (intOf i).toNat)
    case atStart => exact ⟨0, Nat.zero_le _, rfl, HO4.out, HB4.out⟩
    case round =>
      obtain ⟨k, hk, rfl, hown, hbel⟩ := hrel
      by_cases hlt : k < n
      · obtain ⟨b1, o1, s1, rfl, hb1, hc1, hen⟩ := hva k hlt
        have hc1 := hc1.below hb1 hbel
        obtain ⟨ea, ec, rfl, -, -⟩ : ∃ ea ec, s1 = .slice ea l[k]!.ents.length ec ∧ True ∧ True := by obtain ⟨ea, ec, e, -, -⟩ := hen; exact ⟨ea, ec, e, trivial, trivial⟩
        have BX := below_lit wr (.cells #[.int .i64 l[k]!.id, .int .i64 l[k]!.kind, .int .i64 l[k]!.links, .string l[k]!.data, .slice ea l[k]!.ents.length ec] 79)
        have hII := HIN.out k hlt _ _ ((hen.below hbel).below BX)
        have HSK := HST.out k
        generalize l[k]! = y at hc1 hII BX
        obtain ⟨yi, yk, yl, yd, ye⟩ := y
        unfold valI at hII
        dsimp only at hc1 hII BX
        have k0 := hc1.c0
        have k1 := hc1.c1
        have k2 := hc1.c2
        have k3 := hc1.c3
        have k4 := hc1.c4
        generalize ye.length = el at *
        have HP : Hid (∀ w4, Below (wr.alloc (.cells #[.int .i64 yi, .int .i64 yk, .int .i64 yl, .string yd, .slice ea el ec] 79)).heap.size (wr.alloc (.cells #[.int .i64 yi, .int .i64 yk, .int .i64 yl, .string yd, .slice ea el ec] 79)) w4 → ((w4.setCell ⟨w1.heap.size, 1 + k, none⟩ (.string (sl k))).ownsRow w.heap.size 9 1 (.slice (some ⟨w1.heap.size, 0, none⟩) 17 17) 17 (strsV (fb (k + 1)))) ∧ ((∃ u, w4.cell? ⟨w1.heap.size, 1 + k, none⟩ = some u) ∧ w4.frozen? ⟨w1.heap.size, 1 + k, none⟩ = false) ∧ Below w.heap.size w (w4.setCell ⟨w1.heap.size, 1 + k, none⟩ (.string (sl k)))) := fun w4 b4 => by
          have h4 := own_below (own_below hown BX) b4
          refine ⟨?_, ⟨⟨_, (h4.cellAt (1 + k) (by omega)).trans (List.getElem?_eq_getElem (by have := h4.1; omega))⟩, h4.frozenAt (1 + k)⟩, ?_⟩
          · rw [← HSK]; exact (h4.stored (1 + k) _).1
          · exact (hbel.trans ((BX.trans (b4.mono BX.size)).mono hbel.size)).setCell (by show w.heap.size ≤ w1.heap.size; omega) _
        generalize sl k = ti at *
        have hk1 : (1 : Int) + (k : Int) < 17 := by omega
        have hk0 : (0 : Int) ≤ 1 + (k : Int) := by omega
        have hkt : ((1 : Int) + (k : Int)).toNat = 1 + k := by omega
        clear hc1 hva hown HSK
        go_wp2_with (go_at_call 62; refine hII.mono ?_; rintro e w4 ⟨rfl, b4⟩; obtain ⟨ho4, ⟨⟨u4, c4⟩, f4⟩, hb4⟩ := HP.out w4 b4; have ho4 : Hid _ := ho4; have hb4 : Hid _ := hb4)
        go_roundw
        case rel => exact ⟨k + 1, by omega, by go_num, ho4.out, hb4.out⟩
        case measure => simp [intOf]; omega
      · obtain rfl : n = k := by omega
        go_wp2
        go_ret
        exact ⟨_, rfl, HE.out _ _ hown, hbel⟩

end Go.Proofs.YtiolbmhikkcbdaaGreatDoor
