/- Devices: laws.sameTexts; laws.FnDev: the walk. -/
import Derived.Test.YtpmdhoiodbjojaaRows
import Derived.Test.YtpmdhoiodbjojaaDw4
import Derived.Test.YtpmdhoiodbjojaaWDa
namespace Go.Proofs.Ytpmdhoiodbjojaa
open Go.RowKit

set_option maxRecDepth 100000 in
set_option maxHeartbeats 1000000 in
theorem sameTexts_any (v u : Value) (l m : List ByteArray) (w : World) (hl : l.length ≤ 9223372036854775807) (hv : TxtsAt w v l) (hu : TxtsAt w u m) :
    Calls Try.prog 14 #[v, u] w fun e w' => e = .returned (.bool (decide (l = m))) ∧ Below w.heap.size w w' := by
  obtain ⟨a, ca, rfl, -, hva⟩ := hv
  obtain ⟨b, cb, rfl, -, hub⟩ := hu
  by_cases hlen : l.length = m.length
  · have hlen' : (l.length : Int) = (m.length : Int) := by omega
    obtain ⟨n, HN⟩ : ∃ n, Hid (n = m.length) := ⟨_, rfl⟩
    rw [hlen] at hva hl ⊢
    rw [← HN.out] at hva hub hl ⊢
    have HEND : Hid ((∀ t, t < n → l[t]! = m[t]!) → decide (l = m) = true) := fun h => decide_eq_true (strs_ext l m hlen fun t ht => h t (by rw [HN.out]; omega))
    have HNO : Hid (∀ k : Nat, ¬ l[k]! = m[k]! → decide (l = m) = false) := fun k h => decide_eq_false fun e => h (by rw [e])
    generalize decide (l = m) = r at HEND HNO ⊢
    go_enter Try.func14, Try.ntmps14
    go_wp2
    go_loopw [5] (fun i wr => ∃ k : Nat, k ≤ n ∧ i = .int .i64 k ∧ Hid (∀ t, t < k → l[t]! = m[t]!) ∧ Below w.heap.size w wr) (fun i _ => n - (intOf i).toNat)
    case atStart => exact ⟨0, Nat.zero_le _, rfl, fun t ht => by omega, Below.refl _ _⟩
    case round =>
      obtain ⟨k, hk, rfl, HEQ, hbel⟩ := hrel
      by_cases hlt : k < n
      · obtain ⟨b1, o1, rfl, hb1, hc1⟩ := hva k hlt
        obtain ⟨b2, o2, rfl, hb2, hc2⟩ := hub k hlt
        have hc1' := (hbel.cell (p := ⟨b1, o1 + k, none⟩) hb1).trans hc1
        have hc2' := (hbel.cell (p := ⟨b2, o2 + k, none⟩) hb2).trans hc2
        have HX : Hid (l[k]! = m[k]! → ∀ t, t < k + 1 → l[t]! = m[t]!) := fun h t ht => by
          by_cases e : t = k
          · rw [e]; exact h
          · exact HEQ.out t (by omega)
        have HNK := HNO.out k
        generalize l[k]! = x at hc1' HX HNK
        generalize m[k]! = y at hc2' HX HNK
        have HNK : Hid _ := HNK
        have hkn : (k : Int) < (n : Int) := by omega
        have hk0 : (0 : Int) ≤ (k : Int) := by omega
        clear hc1 hc2 hva hub
        by_cases hxy : x = y
        · have hf : (x.toList == y.toList) = true := by simp [hxy]
          have HX' : Hid _ := HX.out hxy
          clear HX hxy
          go_wp2
          go_quiet (fail)
          go_wp2
          go_roundw
          case rel => exact ⟨k + 1, by omega, by go_num, HX', below_drewN hbel _⟩
          case measure => simp [intOf]; omega
        · have hf : (x.toList == y.toList) = false := by rw [text_beq]; exact decide_eq_false hxy
          have hr : Hid (r = false) := HNK.out hxy
          clear HX hxy HNK
          go_wp2
          go_quiet (fail)
          go_wp2
          go_ret
          exact ⟨ret_bool hr.out.symm, below_drewN hbel _⟩
      · obtain rfl : k = n := by omega
        have hr : Hid (r = true) := HEND.out HEQ.out
        go_wp2
        go_ret
        exact ⟨ret_bool hr.out.symm, hbel⟩
  · have hne : ((l.length : Int) != (m.length : Int)) = true := by simp; omega
    have hneq : ¬ l = m := fun e => hlen (by rw [e])
    rw [decide_eq_false hneq]
    go_enter Try.func14, Try.ntmps14
    go_wp2
    go_ret
    exact ⟨rfl, Below.refl _ _⟩

theorem kept_none (d : Dv) (h : devB d = true) : (keptN (bitB 0) d).blocks = d.blocks := by
  unfold keptN
  rw [if_pos h]
  dsimp only
  have key : ∀ (l : List Wr) (i : Nat) (b : List ByteArray), doneN (bitB 0) i l b = b := by
    intro l
    induction l with
    | nil => intro i b; rfl
    | cons x l ih => intro i b; rw [doneN, ih, bit_none]; rfl
  exact key _ _ _

theorem fld0 (x y : Value) (w : World) : (Instr.field 27 (.agg #[x, y]) 0).run Try.prog w = .ok x w := by
  simp [Instr.field, run_underlying Try.underlying27, asAgg, part]

set_option maxRecDepth 100000 in
set_option maxHeartbeats 8000000 in
theorem dev_walk (S : Src) (ok : S.ok) (w : World) (hl : Lies S w) :
    Calls Try.prog 3 #[.slice S.a S.len S.cap] w fun e w' => e = .returned (.bool true) ∧ Below w.heap.size w w' := by
  have hlen : S.len ≤ 1048576 := ok.1
  have hfld := fun x y w' => fld0 x y w'
  have HDR := sdrawCrash_any S ok w hl
  go_enter Try.func3, Try.ntmps3
  go_wp2_with (first | (go_at_call 9; go_in))
  refine HDR.mono ?_
  rintro _ w1 ⟨a, b, d, mask, rfl, hat, ⟨hdl, hdl2⟩, b1⟩
  obtain ⟨a', b', e, ha1, hb1⟩ := id hat
  cases e
  obtain ⟨aa, ca, hfa, han, -⟩ := id ha1
  obtain ⟨bb, cb, hfb, hbn, -⟩ := id hb1
  obtain ⟨m1, HM1⟩ : ∃ m1, Hid (m1 = d.blocks.length) := ⟨_, rfl⟩
  obtain ⟨m2, HM2⟩ : ∃ m2, Hid (m2 = d.pend.length) := ⟨_, rfl⟩
  rw [← HM1.out] at hfa
  rw [← HM2.out] at hfb
  subst hfa
  subst hfb
  have HC := fun m w' h => iCrash (.agg #[.slice aa m1 ca, .slice bb m2 cb]) d m w' (by omega) (by omega) h
  have HFL := fun w' h => iFlush (.agg #[.slice aa m1 ca, .slice bb m2 cb]) d w' (by omega) (by omega) h
  have HOK := fun w' h => sDevOk (.agg #[.slice aa m1 ca, .slice bb m2 cb]) d w' (by omega) (by omega) h
  have BP := below_lit w1 (.cells #[.slice aa m1 ca, .slice bb m2 cb] 27)
  have hsP : (w1.alloc (.cells #[.slice aa m1 ca, .slice bb m2 cb] 27)).heap.size = w1.heap.size + 1 := by simp
  have hP1 := heap_a1 w1 (.cells #[.slice aa m1 ca, .slice bb m2 cb] 27)
  have BW1 := b1.trans (BP.mono b1.size)
  have hC1 := HC mask _ (hat.below BP)
  rw [hsP] at hC1
  have hw1 := b1.size
  have HATP : Hid (∀ W, Below (w1.heap.size + 1) (w1.alloc (.cells #[.slice aa m1 ca, .slice bb m2 cb] 27)) W → (DevAt W (.agg #[.slice aa m1 ca, .slice bb m2 cb]) d ∧ W.heap[w1.heap.size]? = some (.cells #[.slice aa m1 ca, .slice bb m2 cb] 27)) ∧ Below w.heap.size w W) := fun W h => ⟨⟨(hat.below BP).below (by rw [hsP]; exact h), (h.block _ (by omega)).trans hP1⟩, BW1.trans (h.mono (by omega))⟩
  clear HDR hl ok hat ha1 hb1 b1 hlen
  go_wp2_with fail
  refine hC1.mono ?_
  rintro e w2 ⟨xa, xb, rfl, r2, b2⟩
  obtain ⟨ax, cx, hfx, -, -⟩ := r2.t.at
  obtain ⟨bx, dx, hfy, -, -⟩ := r2.p.at
  obtain ⟨n1, HN1⟩ : ∃ n1, Hid (n1 = (keptN (bitB mask) d).blocks.length) := ⟨_, rfl⟩
  rw [← HN1.out] at hfx
  rw [(kept_small (bitB mask) d).2] at hfy
  subst hfx
  subst hfy
  have BX := below_lit w2 (.cells #[.slice ax n1 cx, .slice bx 0 dx] 27)
  have hsX : (w2.alloc (.cells #[.slice ax n1 cx, .slice bx 0 dx] 27)).heap.size = w2.heap.size + 1 := by simp
  have vx := VarD.new r2
  have bX' := b2.trans (BX.mono (by have := b2.size; rw [hsP] at this; exact this))
  obtain ⟨⟨hat2, hP2⟩, BW2⟩ := HATP.out _ bX'
  have hO2 := HOK _ hat2
  rw [hsX] at hO2
  obtain ⟨p0, p1⟩ : _ ∧ _ := ⟨cell_blk hP2 0, cell_blk hP2 1⟩
  dsimp at p0 p1
  have hn2 := b2.size
  rw [hsP] at hn2
  clear hC1 r2 BX BP hP1 BW1
  go_wp2_with fail
  refine hO2.mono ?_
  rintro e w3 ⟨rfl, b3⟩
  rw [← hsX] at b3
  have vx3 := vx.below b3
  have b3' := bX'.trans (b3.mono (by omega))
  obtain ⟨⟨hat3, hP3⟩, BW3⟩ := HATP.out _ b3'
  obtain ⟨p0, p1⟩ : _ ∧ _ := ⟨cell_blk hP3 0, cell_blk hP3 1⟩
  obtain ⟨x0, x1⟩ := vx3.cells
  dsimp at p0 p1
  have hz3 : w2.heap.size < w3.heap.size := lt_of_block vx3.hp
  clear hO2 vx hat2 hP2 BW2 b3 hsX
  cases hd : devB d with
  | false =>
    have hk0 : ∀ keep, keptN keep d = ⟨[], []⟩ := fun keep => by unfold keptN; rw [if_neg (by rw [hd]; decide)]
    have hn0 : n1 = 0 := by rw [HN1.out, hk0]; rfl
    subst hn0
    have HF3 := HFL w3 hat3
    rw [hk0] at HF3
    clear HFL HC HOK HATP
    go_wp2_with (go_at_call 13; refine HF3.mono ?_; rintro e w4 ⟨fa, fb, rfl, r4, b4⟩; obtain ⟨fa1, fc1, hff, -, -⟩ := r4.t.at; subst hff; obtain ⟨fb1, fd1, hfg, -, -⟩ := r4.p.at; subst hfg; dsimp only)
    go_ret
    exact ⟨rfl, BW3.trans (b4.mono BW3.size)⟩
  | true =>
    obtain ⟨⟨h18, h40⟩, -, hrt⟩ := (devB_iff d).1 hd
    have HA3 := HC 1099511627775 w3 hat3
    have HFLK := HFL
    clear HFL
    go_wp2_with fail
    refine HA3.mono ?_
    rintro e w4 ⟨ya, yb, rfl, r4, b4⟩
    obtain ⟨yaa, y1, yac, yba, y2, ybc, rfl, rfl⟩ := dev_forms r4
    have BA := below_lit w4 (.cells #[.slice yaa y1 yac, .slice yba y2 ybc] 27)
    have hsA : (w4.alloc (.cells #[.slice yaa y1 yac, .slice yba y2 ybc] 27)).heap.size = w4.heap.size + 1 := by simp
    have va := VarD.new r4
    have vx4 := (vx3.below b4).below BA
    have hn4 := b4.size
    have b4' := (b3'.trans (b4.mono (by omega))).trans (BA.mono (by omega))
    obtain ⟨⟨hat4, hP4⟩, BW4⟩ := HATP.out _ b4'
    have HZ4 := HC 0 _ hat4
    rw [hsA] at HZ4
    obtain ⟨p0, p1⟩ : _ ∧ _ := ⟨cell_blk hP4 0, cell_blk hP4 1⟩
    dsimp at p0 p1
    clear HA3 r4 b4 BA vx3 hat3 hP3 BW3 x0 x1
    go_wp2_with fail
    refine HZ4.mono ?_
    rintro e w5 ⟨za, zb, rfl, r5, b5⟩
    obtain ⟨zaa, z1, zac, zba, z2, zbc, rfl, rfl⟩ := dev_forms r5
    have b5a := b5
    rw [← hsA] at b5a
    have BZ := below_lit w5 (.cells #[.slice zaa z1 zac, .slice zba z2 zbc] 27)
    have hsZ : (w5.alloc (.cells #[.slice zaa z1 zac, .slice zba z2 zbc] 27)).heap.size = w5.heap.size + 1 := by simp
    have vz := VarD.new r5
    have vx5 := (vx4.below b5a).below BZ
    have va5 := (va.below b5a).below BZ
    have hn5 := b5.size
    rw [hsA] at hn5
    have b5' := (b4'.trans (b5a.mono (by omega))).trans (BZ.mono (by omega))
    obtain ⟨⟨hat5, hP5⟩, BW5⟩ := HATP.out _ b5'
    obtain ⟨p0, p1⟩ : _ ∧ _ := ⟨cell_blk hP5 0, cell_blk hP5 1⟩
    dsimp at p0 p1
    clear HZ4 r5 b5 b5a BZ va vx4 hat4 hP4 BW4 hsA b4'
    -- the world in which all is laid
    obtain ⟨a', b', e, hta, htb⟩ := id hat5
    cases e
    obtain ⟨ad, cad, hse, hsrc, hsn⟩ := txt_src hta
    rw [h18] at hse
    have hm18 : m1 = 18 := by rw [HM1.out, h18]
    subst hm18
    cases hse
    obtain ⟨ad, rfl⟩ : ∃ q, aa = some q := by
      cases aa with
      | none => have := (hsn rfl).1; rw [this] at h18; simp at h18
      | some q => exact ⟨q, rfl⟩
    have hsrc := hsrc ad rfl
    obtain ⟨Wl, HWl⟩ : ∃ Wl, Hid (Wl = w5.alloc (.cells #[.slice zaa z1 zac, .slice zba z2 zbc] 27)) := ⟨_, rfl⟩
    rw [← HWl.out] at vz vx5 va5 b5' hat5 hP5 BW5 hta htb hsrc p0 p1 hsZ
    have HALL : Hid (∀ W, Below Wl.heap.size Wl W → ((VarD _ _ _ _ _ W ∧ VarD _ _ _ _ _ W ∧ VarD _ _ _ _ _ W) ∧ (DevAt W (.agg #[.slice (some ad) 18 ca, .slice bb m2 cb]) d ∧ W.heap[w1.heap.size]? = some (.cells #[.slice (some ad) 18 ca, .slice bb m2 cb] 27))) ∧ Below w.heap.size w W) := fun W h => ⟨⟨⟨vx5.below h, va5.below h, vz.below h⟩, HATP.out _ (b5'.trans (h.mono (by omega))) |>.1⟩, BW5.trans (h.mono BW5.size)⟩
    have BE := below_lit Wl (.cells #[] 9)
    have hsE : (Wl.alloc (.cells #[] 9)).heap.size = Wl.heap.size + 1 := by simp
    have hrowE : (Wl.alloc (.cells #[] 9)).ownsRow Wl.heap.size 9 1 (.slice (some ⟨Wl.heap.size, 0, none⟩) 0 0) 0 [] := World.ownsRow_lit (base := Wl.heap.size) (e := 9) (size := 1) Wl #[] 0 (Nat.le_refl _) (by unfold maxLen; omega) rfl
    have hsrcE : Hid (∀ j x, (strsV d.blocks)[j]? = some x → (Wl.alloc (.cells #[] 9)).cell? (ad.add j) = some x) := fun j x hx => (BE.cell (p := ad.add j) (World.block_lt_of_cell? _ _ (hsrc j x hx))).trans (hsrc j x hx)
    have HLT : Hid ((strsV d.blocks).length = 18 * 1) := by show _ = _; rw [strsV_length, h18]
    have HOT : Hid (∀ u ∈ strsV d.blocks, u.oneCell' = true) := strsV_one d.blocks
    obtain ⟨i0, hi, hz0, hz1, hz2⟩ := info_parts Try.infoTxt
    have PE := (HALL.out _ BE).1.2.2
    obtain ⟨p0, p1⟩ : _ ∧ _ := ⟨cell_blk PE 0, cell_blk PE 1⟩
    dsimp at p0 p1
    have HBW : Hid _ := BE
    clear hta htb hsrc vz vx5 va5 b5' hat5 hP5 BW5 hsn BE PE han b3'
    have hZ5 : (w5.alloc (.cells #[.slice zaa z1 zac, .slice zba z2 zbc] 27)).heap.size = w5.heap.size + 1 := by simp
    have hrow7 := hrowE
    rw [HWl.out, hZ5] at hrow7
    have hsrc7 : Hid (∀ j x, (strsV d.blocks)[j]? = some x → ((w5.alloc (.cells #[.slice zaa z1 zac, .slice zba z2 zbc] 27)).alloc (.cells #[] 9)).cell? (ad.add j) = some x) := fun j x hx => by have := hsrcE.out j x hx; rwa [HWl.out] at this
    have hs7 : w5.heap.size + 1 ≤ ((w5.alloc (.cells #[.slice zaa z1 zac, .slice zba z2 zbc] 27)).alloc (.cells #[] 9)).heap.size := by simp
    rw [HWl.out] at p0 p1
    clear hrowE hsrcE hsE
    go_wp2_with (at_builtin; refine wpList_append_own _ rfl (.tmp 38) (.tmp 40) 24 rfl (w5.heap.size + 1) 9 i0 (.string ⟨#[]⟩) 1 16 Try.underlying24 hi hz0 hz1 hz2 rfl (by decide) _ 0 [] rfl hrow7 ad 18 ca (strsV d.blocks) rfl HLT.out hsrc7.out HOT.out (by decide) (by decide) hs7 ?_; intro v6 w6 hr6 hg6 _)
    have hr6' : w6.ownsRow Wl.heap.size 9 1 v6 18 (strsV d.blocks) := by
      rw [HWl.out, hZ5]
      simpa using hr6
    have hl6 : Below Wl.heap.size Wl w6 := HBW.out.grown (by rw [HWl.out]; exact hg6) (by simp) (fun k hk => by
      have := Option.some.inj (show some (w5.heap.size + 1) = some k from hk)
      rw [HWl.out, hZ5]; omega)
    obtain ⟨gw, cw, hfw, hbw⟩ : ∃ gw cw, v6 = .slice (some ⟨gw, 0, none⟩) 18 cw ∧ Wl.heap.size ≤ gw := by
      rcases hr6'.2 with ⟨-, h0⟩ | ⟨g, cp, cur, h, hg, -⟩
      · omega
      · exact ⟨g, cp, h, hg⟩
    subst hfw
    obtain ⟨F, HF⟩ : ∃ F : Nat → List ByteArray, Hid (F = fun k => doneN (bitB mask) 0 (d.pend.take k) d.blocks) := ⟨_, rfl⟩
    have HF0 : Hid (F 0 = d.blocks) := by show _ = _; rw [HF.out]; simp [doneN]
    have HFM : Hid (F m2 = (keptN (bitB mask) d).blocks) := by show _ = _; rw [HF.out]; dsimp only; unfold keptN; rw [if_pos hd, HM2.out, List.take_length]
    have HFS : Hid (∀ k, k < m2 → F (k + 1) = if bitB mask k then (F k).set d.pend[k]!.block.toNat d.pend[k]!.text else F k) := fun k hk => by rw [HF.out]; exact doneN_step _ _ _ _ (by rw [← HM2.out]; exact hk)
    rw [← HF0.out] at hr6'
    rw [← HM2.out] at h40 hrt
    have hw1l : w1.heap.size < Wl.heap.size := by rw [HWl.out, hZ5]; omega
    have HSTO : Hid (∀ W y x T, W.ownsRow Wl.heap.size 9 1 (.slice (some ⟨gw, 0, none⟩) 18 cw) 18 (strsV T) → Below Wl.heap.size Wl W → (W.setCell ⟨gw, y, none⟩ (.string x)).ownsRow Wl.heap.size 9 1 (.slice (some ⟨gw, 0, none⟩) 18 cw) 18 (strsV (T.set y x)) ∧ Below Wl.heap.size Wl (W.setCell ⟨gw, y, none⟩ (.string x))) := fun W y x T h hb => ⟨by have := (h.stored y (.string x)).1; rwa [strsV_set] at this, hb.setCell hbw _⟩
    have HHID : Hid (m2 = d.pend.length) := HM2
    have HTB : Hid (∀ k, k < m2 → ∃ pb po, bb = some ⟨pb, po, none⟩ ∧ pb < Wl.heap.size ∧ CellsW Wl pb (po + k * 2) d.pend[k]!) := by
      obtain ⟨a', b', e, -, hwb⟩ := (HALL.out Wl (Below.refl _ _)).1.2.1
      cases e
      obtain ⟨bb', cb', e, -, hcc⟩ := hwb
      rw [← HM2.out] at e hcc
      cases e
      exact hcc
    clear hr6 hg6 hrow7 hsrc7 hs7 p0 p1 hi hz0 hz1 hz2 HLT HOT HM1 HM2 HF HF0 HATP hZ5 HBW HWl hsZ
    go_wp2
    go_loopw [9] (fun i wr => ∃ k : Nat, k ≤ m2 ∧ i = .int .i64 k ∧ wr.ownsRow Wl.heap.size 9 1 (.slice (some ⟨gw, 0, none⟩) 18 cw) 18 (strsV (F k)) ∧ Below Wl.heap.size Wl wr) (fun i _ => m2 - (intOf i).toNat)
    case atStart => exact ⟨0, Nat.zero_le _, rfl, hr6', hl6⟩
    case round =>
      obtain ⟨k, hk, rfl, hown, hbel⟩ := hrel
      obtain ⟨⟨hvs, hatW, hPW⟩, hBW⟩ := HALL.out wr hbel
      obtain ⟨p0, p1⟩ : _ ∧ _ := ⟨cell_blk hPW 0, cell_blk hPW 1⟩
      dsimp at p0 p1
      by_cases hlt : k < m2
      · obtain ⟨pb, po, hbb, hpb, hcw⟩ := HTB.out k hlt
        have hcw := hcw.below hpb hbel
        subst hbb
        obtain ⟨y0, y18, -⟩ := hrt k hlt
        have hst := HFS.out k hlt
        have hpg : ¬ pb = gw := by omega
        have hpg' : ¬ gw = pb := fun e => hpg e.symm
        generalize d.pend[k]! = y at hcw y0 y18 hst
        obtain ⟨yb, yt⟩ := y
        dsimp only at *
        obtain ⟨yn, rfl⟩ : ∃ yn : Nat, yb = (yn : Int) := ⟨yb.toNat, by omega⟩
        have c0 := hcw.c0
        have c1 := hcw.c1
        dsimp only at c0 c1
        rw [Int.toNat_natCast] at hst
        have xf := hown.frozenAt yn
        obtain ⟨u, xu⟩ : ∃ u, wr.cell? ⟨gw, yn, none⟩ = some u := ⟨_, (hown.cellAt yn (by omega)).trans (List.getElem?_eq_getElem (by have := hown.1; omega))⟩
        have hkm : (k : Int) < (m2 : Int) := by omega
        have hk0 : (0 : Int) ≤ (k : Int) := by omega
        have hk40 : (k : Int) < 40 := by omega
        have hk64 : (k : Int) ≤ 64 := by omega
        have hy0 : (0 : Int) ≤ (yn : Int) := by omega
        have hne1 : ¬ w1.heap.size = gw := by omega
        have hne2 : ¬ gw = w1.heap.size := by omega
        have HBEL : Hid _ := hbel
        have HKP0 : Hid _ := HSTO.out wr.drew yn yt (F k) (own_below hown (Below.refl _ _).drew) hbel.drew
        have HOWN : Hid _ := hown
        have HST2 : Hid _ := hst
        clear hcw hst hatW hvs hBW hPW hrt hown hbel
        by_cases hm : 0 ≤ mask
        · have HB : Hid (bitB mask k = (bits .and .i64 (mask / 2 ^ k) 1 == 1)) := by show _ = _; unfold bitB; rw [decide_eq_true hm, Bool.true_and]
          by_cases hq : (bits .and .i64 (mask / 2 ^ k) 1 == 1) = true
          · have HF1 : Hid (F (k + 1) = (F k).set yn yt) := by show _ = _; rw [HST2.out, HB.out, hq]; rfl
            go_wp2
            go_region_held3 (fun w' => (w'.cell? ⟨w1.heap.size, 1, none⟩ = some (.slice (some ⟨pb, po, none⟩) m2 cb) ∧ (w'.cell? ⟨pb, po + k * 2, none⟩ = some (.int .i64 (yn : Int)) ∧ w'.cell? ⟨pb, po + k * 2 + 1, none⟩ = some (.string yt)))) (go_keep) (fail)
            go_wp2
            go_roundw
            case rel => exact ⟨k + 1, by omega, by go_num, by rw [HF1.out]; exact HKP0.out.1, HKP0.out.2⟩
            case measure => simp [intOf]; omega
          · have hq : (bits .and .i64 (mask / 2 ^ k) 1 == 1) = false := by simpa using hq
            have HF1 : Hid (F (k + 1) = F k) := by show _ = _; rw [HST2.out, HB.out, hq]; rfl
            go_wp2
            go_roundw
            case rel => exact ⟨k + 1, by omega, by go_num, by rw [HF1.out]; exact HOWN.out, HBEL.out⟩
            case measure => simp [intOf]; omega
        · have HF1 : Hid (F (k + 1) = F k) := by show _ = _; rw [HST2.out]; unfold bitB; rw [decide_eq_false hm, Bool.false_and]; rfl
          go_wp2
          go_roundw
          case rel => exact ⟨k + 1, by omega, by go_num, by rw [HF1.out]; exact HOWN.out, HBEL.out⟩
          case measure => simp [intOf]; omega
      · obtain rfl : k = m2 := by omega
        have HCL : Hid (∀ w', Below Wl.heap.size Wl w' → ((w'.cell? ⟨w2.heap.size, 0, none⟩ = some (.slice ax n1 cx) ∧ w'.cell? ⟨w2.heap.size, 1, none⟩ = some (.slice bx 0 dx)) ∧ (w'.cell? ⟨w4.heap.size, 0, none⟩ = some (.slice yaa y1 yac) ∧ w'.cell? ⟨w5.heap.size, 0, none⟩ = some (.slice zaa z1 zac)) ∧ (w'.cell? ⟨w1.heap.size, 0, none⟩ = some (.slice (some ad) 18 ca) ∧ w'.cell? ⟨w1.heap.size, 1, none⟩ = some (.slice bb k cb)))) := fun w' h => by
          obtain ⟨⟨⟨ux, ua, uz⟩, -, uP⟩, -⟩ := HALL.out w' h
          exact ⟨ux.cells, ⟨ua.cells.1, uz.cells.1⟩, cell_blk uP 0, cell_blk uP 1⟩
        have hbeld : Below Wl.heap.size Wl wr.drew := hbel.drew
        rw [HFM.out] at hown
        obtain ⟨hks, hkp⟩ := kept_small (bitB mask) d
        have HKR : Hid (devB (keptN (bitB mask) d) = true) := by show _ = _; unfold keptN; rw [if_pos hd]; exact done_right hd
        have hk18 : (keptN (bitB mask) d).blocks.length = 18 := ((devB_iff _).1 HKR.out).1.1
        have hwt : TxtRow wr.drew Wl.heap.size (.slice (some ⟨gw, 0, none⟩) 18 cw) (keptN (bitB mask) d).blocks := by unfold TxtRow; rw [hk18]; exact own_below hown (Below.refl _ _).drew
        have HT1 := sameTexts_any _ _ _ _ wr.drew (by omega) (HALL.out _ hbeld).1.1.1.r.t.at hwt.at
        rw [decide_eq_true rfl] at HT1
        have HFL8 := fun W h => HFLK W (HALL.out W h).1.2.1
        have HT3 : Hid (∀ W B f1 f2, Below Wl.heap.size Wl W → DevRow W B f1 f2 (keptN (bitB 1099511627775) d) → Calls Try.prog 14 #[.slice yaa y1 yac, f1] W fun e w' => e = .returned (.bool true) ∧ Below W.heap.size W w') := fun W B f1 f2 h r => by
          have := sameTexts_any _ _ _ _ W (by have := (kept_small (bitB 1099511627775) d).1; omega) (HALL.out W h).1.1.2.1.r.t.at r.t.at
          rwa [decide_eq_true rfl] at this
        have HT4 : Hid (∀ W, Below Wl.heap.size Wl W → Calls Try.prog 14 #[.slice zaa z1 zac, .slice (some ad) 18 ca] W fun e w' => e = .returned (.bool true) ∧ Below W.heap.size W w') := fun W h => by
          obtain ⟨a', b', e, h1, -⟩ := (HALL.out W h).1.2.1
          cases e
          have := sameTexts_any _ _ _ _ W (by have := (kept_small (bitB 0) d).1; omega) (HALL.out W h).1.1.2.2.r.t.at h1
          rwa [kept_none d hd, decide_eq_true rfl] at this
        have HOK5 : Hid (∀ W, Below Wl.heap.size Wl W → Calls Try.prog 12 #[.agg #[.slice ax n1 cx, .slice bx 0 dx]] W fun e w' => e = .returned (.bool true) ∧ Below W.heap.size W w') := fun W h => by
          have := sDevOk _ _ W (by omega) (by omega) (HALL.out W h).1.1.1.r.at
          rwa [HKR.out] at this
        have HTR : Hid (∀ W W', Below Wl.heap.size Wl W → Below W.heap.size W W' → Below Wl.heap.size Wl W') := fun W W' h1 h2 => h1.trans (h2.mono h1.size)
        clear hown hks hkp hk18 hwt hrt
        go_wp2
        go_region_held3 (fun w' => ((w'.cell? ⟨w2.heap.size, 0, none⟩ = some (.slice ax n1 cx) ∧ w'.cell? ⟨w2.heap.size, 1, none⟩ = some (.slice bx 0 dx)) ∧ (w'.cell? ⟨w4.heap.size, 0, none⟩ = some (.slice yaa y1 yac) ∧ w'.cell? ⟨w5.heap.size, 0, none⟩ = some (.slice zaa z1 zac)) ∧ (w'.cell? ⟨w1.heap.size, 0, none⟩ = some (.slice (some ad) 18 ca) ∧ w'.cell? ⟨w1.heap.size, 1, none⟩ = some (.slice bb k cb))))
          ((refine HCL.out _ ?_; first | assumption | exact Below.drew (by assumption)))
          (first
          | (go_at_call 12; refine (HOK5.out w11 h11).mono ?_; rintro e w12 ⟨rfl, b12⟩; have h12 := HTR.out _ _ h11 b12)
          | (go_at_call 14; refine (HT4.out w10 h10).mono ?_; rintro e w11 ⟨rfl, b11⟩; have h11 := HTR.out _ _ h10 b11)
          | (go_at_call 14; refine (HT3.out w9 _ _ _ h9 r9).mono ?_; rintro e w10 ⟨rfl, b10⟩; have h10 := HTR.out _ _ h9 b10)
          | (go_at_call 13; refine (HFL8 w8 h8).mono ?_; rintro e w9 ⟨f1, f2, rfl, r9, b9⟩; have h9 := HTR.out _ _ h8 b9; obtain ⟨f1a, f1n, f1c, f2a, f2n, f2c, rfl, rfl⟩ := dev_forms r9)
          | (go_at_call 14; refine HT1.mono ?_; rintro e w8 ⟨rfl, b8⟩; have h8 := HTR.out _ _ hbeld b8))
        go_wp2
        go_ret
        exact ⟨rfl, (HALL.out _ h12).2⟩

end Go.Proofs.Ytpmdhoiodbjojaa
