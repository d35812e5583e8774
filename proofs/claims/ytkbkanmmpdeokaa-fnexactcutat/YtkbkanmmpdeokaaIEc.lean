/- Extents, program's side: takenBy, ExtsOk. -/
import Derived.Test.YtkbkanmmpdeokaaRows
import Derived.Test.YtkbkanmmpdeokaaIEb
namespace Go.Proofs.Ytkbkanmmpdeokaa
open Go.RowKit Go.Sort

theorem or_msk {U : List Bool} (hU : U.length = 24) (p n : Nat) (h : p + n ≤ 24) : fN U ||| mskN p n = fN (setB U p n true) := by
  apply Nat.eq_of_testBit_eq
  intro j
  rw [Nat.testBit_or, fN_bit, mskN_bit, fN_bit]
  by_cases hj : j < 24
  · rw [setB_get U p n true j (by omega)]
    by_cases hc : (p : Int) ≤ j ∧ (j : Int) < p + (n : Int)
    · rw [if_pos hc, decide_eq_true (by omega)]; simp
    · rw [if_neg hc, decide_eq_false (by omega)]; simp
  · rw [bo_none U j (by omega), bo_none _ j (by rw [setB_len]; omega), decide_eq_false (by omega)]; rfl

structure TkR (l : List Ex) (k : Nat) (f m : Nat) (ok one : Bool) (fw : Bool) : Prop where
  lt : f < 16777216
  no1 : one = false → ok = false
  no2 : one = true → f &&& m ≠ 0 → ok = false
  no3 : one = true → 0 < k → fw = false → ok = false
  yes : one = true → f &&& m = 0 → (0 < k → fw = true) → ExR (l.take (k + 1)) ∧ f ||| m = fN (usedN (l.take (k + 1))) ∧ f ||| m < 16777216
theorem tk_round {l : List Ex} {k : Nat} (hk : k < l.length) (hR : ExR (l.take k)) :
    TkR l k (fN (usedN (l.take k))) (mskN l[k]!.b.toNat l[k]!.n.toNat) (okE l) (oneB l[k]!) (fol l[k - 1]! l[k]!) := by
  have hU := usedN_len (l.take k)
  have NO : ∀ {P : Prop}, (ExR l → P) → ¬ P → okE l = false := fun h1 h2 => okE_no fun h => h2 (h1 h)
  have HC : oneB l[k]! = true → ((fN (usedN (l.take k)) &&& mskN l[k]!.b.toNat l[k]!.n.toNat = 0) ↔ ∀ j : Nat, l[k]!.b ≤ j → (j : Int) < l[k]!.b + l[k]!.n → (usedN (l.take k))[j]! = false) := fun h1 => by
    obtain ⟨o1, o2, o3, o4, o5⟩ := (oneB_iff _).1 h1
    have h := can_msk hU (x := true) (p := l[k]!.b.toNat) (n := l[k]!.n.toNat) (by omega) (by omega)
    rw [if_pos rfl] at h
    rw [h]
    unfold canSet
    constructor
    · intro h j e1 e2
      have := h.2.2.2.2 j (by omega) (by omega)
      simpa using this
    · intro h
      refine ⟨by omega, by omega, by omega, by omega, fun j e1 e2 => ?_⟩
      have := h j (by omega) (by omega)
      simpa using this
  refine ⟨fN_lt24 hU, fun h => NO (fun hr => (ok_one hr hk).1) fun h1 => ?_, fun h1 h2 => NO (fun hr => (ok_one hr hk).2.2) fun h3 => h2 ((HC h1).2 fun j e1 e2 => ?_), fun h1 h0 h2 => NO (fun hr => (ok_one hr hk).2.1 h0) fun h3 => ?_, fun h1 h2 h3 => ?_⟩
  · rw [(oneB_iff _).2 h1] at h; cases h
  · obtain ⟨o1, o2, o3, o4, o5⟩ := (oneB_iff _).1 h1
    exact h3 j (by omega) e1 e2
  · rw [(fol_iff _ _).2 h3] at h2; cases h2
  · have o := (oneB_iff _).1 h1
    obtain ⟨o1, o2, o3, o4, o5⟩ := o
    refine ⟨ok_step hk hR ((oneB_iff _).1 h1) (fun h0 => (fol_iff _ _).1 (h3 h0)) ((HC h1).1 h2), ?_⟩
    have e : fN (usedN (l.take k)) ||| mskN l[k]!.b.toNat l[k]!.n.toNat = fN (usedN (l.take (k + 1))) := by
      rw [or_msk hU _ _ (by omega), ex_take l k hk, usedN_snoc, show ((l[k]!.b.toNat : Nat) : Int) = l[k]!.b by omega, show ((l[k]!.n.toNat : Nat) : Int) = l[k]!.n by omega]
    rw [e]
    exact ⟨rfl, fN_lt24 (usedN_len _)⟩

noncomputable def tkN (l : List Ex) : Nat := if okE l then fN (usedN l) else 0
def SaysTk (w : World) (f : Nat) (r : Bool) (e : Ending) (w' : World) : Prop := e = .returned (.tuple #[.int .u32 f, .bool r]) ∧ Below w.heap.size w w'

set_option maxRecDepth 100000 in
set_option maxHeartbeats 2000000 in
theorem iTakenBy (v : Value) (l : List Ex) (w : World) (hl : l.length ≤ 1048576) (hv : ExsAt w v l) :
    Calls Try.prog 33 #[v] w fun e w' => SaysTk w (tkN l) (okE l) e w' := by
  obtain ⟨a, ca, rfl, -, hva⟩ := hv
  have HT : Hid (∀ k, k < l.length → ExR (l.take k) → TkR l k (fN (usedN (l.take k))) (mskN l[k]!.b.toNat l[k]!.n.toNat) (okE l) (oneB l[k]!) (fol l[k - 1]! l[k]!)) := fun k hk h => tk_round hk h
  have HN : Hid (okE l = false → tkN l = 0) := fun h => by unfold tkN; rw [if_neg (by rw [h]; decide)]
  have HY : Hid (ExR (l.take l.length) → okE l = true ∧ tkN l = fN (usedN (l.take l.length))) := fun h => by
    rw [List.take_length] at h ⊢
    have e := okE_yes h
    exact ⟨e, by unfold tkN; rw [if_pos e]⟩
  have H0 : Hid (fN (usedN (l.take 0)) = 0) := by show _ = _; rw [List.take_zero, usedN_nil]; decide
  have HBD : Hid (∀ k q : Nat, ExR (l.take k) → q < k → k ≤ l.length → ExOne l[q]!) := fun k q h hq hk => by
    have := h.one l[q]! (by
      rw [getElem!_pos l q (by omega)]
      exact List.mem_iff_getElem.2 ⟨q, by simp; omega, by simp⟩)
    exact this
  generalize tkN l = T at HN HY ⊢
  generalize okE l = r at HT HN HY ⊢
  obtain ⟨n, HL⟩ : ∃ n, Hid (n = l.length) := ⟨_, rfl⟩
  rw [← HL.out] at hl hva HT HY ⊢
  go_enter Try.func33, Try.ntmps33
  go_wp2
  go_loopw [4, 9] (fun fv iv wr => ∃ (k f : Nat), k ≤ n ∧ iv = .int .i64 k ∧ fv = .int .u32 f ∧ Hid (ExR (l.take k)) ∧ Hid (f = fN (usedN (l.take k))) ∧ Below w.heap.size w wr) (fun _ iv _ => n - (intOf iv).toNat)
  case atStart => exact ⟨0, 0, Nat.zero_le _, rfl, rfl, by show ExR _; rw [List.take_zero]; exact ExR.nil, H0.out.symm, Below.refl _ _⟩
  case round =>
    obtain ⟨k, f, hk, rfl, rfl, HRT, HF, hbel⟩ := hrel
    by_cases hlt : k < n
    · have hltz : (k : Int) < (n : Int) := by omega
      have hk0z : (0 : Int) ≤ (k : Int) := by omega
      obtain ⟨b1, o1, rfl, hb1, hc1⟩ := hva k hlt
      have HRD := HT.out k hlt HRT.out
      rw [← HF.out] at HRD
      have HPREV : Hid (0 < k → ExOne l[k - 1]! ∧ CellsEx w b1 (o1 + (k - 1) * 3) l[k - 1]!) := fun h0 => by
        obtain ⟨b2, o2, e2, hb2, hc2⟩ := hva (k - 1) (by omega)
        cases e2
        exact ⟨HBD.out k (k - 1) HRT.out (by omega) (by rw [← HL.out]; exact hk), hc2⟩
      have V0 : oneB l[k]! = true → ∀ w', Calls Try.prog 54 #[.agg #[.int .i64 l[k]!.p, .int .i64 l[k]!.b, .int .i64 l[k]!.n]] w' fun e w'' => e = .returned (.int .u32 (mskN l[k]!.b.toNat l[k]!.n.toNat : Nat)) ∧ Below w'.heap.size w' w'' := fun h w' => iBlocks _ w' ((oneB_iff _).1 h)
      have hm24 : oneB l[k]! = true → mskN l[k]!.b.toNat l[k]!.n.toNat < 16777216 := fun h => by
        obtain ⟨g1, g2, g3, g4, g5⟩ := (oneB_iff _).1 h
        exact mskN_lt _ _ (by omega)
      have W1 := fun w' => iWithin l[k]! w'
      have F1 : ExOne l[k - 1]! → ∀ w', _ := fun h w' => iFollow l[k]! l[k - 1]! w' h
      have hc1' := hc1.below hb1 hbel
      have HB0 := hbel.trans ((below_lit wr (.cells #[.int .i64 l[k]!.p, .int .i64 l[k]!.b, .int .i64 l[k]!.n] 58)).mono hbel.size)
      obtain ⟨g0, g1, g2⟩ := hc1'
      obtain ⟨c0, c1, c2⟩ := ex_box wr l[k]!.p l[k]!.b l[k]!.n
      generalize mskN l[k]!.b.toNat l[k]!.n.toNat = m at *
      generalize oneB l[k]! = one at *
      generalize fol l[k - 1]! l[k]! = fw at *
      generalize l[k]!.p = xp at *
      generalize l[k]!.b = xb at *
      generalize l[k]!.n = xn at *
      obtain ⟨y, HYD⟩ : ∃ y, Hid (y = l[k - 1]!) := ⟨_, rfl⟩
      rw [← HYD.out] at HPREV F1
      have HNX : Hid (one = true → f &&& m = 0 → (0 < k → fw = true) → ExR (l.take (k + 1)) ∧ f ||| m = fN (usedN (l.take (k + 1))) ∧ f ||| m < 16777216) := HRD.yes
      have HN1 : Hid (one = false → r = false) := HRD.no1
      have HN2 : Hid (one = true → f &&& m ≠ 0 → r = false) := HRD.no2
      have HN3 : Hid (one = true → 0 < k → fw = false → r = false) := HRD.no3
      have hf24 := HRD.lt
      have hbx : wr.heap.size < (wr.alloc (.cells #[.int .i64 xp, .int .i64 xb, .int .i64 xn] 58)).heap.size := by simp
      clear HRD HT HY HBD hva hc1
      obtain ⟨y0, y1, y2⟩ := y
      dsimp only at HPREV F1
      go_upto_region 5 with fail
      generalize wr.alloc (.cells #[.int .i64 xp, .int .i64 xb, .int .i64 xn] 58) = W0 at *
      generalize wr.heap.size = bx at *
      have q0 := cell_regrown c0
      have q1 := cell_regrown c1
      have q2 := cell_regrown c2
      have A1 := fun dd os => (W1 (grow (redrawn W0 dd) os)).regrown_of
      clear g0 g1 g2 W1
      cases one with
      | false =>
        have hr : Hid (r = false) := HN1.out rfl
        clear HN1 HN2 HN3 HNX V0 F1 hm24
        refine wp_region_quiet_below (by kernel_rfl) (by kernel_rfl) ?_
        repeat (go_big_quiet_step (first | with_reducible exact A1 _ _))
        refine wpQuiet_nil ?_
        rintro w' ⟨⟨dq, osq⟩, rfl⟩
        have hbq := below_regrown W0 dq osq
        have hb4 := HB0.trans (hbq.mono HB0.size)
        generalize grow (redrawn W0 dq) osq = w4 at hb4 ⊢
        clear hbq
        go_wp2
        exact bodyPost_ret (v := .tuple #[.int .u32 0, .bool false]) (by simp [results, Try.results33, go_sem]) rfl ⟨by rw [hr.out, HN.out hr.out]; rfl, hb4⟩
      | true =>
        have V0 := V0 rfl
        have hm24 := hm24 rfl
        have A2 := fun dd os => (V0 (grow (redrawn W0 dd) os)).regrown_of
        have e1 : bits .and .u32 (f : Int) (m : Int) = (f &&& m : Nat) := u32_and_nat f m (by omega) (by omega)
        have e2 : bits .or .u32 (f : Int) (m : Int) = (f ||| m : Nat) := u32_or_nat f m (by omega) (by omega)
        by_cases hz : f &&& m = 0
        · have e3 : (((f &&& m : Nat) : Int) != 0) = false := by rw [hz]; rfl
          by_cases hk1 : 0 < k
          · have hk2 : (k : Int) > 0 := by omega
            obtain ⟨j, hj⟩ : ∃ j : Nat, j = k - 1 := ⟨_, rfl⟩
            have vj : IntKind.i64.wrap ((k : Int) - 1) = (j : Int) := by rw [IntKind.wrap_i64]; omega
            have hjn : (j : Int) < (n : Int) := by omega
            have hj0 : (0 : Int) ≤ (j : Int) := by omega
            obtain ⟨hone, hcp⟩ := HPREV.out hk1
            rw [← hj] at hcp
            obtain ⟨p0, p1, p2⟩ := hcp.below hb1 HB0
            dsimp only at p0 p1 p2
            have r0 := cell_regrown p0
            have r1 := cell_regrown p1
            have r2 := cell_regrown p2
            have F2 := F1 hone
            have A3 := fun dd os => (F2 (grow (redrawn W0 dd) os)).regrown_of
            clear hcp hone HPREV hj p0 p1 p2 F1 F2
            cases fw with
            | false =>
              have hr : Hid (r = false) := HN3.out rfl hk1 rfl
              clear HN1 HN2 HN3 HNX
              refine wp_region_quiet_below (by kernel_rfl) (by kernel_rfl) ?_
              repeat (go_big_quiet_step (first | with_reducible exact A1 _ _ | with_reducible exact A2 _ _ | with_reducible exact A3 _ _))
              refine wpQuiet_nil ?_
              rintro w' ⟨⟨dq, osq⟩, rfl⟩
              have hbq := below_regrown W0 dq osq
              have hb4 := HB0.trans (hbq.mono HB0.size)
              generalize grow (redrawn W0 dq) osq = w4 at hb4 ⊢
              clear hbq
              go_wp2
              exact bodyPost_ret (v := .tuple #[.int .u32 0, .bool false]) (by simp [results, Try.results33, go_sem]) rfl ⟨by rw [hr.out, HN.out hr.out]; rfl, hb4⟩
            | true =>
              have HY1 : Hid _ := HNX.out rfl hz fun _ => rfl
              clear HN1 HN2 HN3 HNX
              refine wp_region_quiet_below (by kernel_rfl) (by kernel_rfl) ?_
              repeat (go_big_quiet_step (first | with_reducible exact A1 _ _ | with_reducible exact A2 _ _ | with_reducible exact A3 _ _))
              refine wpQuiet_nil ?_
              rintro w' ⟨⟨dq, osq⟩, rfl⟩
              have hbq := below_regrown W0 dq osq
              have hb4 := HB0.trans (hbq.mono HB0.size)
              have d0 := (hbq.cell (p := ⟨bx, 0, none⟩) hbx).trans c0
              have d1 := (hbq.cell (p := ⟨bx, 1, none⟩) hbx).trans c1
              have d2 := (hbq.cell (p := ⟨bx, 2, none⟩) hbx).trans c2
              generalize grow (redrawn W0 dq) osq = w4 at hb4 d0 d1 d2 ⊢
              have HC := V0 w4
              clear hbq c0 c1 c2 q0 q1 q2
              go_wp2_with fail
              refine HC.mono ?_
              rintro e w5 ⟨rfl, b5⟩
              have hb5 := hb4.trans (b5.mono hb4.size)
              go_wp2
              go_roundw
              case rel => exact ⟨k + 1, f ||| m, by omega, by go_num, rfl, HY1.out.1, HY1.out.2.1, hb5⟩
              case measure => simp [intOf]; omega
          · have hk2 : ¬ (k : Int) > 0 := by omega
            have HY1 : Hid _ := HNX.out rfl hz fun h => absurd h hk1
            clear HN1 HN2 HN3 HNX F1 HPREV
            refine wp_region_quiet_below (by kernel_rfl) (by kernel_rfl) ?_
            repeat (go_big_quiet_step (first | with_reducible exact A1 _ _ | with_reducible exact A2 _ _))
            refine wpQuiet_nil ?_
            rintro w' ⟨⟨dq, osq⟩, rfl⟩
            have hbq := below_regrown W0 dq osq
            have hb4 := HB0.trans (hbq.mono HB0.size)
            have d0 := (hbq.cell (p := ⟨bx, 0, none⟩) hbx).trans c0
            have d1 := (hbq.cell (p := ⟨bx, 1, none⟩) hbx).trans c1
            have d2 := (hbq.cell (p := ⟨bx, 2, none⟩) hbx).trans c2
            generalize grow (redrawn W0 dq) osq = w4 at hb4 d0 d1 d2 ⊢
            have HC := V0 w4
            clear hbq c0 c1 c2 q0 q1 q2
            go_wp2_with fail
            refine HC.mono ?_
            rintro e w5 ⟨rfl, b5⟩
            have hb5 := hb4.trans (b5.mono hb4.size)
            go_wp2
            go_roundw
            case rel => exact ⟨k + 1, f ||| m, by omega, by go_num, rfl, HY1.out.1, HY1.out.2.1, hb5⟩
            case measure => simp [intOf]; omega
        · have hr : Hid (r = false) := HN2.out rfl hz
          have e3 : (((f &&& m : Nat) : Int) != 0) = true := by rw [bne_iff_ne]; omega
          clear HN1 HN2 HN3 HNX F1 HPREV
          refine wp_region_quiet_below (by kernel_rfl) (by kernel_rfl) ?_
          repeat (go_big_quiet_step (first | with_reducible exact A1 _ _ | with_reducible exact A2 _ _))
          refine wpQuiet_nil ?_
          rintro w' ⟨⟨dq, osq⟩, rfl⟩
          have hbq := below_regrown W0 dq osq
          have hb4 := HB0.trans (hbq.mono HB0.size)
          generalize grow (redrawn W0 dq) osq = w4 at hb4 ⊢
          clear hbq
          go_wp2
          exact bodyPost_ret (v := .tuple #[.int .u32 0, .bool false]) (by simp [results, Try.results33, go_sem]) rfl ⟨by rw [hr.out, HN.out hr.out]; rfl, hb4⟩
    · obtain rfl : k = n := by omega
      have hltz : ¬ (k : Int) < (k : Int) := by omega
      obtain ⟨E1, E2⟩ := HY.out HRT.out
      have HE : Hid (T = f) := by show T = f; rw [E2, HF.out]
      clear HT HBD hva
      subst E1
      go_wp2
      exact bodyPost_ret (v := .tuple #[.int .u32 f, .bool true]) (by simp [results, Try.results33, go_sem]) rfl ⟨by first | rw [HE.out] | rw [HF.out], hbel⟩

set_option maxRecDepth 100000 in
set_option maxHeartbeats 1000000 in
theorem iExtsOk (v : Value) (l : List Ex) (w : World) (hl : l.length ≤ 1048576) (hv : ExsAt w v l) :
    Calls Try.prog 22 #[v] w fun e w' => e = .returned (.bool (okE l)) ∧ Below w.heap.size w w' := by
  have HT := iTakenBy v l w hl hv
  generalize okE l = r at HT ⊢
  generalize tkN l = f at HT
  go_enter Try.func22, Try.ntmps22
  go_wp2_with (go_at_call 33; refine HT.mono ?_; rintro e w1 ⟨rfl, b1⟩)
  go_ret
  exact ⟨rfl, b1⟩

end Go.Proofs.Ytkbkanmmpdeokaa
