/- Extents, specification's side: ExtsOk. -/
import Derived.Test.YtkbkanmmpdeokaaRows
import Derived.Test.YtkbkanmmpdeokaaSEb
import Derived.Test.YtkbkanmmpdeokaaBtT
import Derived.Test.YtkbkanmmpdeokaaBoR
namespace Go.Proofs.Ytkbkanmmpdeokaa
open Go.RowKit Go.Sort

noncomputable def okE (l : List Ex) : Bool := open Classical in decide (ExR l)
theorem okE_iff {l : List Ex} : okE l = true ↔ ExR l := by unfold okE; simp
theorem okE_yes {l : List Ex} (h : ExR l) : okE l = true := okE_iff.2 h
theorem okE_no {l : List Ex} (h : ¬ ExR l) : okE l = false := by
  cases e : okE l with
  | false => rfl
  | true => exact absurd (okE_iff.1 e) h
/-- the blocks that extents have -/
def usedN (l : List Ex) : List Bool := (List.range 24).map fun j : Nat => l.any fun r => decide (r.b ≤ (j : Int) ∧ (j : Int) < r.b + r.n)
theorem usedN_len (l : List Ex) : (usedN l).length = 24 := by simp [usedN]
theorem usedN_get (l : List Ex) (j : Nat) (h : j < 24) : (usedN l)[j]! = l.any fun r => decide (r.b ≤ (j : Int) ∧ (j : Int) < r.b + r.n) := by
  rw [getElem!_pos _ j (by rw [usedN_len]; exact h)]
  simp [usedN]
theorem usedN_iff (l : List Ex) (j : Nat) (h : j < 24) : (usedN l)[j]! = true ↔ ∃ i, ExAt l i j := by
  rw [usedN_get l j h, List.any_eq_true]
  constructor
  · rintro ⟨r, hr, hd⟩
    have hd := of_decide_eq_true hd
    exact ⟨r.p + (j - r.b), r, hr, by omega, by omega, by omega⟩
  · rintro ⟨i, r, hr, h1, h2, h3⟩
    exact ⟨r, hr, decide_eq_true (by omega)⟩
theorem usedN_nil : usedN [] = List.replicate 24 false := by decide
theorem usedN_snoc (l : List Ex) (x : Ex) : usedN (l ++ [x]) = setB (usedN l) x.b x.n true := by
  apply List.ext_getElem (by rw [setB_len, usedN_len, usedN_len])
  intro j h1 h2
  rw [usedN_len] at h1
  have e1 := usedN_get (l ++ [x]) j h1
  have e2 := setB_get (usedN l) x.b x.n true j (by rw [usedN_len]; exact h1)
  have e3 := usedN_get l j h1
  rw [getElem!_pos _ j (by rw [usedN_len]; exact h1)] at e1
  rw [getElem!_pos _ j h2] at e2
  rw [e1, e2, e3, List.any_append]
  by_cases c : x.b ≤ (j : Int) ∧ (j : Int) < x.b + x.n
  · rw [if_pos c]; simp [c]
  · rw [if_neg c]; simp only [List.any_cons, List.any_nil, decide_eq_false c, Bool.or_false]
theorem last_take (l : List Ex) (k : Nat) (h : k < l.length) (h0 : 0 < k) : (l.take k).getLast? = some l[k - 1]! := by
  have := ex_take l (k - 1) (by omega)
  rw [show k - 1 + 1 = k by omega] at this
  rw [this]; simp
/-- what right extents have at each place -/
theorem ok_one {l : List Ex} (h : ExR l) {k : Nat} (hk : k < l.length) : ExOne l[k]! ∧ (0 < k → ExGap l[k - 1]! l[k]!) ∧ ∀ j : Nat, j < 24 → l[k]!.b ≤ j → (j : Int) < l[k]!.b + l[k]!.n → (usedN (l.take k))[j]! = false := by
  have ht := h.take (k + 1)
  rw [ex_take l k hk] at ht
  obtain ⟨h1, h2, h3, h4⟩ := (exR_snoc _ _).1 ht
  refine ⟨h2, fun h0 => h3 _ (last_take l k hk h0), fun j hj e1 e2 => ?_⟩
  cases e : (usedN (l.take k))[j]! with
  | false => rfl
  | true =>
    obtain ⟨i, hi⟩ := (usedN_iff _ j hj).1 e
    exact absurd hi (h4 j e1 e2 i)
theorem ok_step {l : List Ex} {k : Nat} (hk : k < l.length) (h : ExR (l.take k)) (h1 : ExOne l[k]!) (h2 : 0 < k → ExGap l[k - 1]! l[k]!) (h3 : ∀ j : Nat, l[k]!.b ≤ j → (j : Int) < l[k]!.b + l[k]!.n → (usedN (l.take k))[j]! = false) : ExR (l.take (k + 1)) := by
  rw [ex_take l k hk]
  refine (exR_snoc _ _).2 ⟨h, h1, fun r hr => ?_, fun j e1 e2 i hi => ?_⟩
  · by_cases h0 : 0 < k
    · rw [last_take l k hk h0] at hr
      cases hr
      exact h2 h0
    · rw [show k = 0 by omega] at hr
      simp at hr
  · obtain ⟨q0, q1, q2, q3, q4⟩ := h1
    have := h3 j.toNat (by omega) (by omega)
    rw [show j = ((j.toNat : Nat) : Int) by omega] at hi
    rw [(usedN_iff _ j.toNat (by omega)).2 ⟨i, hi⟩] at this
    cases this
theorem ex_new (w : World) (p b n : Int) : CellsEx (w.alloc (.cells #[.int .i64 p, .int .i64 b, .int .i64 n] 58)) w.heap.size 0 ⟨p, b, n⟩ := by
  refine ⟨?_, ?_, ?_⟩ <;> rw [World.cell?_alloc_mark] <;> rfl

/-- what stands while one extent is looked at: the flags, the box, what was there -/
structure OkSt (w0 : World) (U : List Bool) (bx : Nat) (x : Ex) (wx : World) : Prop where
  row : wx.ownsRow w0.heap.size 4 1 (.slice (some ⟨w0.heap.size, 0, none⟩) 24 24) 24 (flatBo U)
  box : CellsEx wx bx 0 x
  lt : bx < wx.heap.size
  bel : Below w0.heap.size w0 wx
theorem OkSt.drew {w0 : World} {U : List Bool} {bx : Nat} {x : Ex} {wx : World} (h : OkSt w0 U bx x wx) (n : Nat) : OkSt w0 U bx x (wx.drewN n) :=
  ⟨h.row, ⟨h.box.c0, h.box.c1, h.box.c2⟩, h.lt, h.bel.trans ⟨rfl, rfl, rfl, Nat.le_refl _, fun _ _ => rfl⟩⟩

theorem OkSt.put {w0 : World} {U V : List Bool} {bx : Nat} {x : Ex} {wx : World} (h : OkSt w0 U bx x wx) (hb : w0.heap.size < bx) (i : Nat) (hi : i < U.length) (hV : U.set i true = V) : OkSt w0 V bx x (wx.setCell ⟨w0.heap.size, i, none⟩ (.bool true)) := by
  have hst := (h.row.stored i (.bool true)).1
  have e := flatBo_put U i true hi
  rw [Nat.mul_one] at e
  rw [e, hV] at hst
  have far : ∀ j, (wx.setCell ⟨w0.heap.size, i, none⟩ (.bool true)).cell? ⟨bx, j, none⟩ = wx.cell? ⟨bx, j, none⟩ := fun j => World.cell?_setCell_other _ _ _ _ (by intro h; cases h; omega)
  exact ⟨hst, ⟨(far _).trans h.box.c0, (far _).trans h.box.c1, (far _).trans h.box.c2⟩, by rw [World.size_setCell]; exact h.lt, h.bel.setCell (Nat.le_refl _) _⟩

set_option maxRecDepth 100000 in
set_option maxHeartbeats 4000000 in
theorem sExtsOk (v : Value) (l : List Ex) (w : World) (hl : l.length ≤ 1048576) (hv : ExsAt w v l) :
    Calls Try.prog 13 #[v] w fun e w' => e = .returned (.bool (okE l)) ∧ Below w.heap.size w w' := by
  have mixed : Try.prog.follows .mixedOrders = true := by kernel_rfl
  obtain ⟨a, ca, rfl, -, hva⟩ := hv
  have HON : Hid (okE l = true → ∀ k, k < l.length → ExOne l[k]! ∧ (0 < k → ExGap l[k - 1]! l[k]!) ∧ ∀ j : Nat, j < 24 → l[k]!.b ≤ j → (j : Int) < l[k]!.b + l[k]!.n → (usedN (l.take k))[j]! = false) := fun h k hk => ok_one (okE_iff.1 h) hk
  have HST : Hid (∀ k, k < l.length → ExR (l.take k) → ExOne l[k]! → (0 < k → ExGap l[k - 1]! l[k]!) → (∀ j : Nat, l[k]!.b ≤ j → (j : Int) < l[k]!.b + l[k]!.n → (usedN (l.take k))[j]! = false) → ExR (l.take (k + 1))) := fun k hk => ok_step hk
  have HUS : Hid (∀ k, k < l.length → usedN (l.take (k + 1)) = setB (usedN (l.take k)) l[k]!.b l[k]!.n true) := fun k hk => by rw [ex_take l k hk, usedN_snoc]
  have HYES : Hid (ExR (l.take l.length) → okE l = true) := fun h => by rw [List.take_length] at h; exact okE_yes h
  have HBD : Hid (∀ k t, ExR (l.take k) → t < k → t < l.length → ExOne l[t]!) := fun k t h h1 h2 => h.one l[t]! (by rw [getElem!_pos l t h2]; exact List.mem_take_iff_getElem.2 ⟨t, by omega, rfl⟩)
  have HZ : Hid (List.replicate 24 (Value.bool false) = flatBo (usedN (l.take 0))) := by show _ = _; rw [List.take_zero, usedN_nil]; rfl
  have HUL : Hid (∀ k, (usedN (l.take k)).length = 24) := fun k => usedN_len _
  generalize okE l = r at HON HYES ⊢
  obtain ⟨n, HN⟩ : ∃ n, Hid (n = l.length) := ⟨_, rfl⟩
  rw [← HN.out] at hva hl HON HST HUS HYES HBD ⊢
  obtain ⟨i0, hi, hz0, hz1, hz2⟩ := info_parts Try.infoBo
  go_enter Try.func13, Try.ntmps13
  go_wp2_with (at_make; refine wpList_make_full _ rfl _ _ 66 rfl w.heap.size 4 i0 (.bool false) 1 Try.underlying66 hi hz0 hz1 .i64 .i64 _ _ 24 rfl rfl rfl rfl (by rw [hz2]; omega) (by unfold maxLen; omega) (Nat.le_refl _) ?_; intro w1 hown1 hgrow1)
  have hown2 : w1.ownsRow w.heap.size 4 1 (.slice (some ⟨w.heap.size, 0, none⟩) 24 24) 24 (flatBo (usedN (l.take 0))) := by
    rw [← HZ.out, ← toList_madeCells_one]; simpa [Value.cells] using hown1
  have hbel2 : Below w.heap.size w w1 := (Below.refl _ _).grown hgrow1 (Nat.le_refl _) (fun _ h => by cases h)
  clear hown1 hgrow1 HZ
  go_loopw [4, 5, 6, 7] (fun iv _ _ _ wr => ∃ k : Nat, k ≤ n ∧ iv = .int .i64 k ∧ Hid (ExR (l.take k)) ∧ wr.ownsRow w.heap.size 4 1 (.slice (some ⟨w.heap.size, 0, none⟩) 24 24) 24 (flatBo (usedN (l.take k))) ∧ Below w.heap.size w wr) (fun iv _ _ _ _ => n - (intOf iv).toNat)
  case atStart => exact ⟨0, Nat.zero_le _, rfl, by show ExR _; rw [List.take_zero]; exact ExR.nil, hown2, hbel2⟩
  case round =>
    clear hown2 hbel2
    obtain ⟨k, hk, rfl, HRT, hown, hbel⟩ := hrel
    by_cases hlt : k < n
    · have hltz : (k : Int) < (n : Int) := by omega
      obtain ⟨b1, o1, rfl, hb1, hc1⟩ := hva k hlt
      have HNO : Hid _ := fun h : r = true => HON.out h k hlt
      have HS1 : Hid _ := HST.out k hlt HRT.out
      have HU1 : Hid _ := HUS.out k hlt
      have c0 := (hc1.below hb1 hbel).c0
      have c1 := (hc1.below hb1 hbel).c1
      have c2 := (hc1.below hb1 hbel).c2
      clear HST HUS HYES hc1
      generalize l[k]! = x at *
      obtain ⟨xp, xb, xn⟩ := x
      dsimp only at c0 c1 c2
      go_upto_region 6 with fail
      have HX := ex_new wr xp xb xn
      have HO := World.ownsRow.alloc hown (.cells #[.int .i64 xp, .int .i64 xb, .int .i64 xn] 58)
      have HB := hbel.trans ((below_lit wr (.cells #[.int .i64 xp, .int .i64 xb, .int .i64 xn] 58)).mono hbel.size)
      have hlx : wr.heap.size < (wr.alloc (.cells #[.int .i64 xp, .int .i64 xb, .int .i64 xn] 58)).heap.size := by simp
      have hwx : w.heap.size < wr.heap.size := (World.ownsRow.lt hown w.heap.size rfl).2
      have HPREV : Hid (0 < k → ∃ m : Nat, m = k - 1 ∧ ExOne l[k - 1]! ∧ CellsEx w b1 (o1 + m * 3) l[k - 1]!) := fun h0 => by
        obtain ⟨b2, o2, e2, hb2, hc2⟩ := hva (k - 1) (by omega)
        cases e2
        exact ⟨k - 1, rfl, HBD.out k (k - 1) HRT.out (by omega) (by omega), hc2⟩
      clear hown hbel c0 c1 c2 HBD HRT hva
      have HUL1 := HUL.out k
      generalize (wr.alloc (.cells #[.int .i64 xp, .int .i64 xb, .int .i64 xn] 58)) = W1 at *
      generalize wr.heap.size = bx at *
      generalize usedN (l.take k) = U at *
      have HK : Hid (OkSt w U bx ⟨xp, xb, xn⟩ W1) := ⟨HO, HX, hlx, HB⟩
      obtain ⟨c0, c1, c2⟩ := HX
      rw [Nat.zero_add] at c1 c2
      dsimp only at c0 c1 c2
      clear HO
      have HNR : Hid (¬ ExOne ⟨xp, xb, xn⟩ → r = false) := fun h => by
        cases hr : r with
        | false => rfl
        | true => exact absurd (HNO.out hr).1 h
      by_cases t1 : inB xn 1 12 = true
      · have n1 : 1 ≤ xn ∧ xn ≤ 12 := by simpa [inB] using t1
        obtain ⟨N, rfl⟩ := Int.eq_ofNat_of_zero_le (show 0 ≤ xn by omega)
        have v1 : IntKind.i64.wrap (12 - (N : Int)) = 12 - (N : Int) := by rw [IntKind.wrap_i64]; omega
        have v2 : IntKind.i64.wrap (24 - (N : Int)) = 24 - (N : Int) := by rw [IntKind.wrap_i64]; omega
        by_cases t2 : inB xp 0 (12 - (N : Int)) = true
        · have p1 : 0 ≤ xp ∧ xp ≤ 12 - (N : Int) := by simpa [inB] using t2
          by_cases t3 : inB xb 0 (24 - (N : Int)) = true
          · have q1 : 0 ≤ xb ∧ xb ≤ 24 - (N : Int) := by simpa [inB] using t3
            obtain ⟨B, rfl⟩ := Int.eq_ofNat_of_zero_le q1.1
            obtain ⟨P, rfl⟩ := Int.eq_ofNat_of_zero_le p1.1
            have HONE : Hid (ExOne ⟨P, B, N⟩) := ⟨by dsimp only; omega, by dsimp only; omega, by dsimp only; omega, by dsimp only; omega, by dsimp only; omega⟩
            clear HNR
            go_upto_if 42 with (go_at_call 42; refine (in_any _ _ _ _).mono ?_; rintro e w' ⟨rfl, rfl⟩)
            go_cut [6] from 9 to 101 (fun _ wx => Hid (OkSt w U bx ⟨P, B, N⟩ wx) ∧ Hid (0 < k → ExGap l[k - 1]! ⟨P, B, N⟩))
            case first =>
              by_cases h0 : 0 < k
              · have hk0 : (k : Int) > 0 := by omega
                obtain ⟨m, hm, hone, hcm⟩ := HPREV.out h0
                have vm : IntKind.i64.wrap ((k : Int) - 1) = (m : Int) := by rw [IntKind.wrap_i64]; omega
                have hmn : (m : Int) < (n : Int) := by omega
                have hcm := hcm.below hb1 HB
                generalize l[k - 1]! = y at *
                obtain ⟨yp, yb, yn⟩ := y
                obtain ⟨d0, d1, d2⟩ := hcm
                obtain ⟨o1', o2, o3, o4, o5⟩ := hone
                dsimp only at d0 d1 d2 o1' o2 o3 o4 o5
                obtain ⟨e, he⟩ : ∃ e, e = yp + yn := ⟨_, rfl⟩
                obtain ⟨f, hf⟩ : ∃ f, f = yb + yn := ⟨_, rfl⟩
                have v3 : IntKind.i64.wrap (yp + yn) = e := by rw [IntKind.wrap_i64]; omega
                have v4 : IntKind.i64.wrap (yb + yn) = f := by rw [IntKind.wrap_i64]; omega
                have HGY : Hid (¬ (P : Int) < e → ¬ ((P : Int) = e ∧ (B : Int) = f) → ExGap ⟨yp, yb, yn⟩ ⟨P, B, N⟩) := fun h1 h2 => ⟨by dsimp only; omega, fun h => h2 (by dsimp only at h; omega)⟩
                have HGN : Hid (((P : Int) < e ∨ ((P : Int) = e ∧ (B : Int) = f)) → r = false) := fun h => by
                  cases hr : r with
                  | false => rfl
                  | true =>
                    obtain ⟨g1, g2⟩ := (HNO.out hr).2.1 h0
                    dsimp only at g1 g2
                    omega
                clear he hf hm HNO HS1 HU1 HUL1 HPREV
                by_cases s1 : (P : Int) < e
                · have hr : Hid (r = false) := HGN.out (.inl s1)
                  go_upto_region 9 with fail
                  go_quiet (fail)
                  go_upto_region 10 with fail
                  go_quiet (fail)
                  go_wp2
                  go_ret
                  exact ⟨(by rw [hr.out]; first | done | rfl), HB.trans ⟨rfl, rfl, rfl, Nat.le_refl _, fun _ _ => rfl⟩⟩
                · by_cases s2 : (P : Int) = e
                  · have s2b : ((P : Int) == e) = true := by rw [beq_iff_eq]; exact s2
                    by_cases s3 : (B : Int) = f
                    · have hr : Hid (r = false) := HGN.out (.inr ⟨s2, s3⟩)
                      have s3b : ((B : Int) == f) = true := by rw [beq_iff_eq]; exact s3
                      clear s2 s3 HGY HGN
                      go_upto_region 9 with fail
                      go_quiet (fail)
                      go_upto_region 10 with fail
                      go_quiet (fail)
                      go_wp2
                      go_ret
                      exact ⟨(by rw [hr.out]; first | done | rfl), HB.trans ⟨rfl, rfl, rfl, Nat.le_refl _, fun _ _ => rfl⟩⟩
                    · have s3b : ((B : Int) == f) = false := by rw [beq_eq_false_iff_ne]; exact s3
                      have HG : Hid (0 < k → ExGap ⟨yp, yb, yn⟩ ⟨P, B, N⟩) := fun _ => HGY.out s1 fun h => s3 h.2
                      clear s2 s3 HGY HGN
                      go_upto_region 9 with fail
                      go_quiet (fail)
                      go_upto_region 10 with fail
                      go_quiet (fail)
                      go_wp2_with fail
                      go_meet
                      exact ⟨HK.out.drew _, HG⟩
                  · have s2b : ((P : Int) == e) = false := by rw [beq_eq_false_iff_ne]; exact s2
                    have HG : Hid (0 < k → ExGap ⟨yp, yb, yn⟩ ⟨P, B, N⟩) := fun _ => HGY.out s1 fun h => s2 h.1
                    clear s2 HGY HGN
                    go_upto_region 9 with fail
                    go_quiet (fail)
                    go_upto_region 10 with fail
                    go_quiet (fail)
                    go_wp2_with fail
                    go_meet
                    exact ⟨HK.out.drew _, HG⟩
              · have hk0 : ¬ (k : Int) > 0 := by omega
                have HG : Hid (0 < k → ExGap l[k - 1]! ⟨P, B, N⟩) := fun h => absurd h h0
                go_wp2_with fail
                go_meet
                exact ⟨HK, HG⟩
            case rest =>
              obtain ⟨HK2, HG⟩ := hcut
              have HOLD : Hid (∀ q : Nat, q < N → (U[B + q]! = true → r = false) ∧ (setB U B q true)[B + q]! = U[B + q]! ∧ (setB U B q true).set (B + q) true = setB U B (q + 1 : Nat) true ∧ (setB U B q true).length = 24) := fun q hq => by
                refine ⟨fun h => ?_, ?_, setB_step U B true q, by rw [setB_len]; exact HUL1⟩
                · cases hr : r with
                  | false => rfl
                  | true =>
                    have := (HNO.out hr).2.2 (B + q) (by omega) (by first | omega | (dsimp only; omega)) (by first | omega | (dsimp only; omega))
                    rw [h] at this; cases this
                · rw [setB_get _ _ _ _ _ (by rw [HUL1]; omega), if_neg (by omega)]
              have HEND : Hid ((∀ j : Nat, B ≤ j → j < B + N → U[j]! = false) → ExR (l.take (k + 1)) ∧ usedN (l.take (k + 1)) = setB U B N true) := fun h => ⟨HS1.out HONE.out HG.out fun j h1 h2 => h j (by first | omega | (dsimp only at h1; omega)) (by first | omega | (dsimp only at h2; omega)), HU1.out⟩
              have g1 := HK2.out.box.c1
              dsimp only at g1
              rw [Nat.zero_add] at g1
              have h00 : OkSt w (setB U B (0 : Nat) true) bx ⟨P, B, N⟩ wc := by rw [setB_zero U B true _ (by simp)]; exact HK2.out
              clear HNO HS1 HU1 HUL1 HPREV HK HK2 HG c0 c1 c2 t1 t2 t3 HUL HN HONE HB hlx
              have v5 : IntKind.i64.wrap ((B : Int) + (N : Int)) = (B : Int) + (N : Int) := by rw [IntKind.wrap_i64]; omega
              go_wp2
              clear g1
              go_loopw [7] (fun jv wx => ∃ q : Nat, q ≤ N ∧ jv = .int .i64 ((B : Int) + (q : Int)) ∧ OkSt w (setB U B q true) bx ⟨P, B, N⟩ wx ∧ Hid (∀ j : Nat, B ≤ j → j < B + q → U[j]! = false)) (fun jv _ => B + N - (intOf jv).toNat)
              case atStart => exact ⟨0, Nat.zero_le _, by simp, h00, fun j h1 h2 => by omega⟩
              case round =>
                clear h00
                obtain ⟨q, hq, rfl, HS, HFR⟩ := hrel
                have c1 := HS.box.c1
                have c2 := HS.box.c2
                dsimp only at c1 c2
                rw [Nat.zero_add] at c1 c2
                have hbel := HS.bel
                by_cases hqn : q < N
                · obtain ⟨H1, H2, H3, H4⟩ := HOLD.out q hqn
                  obtain ⟨i, hi⟩ : ∃ i, i = B + q := ⟨_, rfl⟩
                  rw [← hi] at H1 H2 H3
                  have hi0 : (B : Int) + (q : Int) = (i : Int) := by omega
                  have hcl0 := World.ownsRow.cellAt HS.row i (by omega)
                  have hat := flatBo_at (setB U B q true) i (by omega) 0 (by omega)
                  rw [Nat.mul_one, Nat.add_zero, H2] at hat
                  have hcl : wr.cell? ⟨w.heap.size, i, none⟩ = some (.bool U[i]!) := hcl0.trans hat
                  have hfz := HS.row.frozenAt i
                  have HNX : Hid (U[i]! = false → ∀ j : Nat, B ≤ j → j < B + (q + 1) → U[j]! = false) := fun h j e1 e2 => by
                    by_cases ej : j = i
                    · rw [ej]; exact h
                    · exact HFR.out j e1 (by omega)
                  have HST2 : Hid (OkSt w (setB U B (q + 1 : Nat) true) bx ⟨P, B, N⟩ (wr.setCell ⟨w.heap.size, i, none⟩ (.bool true))) := HS.put hwx i (by omega) H3
                  generalize U[i]! = y at *
                  rw [hi0]
                  have hi24 : (i : Int) < 24 := by omega
                  have hin0 : (0 : Int) ≤ (i : Int) := by omega
                  have hiN : (i : Int) < (B : Int) + (N : Int) := by omega
                  have hwi : IntKind.i64.wrap ((i : Int) + 1) = (i : Int) + 1 := by rw [IntKind.wrap_i64]; omega
                  clear hat hcl0 H2 H3 H4 HFR HOLD HS hi
                  cases y with
                  | true =>
                    have hr : Hid (r = false) := H1 rfl
                    clear H1 HNX HST2 HEND
                    go_wp2
                    go_ret
                    exact ⟨(by rw [hr.out]; first | done | rfl), hbel⟩
                  | false =>
                    have HN2 : Hid _ := HNX.out rfl
                    clear H1 HNX HEND
                    go_wp2
                    go_roundw
                    case rel => exact ⟨q + 1, by omega, by rw [show (B : Int) + ((q + 1 : Nat) : Int) = (i : Int) + 1 by omega], HST2.out, HN2.out⟩
                    case measure => simp [intOf]; omega
                · obtain rfl : q = N := by omega
                  obtain ⟨E1, E2⟩ := HEND.out HFR.out
                  have E3 : Hid _ := E1
                  have E4 := HS.row
                  rw [← E2] at E4
                  clear HOLD HEND HFR E1 E2 HS
                  go_wp2
                  go_roundw
                  case rel => exact ⟨k + 1, by omega, by go_num, E3.out, E4, hbel⟩
                  case measure => simp [intOf]; omega
          · have hr : Hid (r = false) := HNR.out fun h => t3 (by obtain ⟨a1, a2, a3, a4, a5⟩ := h; dsimp only at a1 a2 a3 a4 a5; simp only [inB, Bool.and_eq_true, decide_eq_true_eq]; omega)
            have t3 : inB xb 0 (24 - (N : Int)) = false := by simpa using t3
            clear HNR HNO HS1 HU1 HPREV
            go_wp2_with (go_at_call 42; refine (in_any _ _ _ _).mono ?_; rintro e w' ⟨rfl, rfl⟩)
            go_ret
            exact ⟨(by rw [hr.out]; first | done | rfl), HB⟩
        · have hr : Hid (r = false) := HNR.out fun h => t2 (by obtain ⟨a1, a2, a3, a4, a5⟩ := h; dsimp only at a1 a2 a3 a4 a5; simp only [inB, Bool.and_eq_true, decide_eq_true_eq]; omega)
          have t2 : inB xp 0 (12 - (N : Int)) = false := by simpa using t2
          clear HNR HNO HS1 HU1 HPREV
          go_wp2_with (go_at_call 42; refine (in_any _ _ _ _).mono ?_; rintro e w' ⟨rfl, rfl⟩)
          go_ret
          exact ⟨(by rw [hr.out]; first | done | rfl), HB⟩
      · have hr : Hid (r = false) := HNR.out fun h => t1 (by obtain ⟨a1, a2, a3, a4, a5⟩ := h; dsimp only at a1 a2 a3 a4 a5; simp only [inB, Bool.and_eq_true, decide_eq_true_eq]; omega)
        have t1 : inB xn 1 12 = false := by simpa using t1
        clear HNR HNO HS1 HU1 HPREV
        go_wp2_with (go_at_call 42; refine (in_any _ _ _ _).mono ?_; rintro e w' ⟨rfl, rfl⟩)
        go_ret
        exact ⟨(by rw [hr.out]; first | done | rfl), HB⟩
    · obtain rfl : k = n := by omega
      have hltz : ¬ (k : Int) < (k : Int) := by omega
      have hr : Hid (r = true) := HYES.out HRT.out
      clear HON HST HUS HYES HBD hown
      go_wp2
      go_ret
      exact ⟨(by rw [hr.out]; first | done | rfl), hbel⟩
end Go.Proofs.Ytkbkanmmpdeokaa
