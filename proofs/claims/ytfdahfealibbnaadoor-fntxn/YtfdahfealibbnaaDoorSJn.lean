/- Journals, spec: l9Ok, ShowTxn. -/
import Derived.Test.YtfdahfealibbnaaDoorRows
import Derived.Test.YtfdahfealibbnaaDoorJnT
import Derived.Test.YtfdahfealibbnaaDoorWrR
import Derived.Test.YtfdahfealibbnaaDoorVpS
import Derived.Test.YtfdahfealibbnaaDoorCrcS
import Derived.Deep.RegionHeld3
namespace Go.Proofs.YtfdahfealibbnaaDoor
open Go.RowKit Go.Sort

/-- the value v reads as the transaction t -/
def TxnAt (w : World) (v : Value) (t : Tx) : Prop := ∃ s, v = .agg #[.int .i64 t.seq, s] ∧ WrsAt w s t.outs
theorem TxnAt.below {w w' : World} {v : Value} {t : Tx} (h : TxnAt w v t) (b : Below w.heap.size w w') : TxnAt w' v t := by
  obtain ⟨s, rfl, hs⟩ := h
  exact ⟨s, rfl, hs.below b⟩
theorem blk2 {w : World} {g : Nat} {a b : Value} {T : TypeId} {fr : Nat × Nat} (h : w.heap[g]? = some (.cells #[a, b] T fr)) : w.cell? ⟨g, 0, none⟩ = some a ∧ w.cell? ⟨g, 1, none⟩ = some b := ⟨Joins.cell_of_block h 0, Joins.cell_of_block h 1⟩

theorem in_re (x l h : Int) (w : World) (dd : Nat) (os : Array Obj) : Calls Tryd.prog 43 #[.int .i64 x, .int .i64 l, .int .i64 h] (grow (redrawn w dd) os) fun e w'' => e = .returned (.bool (inB x l h)) ∧ ∃ p : Regrown, w'' = grow (redrawn w p.d) p.os := Calls.regrown_of ((in_any x l h _).mono fun e w' h => ⟨h.1, by rw [← h.2]; exact Below.refl _ _⟩)

set_option maxRecDepth 100000 in
set_option maxHeartbeats 2000000 in
theorem l9Ok_any (v : Value) (t : Tx) (w : World) (hv : TxnAt w v t) :
    Calls Tryd.prog 20 #[v] w fun e w' => e = .returned (.bool (txnB t)) ∧ Below w.heap.size w w' := by
  obtain ⟨s, rfl, a, ca, rfl, -, ha⟩ := hv
  obtain ⟨sq, l⟩ := t
  dsimp only at *
  have HT : Hid (txnB ⟨sq, l⟩ = (inB sq 1 1000000 && (inB l.length 1 17 && risB 0 l))) := rfl
  have HST : Hid (∀ k, k < l.length → risB (leastK l k) (l.drop k) = (decide (leastK l k ≤ l[k]!.block ∧ l[k]!.block ≤ 16 ∧ l[k]!.text.size ≤ 400) && risB (leastK l (k + 1)) (l.drop (k + 1)))) := fun k hk => ris_step hk
  have HEN : Hid (∀ n, risB n (l.drop l.length) = true) := fun n => ris_end l n
  have HLS : Hid (∀ k, leastK l (k + 1) = l[k]!.block + 1) := leastK_succ l
  obtain ⟨n, HN⟩ : ∃ n, Hid (n = l.length) := ⟨_, rfl⟩
  rw [← HN.out] at ha HT HST HEN ⊢
  obtain ⟨r, HR⟩ : ∃ r, Hid (r = txnB ⟨sq, l⟩) := ⟨_, rfl⟩
  rw [← HR.out] at HT ⊢
  have B0 := below_lit w (.cells #[.int .i64 sq, .slice a n ca] 29)
  have S0 : (w.alloc (.cells #[.int .i64 sq, .slice a n ca] 29)).heap.size = w.heap.size + 1 := by simp
  cases h1 : inB sq 1 1000000 with
  | false =>
    have hr : Hid (r = false) := by show _ = _; rw [HT.out, h1]; rfl
    clear HT
    go_enter Tryd.func20, Tryd.ntmps20
    go_wp2_with (go_at_call 43; refine (in_any _ _ _ _).mono ?_; rintro e w' ⟨rfl, rfl⟩)
    go_ret
    exact ⟨ret_bool hr.out.symm, B0⟩
  | true =>
    cases h2 : inB n 1 17 with
    | false =>
      have hr : Hid (r = false) := by show _ = _; rw [HT.out, h1, h2]; rfl
      clear HT
      go_enter Tryd.func20, Tryd.ntmps20
      go_wp2_with (go_at_call 43; refine (in_any _ _ _ _).mono ?_; rintro e w' ⟨rfl, rfl⟩)
      go_ret
      exact ⟨ret_bool hr.out.symm, B0⟩
    | true =>
      have hn17 := inB_le h2
      have hr : Hid (risB (leastK l 0) (l.drop 0) = r) := by show _ = _; rw [HT.out, h1, h2, leastK_zero]; rfl
      have hl0 : Hid (0 ≤ leastK l 0) := by show 0 ≤ _; rw [leastK_zero]; omega
      clear HT
      go_enter Tryd.func20, Tryd.ntmps20
      go_wp2_with (go_at_call 43; refine (in_any _ _ _ _).mono ?_; rintro e w' ⟨rfl, rfl⟩)
      have HB0 : Hid ((w.alloc (.cells #[.int .i64 sq, .slice a n ca] 29)).heap[w.heap.size]? = some (.cells #[.int .i64 sq, .slice a n ca] 29)) := (MapKept.heap_alloc w _).1
      generalize w.alloc (.cells #[.int .i64 sq, .slice a n ca] 29) = W at B0 S0 HB0 ⊢
      clear h1 h2
      go_loopw [3] (fun i wr => ∃ k : Nat, k ≤ n ∧ i = .int .i64 k ∧ Hid (risB (leastK l k) (l.drop k) = r) ∧ Hid (0 ≤ leastK l k) ∧ Hid (wr.heap[w.heap.size]? = some (.cells #[.int .i64 sq, .slice a n ca] 29)) ∧ Below w.heap.size w wr) (fun i _ => n - (intOf i).toNat)
      case atStart => exact ⟨0, Nat.zero_le _, rfl, hr, hl0, HB0, B0⟩
      case round =>
        obtain ⟨k, hk, rfl, HRK, HLK, HB, hbel⟩ := hrel
        obtain ⟨x0, x1⟩ := blk2 HB.out
        by_cases hlt : k < n
        · obtain ⟨b1, o1, rfl, hb1, hc1⟩ := ha k hlt
          have hc1 := hc1.below hb1 hbel
          have HS := HST.out k hlt
          rw [HRK.out] at HS
          have HSUC := HLS.out k
          have HPV : 0 < k → CellsW wr b1 (o1 + (k - 1) * 2) l[k - 1]! ∧ leastK l k = l[k - 1]!.block + 1 := fun h0 => by
            obtain ⟨b2, o2, e2, hb2, hc2⟩ := ha (k - 1) (by omega)
            cases e2
            refine ⟨hc2.below hb2 hbel, ?_⟩
            have := HLS.out (k - 1)
            rwa [show k - 1 + 1 = k by omega] at this
          have HLK' := HLK.out
          have HK0 : k = 0 → leastK l k = 0 := fun h => by rw [h]; rfl
          generalize l[k]! = y at hc1 HS HSUC
          obtain ⟨yb, yt⟩ := y
          have c0 := hc1.c0
          have c1 := hc1.c1
          dsimp only at c0 c1 HS HSUC
          have q1 := cell_regrown x1
          have q2 := cell_regrown c0
          have q3 := cell_regrown c1
          have hIN := fun dd os => in_re yb 0 16 wr dd os
          have hkn : (k : Int) < (n : Int) := by omega
          have hk0 : (0 : Int) ≤ (k : Int) := by omega
          have hyi : inB yb 0 16 = decide (0 ≤ yb ∧ yb ≤ 16) := by
            cases h : inB yb 0 16 with
            | false => symm; apply decide_eq_false; have := inB_no h; omega
            | true => symm; exact decide_eq_true (inB_le h)
          clear hc1 ha hlt
          by_cases hin : 0 ≤ yb ∧ yb ≤ 16
          · rw [decide_eq_true hin] at hyi
            rw [hyi] at hIN
            have HNX : Hid (leastK l k ≤ yb → yt.size ≤ 400 → risB (leastK l (k + 1)) (l.drop (k + 1)) = r ∧ 0 ≤ leastK l (k + 1)) := fun h1 h2 => by
              rw [decide_eq_true ⟨h1, hin.2, h2⟩, Bool.true_and] at HS
              exact ⟨HS.symm, by rw [HSUC]; omega⟩
            have HNO : Hid (¬ (leastK l k ≤ yb ∧ yt.size ≤ 400) → r = false) := fun h => by
              rw [HS, decide_eq_false (fun h2 => h ⟨h2.1, h2.2.2⟩), Bool.false_and]
            have hin0 := hin.1
            clear hin hyi HS HSUC
            by_cases hkz : k = 0
            · have hd0 : decide (0 < k) = false := decide_eq_false (by omega)
              have hle := HK0 hkz
              by_cases hsz : yt.size ≤ 400
              · have hf4 : ¬ ((400 : Int) < (yt.size : Int)) := by omega
                obtain ⟨h3, h4⟩ := HNX.out (by rw [hle]; exact hin0) hsz
                have HX1 : Hid _ := h3
                have HX2 : Hid _ := h4
                clear HNX HNO hkz hle h3 h4 HPV HK0 HLK' hsz hin0
                go_wp2
                refine wp_region_quiet_below (by kernel_rfl) (by kernel_rfl) ?_
                repeat (go_big_quiet_step (with_reducible exact hIN _ _))
                refine wpQuiet_nil ?_
                rintro w' ⟨⟨dq, osq⟩, rfl⟩
                have hbq := below_regrown wr dq osq
                generalize grow (redrawn wr dq) osq = w3 at hbq ⊢
                have hbel3 := hbel.trans (hbq.mono hbel.size)
                have HB3 : Hid _ := (hbq.block _ (lt_of_block HB.out)).trans HB.out
                go_wp2
                go_roundw
                case rel => exact ⟨k + 1, by omega, by go_num, HX1, HX2, HB3, hbel3⟩
                case measure => simp [intOf]; omega
              · have hf4 : (400 : Int) < (yt.size : Int) := by omega
                have hr : Hid (r = false) := HNO.out (fun h => hsz h.2)
                clear HNX HNO hkz hle HPV HK0 HLK' hsz hin0
                go_wp2
                refine wp_region_quiet_below (by kernel_rfl) (by kernel_rfl) ?_
                repeat (go_big_quiet_step (with_reducible exact hIN _ _))
                refine wpQuiet_nil ?_
                rintro w' ⟨⟨dq, osq⟩, rfl⟩
                have hbq := below_regrown wr dq osq
                generalize grow (redrawn wr dq) osq = w3 at hbq ⊢
                have hbel3 := hbel.trans (hbq.mono hbel.size)
                go_wp2
                go_ret
                exact ⟨ret_bool hr.out.symm, hbel3⟩
            · have hd0 : decide (0 < k) = true := decide_eq_true (by omega)
              obtain ⟨hp, hle⟩ := HPV (by omega)
              have p0 := hp.c0
              generalize l[k - 1]! = z at p0 hle
              obtain ⟨zb, zt⟩ := z
              dsimp only at p0 hle
              have q4 := cell_regrown p0
              obtain ⟨m, rfl⟩ : ∃ m, k = m + 1 := ⟨k - 1, by omega⟩
              rw [Nat.add_sub_cancel] at p0 q4
              clear hp HPV HK0
              by_cases hge : yb ≤ zb
              · have hr : Hid (r = false) := HNO.out (fun h => by have := h.1; omega)
                clear HNX HNO hle HLK' hin0 hkz
                go_wp2
                refine wp_region_quiet_below (by kernel_rfl) (by kernel_rfl) ?_
                repeat (go_big_quiet_step (with_reducible exact hIN _ _))
                refine wpQuiet_nil ?_
                rintro w' ⟨⟨dq, osq⟩, rfl⟩
                have hbq := below_regrown wr dq osq
                generalize grow (redrawn wr dq) osq = w3 at hbq ⊢
                have hbel3 := hbel.trans (hbq.mono hbel.size)
                go_wp2
                go_ret
                exact ⟨ret_bool hr.out.symm, hbel3⟩
              · have hgd : decide (yb ≤ zb) = false := decide_eq_false hge
                by_cases hsz : yt.size ≤ 400
                · have hf4 : ¬ ((400 : Int) < (yt.size : Int)) := by omega
                  obtain ⟨h3, h4⟩ := HNX.out (by omega) hsz
                  have HX1 : Hid _ := h3
                  have HX2 : Hid _ := h4
                  clear HNX HNO hle HLK' hsz hin0 hkz hge h3 h4
                  go_wp2
                  refine wp_region_quiet_below (by kernel_rfl) (by kernel_rfl) ?_
                  repeat (go_big_quiet_step (with_reducible exact hIN _ _))
                  refine wpQuiet_nil ?_
                  rintro w' ⟨⟨dq, osq⟩, rfl⟩
                  have hbq := below_regrown wr dq osq
                  generalize grow (redrawn wr dq) osq = w3 at hbq ⊢
                  have hbel3 := hbel.trans (hbq.mono hbel.size)
                  have HB3 : Hid _ := (hbq.block _ (lt_of_block HB.out)).trans HB.out
                  go_wp2
                  go_roundw
                  case rel => exact ⟨m + 1 + 1, by omega, by go_num, HX1, HX2, HB3, hbel3⟩
                  case measure => simp [intOf]; omega
                · have hf4 : (400 : Int) < (yt.size : Int) := by omega
                  have hr : Hid (r = false) := HNO.out (fun h => hsz h.2)
                  clear HNX HNO hle HLK' hsz hin0 hkz hge
                  go_wp2
                  refine wp_region_quiet_below (by kernel_rfl) (by kernel_rfl) ?_
                  repeat (go_big_quiet_step (with_reducible exact hIN _ _))
                  refine wpQuiet_nil ?_
                  rintro w' ⟨⟨dq, osq⟩, rfl⟩
                  have hbq := below_regrown wr dq osq
                  generalize grow (redrawn wr dq) osq = w3 at hbq ⊢
                  have hbel3 := hbel.trans (hbq.mono hbel.size)
                  go_wp2
                  go_ret
                  exact ⟨ret_bool hr.out.symm, hbel3⟩
          · have hr : Hid (r = false) := by show _ = _; rw [HS, decide_eq_false (fun h2 => hin ⟨by omega, h2.2.1⟩), Bool.false_and]
            rw [decide_eq_false hin] at hyi
            rw [hyi] at hIN
            clear hin hyi HS HSUC HPV HK0 HLK'
            go_wp2
            refine wp_region_quiet_below (by kernel_rfl) (by kernel_rfl) ?_
            repeat (go_big_quiet_step (with_reducible exact hIN _ _))
            refine wpQuiet_nil ?_
            rintro w' ⟨⟨dq, osq⟩, rfl⟩
            have hbq := below_regrown wr dq osq
            generalize grow (redrawn wr dq) osq = w3 at hbq ⊢
            have hbel3 := hbel.trans (hbq.mono hbel.size)
            go_wp2
            go_ret
            exact ⟨ret_bool hr.out.symm, hbel3⟩
        · obtain rfl : k = n := by omega
          have hrr : Hid (r = true) := by show _ = _; rw [← HRK.out, HEN.out]
          go_wp2
          go_ret
          exact ⟨ret_bool hrr.out.symm, hbel⟩

theorem sFix4 (n : Int) (w : World) (h0 : 0 ≤ n) (h1 : n ≤ 4294967295) : Calls Tryd.prog 23 #[.int .i64 n, .int .i64 4] w fun e w' => e = .returned (.string ⟨(fixL 4 n).toArray⟩) ∧ Below w.heap.size w w' := sFixed_yes n 4 w (by decide) h0 (by omega)

theorem sCrcV (s : ByteArray) (hs : s.size ≤ 1048576) (w : World) : Calls Tryd.prog 24 #[.string s] w fun e w' => e = .returned (.int .i64 (crcV s)) ∧ w = w' := sCrc s hs w

set_option maxRecDepth 100000 in
set_option maxHeartbeats 2000000 in
theorem sShowTxn (v : Value) (t : Tx) (w : World) (hv : TxnAt w v t) :
    Calls Tryd.prog 7 #[v] w fun e w' => e = .returned (.string (showN t)) ∧ Below w.heap.size w w' := by
  have HOK := fun w' (b : Below w.heap.size w w') => l9Ok_any v t w' (hv.below b)
  obtain ⟨s, rfl, a, ca, rfl, -, ha⟩ := hv
  cases htx : txnB t with
  | false =>
    have hr : Hid (showN t = ⟨#[]⟩) := showN_no htx
    rw [htx] at HOK
    generalize showN t = r at hr ⊢
    generalize t.seq = sq at *
    generalize t.outs.length = n at *
    have B0 := below_lit w (.cells #[.int .i64 sq, .slice a n ca] 29)
    have H1 := HOK _ B0
    rw [show (w.alloc (.cells #[.int .i64 sq, .slice a n ca] 29)).heap.size = w.heap.size + 1 by simp] at H1
    have S0 : (w.alloc (.cells #[.int .i64 sq, .slice a n ca] 29)).heap.size = w.heap.size + 1 := by simp
    go_enter Tryd.func7, Tryd.ntmps7
    go_wp2_with fail
    refine H1.mono ?_
    rintro e w1 ⟨rfl, b1⟩
    rw [← S0] at b1
    go_wp2
    go_ret
    exact ⟨by rw [hr.out]; rfl, B0.trans (b1.mono (by omega))⟩
  | true =>
    rw [htx] at HOK
    obtain ⟨h1, h2, h3⟩ := txnB_parts htx
    have hx := ris_at _ _ h3
    have HST : Hid (∀ k, k < t.outs.length → txT t k ++ varT t.outs[k]!.block ++ pieceT t.outs[k]!.text = txT t (k + 1)) := fun k hk => by
      rw [txT_step t k hk, app_assoc]
    have HZ : Hid (∀ k, (txT t k).size ≤ 8000) := fun k => txT_size t (fun x hx' => (hx x hx').2.2) h2.2 k
    have H0 : Hid ((⟨#[116]⟩ : ByteArray) ++ varT t.seq ++ varT t.outs.length = txT t 0) := (txT_zero t).symm
    have HE : Hid (showN t = cutT ((⟨(fixL 4 (crcV (txT t t.outs.length))).toArray⟩ : ByteArray) ++ txT t t.outs.length)) := by
      show _ = _; rw [showN_yes htx, txT_all]; rfl
    have HSZ : Hid (((⟨(fixL 4 (crcV (txT t t.outs.length))).toArray⟩ : ByteArray) ++ txT t t.outs.length).size = 4 + (txT t t.outs.length).size) := sumT_size _
    have HTX : Hid (∀ k, k < t.outs.length → t.outs[k]!.text.size ≤ 400) := fun k hk => (hx _ (by rw [getElem!_pos t.outs k hk]; exact List.getElem_mem hk)).2.2
    obtain ⟨r, HR⟩ : ∃ r, Hid (r = showN t) := ⟨_, rfl⟩
    rw [← HR.out] at HE ⊢
    generalize txT t = tx at HST HZ H0 HE HSZ
    clear htx h3 hx
    obtain ⟨sq, l⟩ := t
    dsimp only at *
    obtain ⟨n, HN⟩ : ∃ n, Hid (n = l.length) := ⟨_, rfl⟩
    rw [← HN.out] at ha h2 HTX HST H0 HE HSZ HOK ⊢
    have B0 := below_lit w (.cells #[.int .i64 sq, .slice a n ca] 29)
    have S0 : (w.alloc (.cells #[.int .i64 sq, .slice a n ca] 29)).heap.size = w.heap.size + 1 := by simp
    have HB0 : Hid ((w.alloc (.cells #[.int .i64 sq, .slice a n ca] 29)).heap[w.heap.size]? = some (.cells #[.int .i64 sq, .slice a n ca] 29)) := (MapKept.heap_alloc w _).1
    have H1 := HOK _ B0
    rw [S0] at H1
    go_enter Tryd.func7, Tryd.ntmps7
    go_wp2_with fail
    refine H1.mono ?_
    rintro e W ⟨rfl, b1⟩
    rw [← S0] at b1
    have HB1 : Hid (W.heap[w.heap.size]? = some (.cells #[.int .i64 sq, .slice a n ca] 29)) := (b1.block _ (by omega)).trans HB0.out
    have BW : Below w.heap.size w W := B0.trans (b1.mono (by omega))
    obtain ⟨c0, c1⟩ := blk2 HB1.out
    clear B0 S0 HB0 H1 HOK b1
    have g0 := cell_regrown c0
    have g1 := cell_regrown c1
    have z1 := varT_size sq
    have z2 := varT_size n
    have V1 := fun dd os => sVarT_re sq W dd os
    have V2 := fun dd os => sVarT_re n W dd os
    generalize varT sq = t1 at *
    generalize varT n = t2 at *
    go_wp2
    refine wp_region_quiet_below (by kernel_rfl) (by kernel_rfl) ?_
    repeat (go_big_quiet_step (first | with_reducible exact V1 _ _ | with_reducible exact V2 _ _))
    refine wpQuiet_nil ?_
    rintro w' ⟨⟨dq, osq⟩, rfl⟩
    have hbq := below_regrown W dq osq
    generalize grow (redrawn W dq) osq = w5 at hbq ⊢
    have HB5 : Hid _ := (hbq.block _ (lt_of_block HB1.out)).trans HB1.out
    have b5 : Below w.heap.size w w5 := BW.trans (hbq.mono BW.size)
    rw [H0.out]
    clear V1 V2 g0 g1 c0 c1 HB1 z1 z2 H0 BW hbq
    go_wp2
    go_loopw [3, 4] (fun sv i wr => ∃ k : Nat, k ≤ n ∧ i = .int .i64 k ∧ sv = .string (tx k) ∧ Hid (wr.heap[w.heap.size]? = some (.cells #[.int .i64 sq, .slice a n ca] 29)) ∧ Below w.heap.size w wr) (fun _ i _ => n - (intOf i).toNat)
    case atStart => exact ⟨0, Nat.zero_le _, rfl, rfl, HB5, b5⟩
    case round =>
      obtain ⟨k, hk, rfl, rfl, HB, hbel⟩ := hrel
      obtain ⟨d0, d1⟩ := blk2 HB.out
      by_cases hlt : k < n
      · obtain ⟨b1, o1, rfl, hb1, hc1⟩ := ha k hlt
        have hc1 := hc1.below hb1 hbel
        have HS := HST.out k hlt
        have hz := HZ.out k
        have hnm := HTX.out k hlt
        generalize l[k]! = e at hc1 HS hnm
        obtain ⟨e0, e1⟩ := e
        have k0 := hc1.c0
        have k1 := hc1.c1
        dsimp only at k0 k1 HS hnm
        have f0 := cell_regrown k0
        have f1 := cell_regrown k1
        have f2 := cell_regrown d1
        have z1 := varT_size e0
        have z2 := pieceT_size e1
        have V1 := fun dd os => sVarT_re e0 wr dd os
        have V2 := fun dd os => sPiece_re e1 wr (by omega) dd os
        generalize varT e0 = t1 at *
        generalize pieceT e1 = t2 at *
        have HS : Hid _ := HS
        generalize tx k = tk at HS hz ⊢
        have hkn : (k : Int) < (n : Int) := by omega
        have hk0 : (0 : Int) ≤ (k : Int) := by omega
        clear hc1 ha
        go_wp2
        refine wp_region_quiet_below (by kernel_rfl) (by kernel_rfl) ?_
        repeat (go_big_quiet_step (first | with_reducible exact V1 _ _ | with_reducible exact V2 _ _))
        refine wpQuiet_nil ?_
        rintro w' ⟨⟨dq, osq⟩, rfl⟩
        have hbq := below_regrown wr dq osq
        generalize grow (redrawn wr dq) osq = w6 at hbq ⊢
        have HB6 : Hid _ := (hbq.block _ (lt_of_block HB.out)).trans HB.out
        have b6 := hbel.trans (hbq.mono hbel.size)
        rw [HS.out]
        clear V1 V2 f0 f1 f2 k0 k1 d0 d1 z1 z2 HS
        go_wp2
        go_roundw
        case rel => exact ⟨k + 1, by omega, by go_num, rfl, HB6, b6⟩
        case measure => simp [intOf]; omega
      · obtain rfl : k = n := by omega
        have hz := HZ.out k
        have hcv := crcV_in (tx k)
        have HC := fun w' => sCrcV (tx k) (by omega) w'
        have HF := fun w' => sFix4 (crcV (tx k)) w' hcv.1 hcv.2
        have HSZ := HSZ.out
        generalize tx k = tk at *
        generalize crcV tk = cv at *
        generalize (⟨(fixL 4 cv).toArray⟩ : ByteArray) = ft at *
        have HE : Hid _ := HE.out
        have hfs : ft.size = 4 := by rw [app_size] at HSZ; omega
        clear HSZ HST HZ
        by_cases hbig : 4000 < (ft ++ tk).size
        · have hr : Hid (r = ⟨#[]⟩) := by show _ = _; rw [HE.out]; unfold cutT; rw [if_pos hbig]
          have hb4 : (4000 : Int) < 4 + (tk.size : Int) := by rw [app_size] at hbig; omega
          clear HE
          go_wp2_with (first
            | (go_at_call 24; refine (HC _).mono ?_; rintro e w' ⟨rfl, rfl⟩)
            | (go_at_call 23; refine (HF _).mono ?_; rintro e w7 ⟨rfl, b7⟩))
          go_ret
          exact ⟨by rw [hr.out]; rfl, hbel.trans (b7.mono hbel.size)⟩
        · have hr : Hid (r = ft ++ tk) := by show _ = _; rw [HE.out]; unfold cutT; rw [if_neg hbig]
          have hb4 : ¬ ((4000 : Int) < 4 + (tk.size : Int)) := by rw [app_size] at hbig; omega
          clear HE
          go_wp2_with (first
            | (go_at_call 24; refine (HC _).mono ?_; rintro e w' ⟨rfl, rfl⟩)
            | (go_at_call 23; refine (HF _).mono ?_; rintro e w7 ⟨rfl, b7⟩))
          go_ret
          exact ⟨by rw [hr.out]; rfl, hbel.trans (b7.mono hbel.size)⟩

end Go.Proofs.YtfdahfealibbnaaDoor
