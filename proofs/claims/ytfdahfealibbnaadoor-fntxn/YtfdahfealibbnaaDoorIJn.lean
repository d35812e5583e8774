/- Journals, impl: outsOk, txnOk, the journal's text, ShowTxn. -/
import Derived.Test.YtfdahfealibbnaaDoorRows
import Derived.Test.YtfdahfealibbnaaDoorSJn
import Derived.Test.YtfdahfealibbnaaDoorVpI
import Derived.Test.YtfdahfealibbnaaDoorCrcI
import Derived.Test.YtfdahfealibbnaaDoorIBtw
import Derived.Test.YtfdahfealibbnaaDoorTlT
import Derived.Deep.RegionLaw
namespace Go.Proofs.YtfdahfealibbnaaDoor
open Go.RowKit Go.Sort

set_option maxRecDepth 100000 in
set_option maxHeartbeats 2000000 in
theorem outsOk_any (v : Value) (l : List Wr) (w : World) (hl : l.length ≤ 9223372036854775807) (hv : WrsAt w v l) :
    Calls Tryd.prog 46 #[v] w fun e w' => e = .returned (.bool (risB 0 l)) ∧ Below w.heap.size w w' := by
  obtain ⟨a, ca, rfl, -, ha⟩ := hv
  have HST : Hid (∀ k, k < l.length → risB (leastK l k) (l.drop k) = (decide (leastK l k ≤ l[k]!.block ∧ l[k]!.block ≤ 16 ∧ l[k]!.text.size ≤ 400) && risB (leastK l (k + 1)) (l.drop (k + 1)))) := fun k hk => ris_step hk
  have HEN : Hid (∀ n, risB n (l.drop l.length) = true) := fun n => ris_end l n
  have HLS : Hid (∀ k, leastK l (k + 1) = l[k]!.block + 1) := leastK_succ l
  obtain ⟨r, HR⟩ : ∃ r, Hid (r = risB 0 l) := ⟨_, rfl⟩
  obtain ⟨n, HN⟩ : ∃ n, Hid (n = l.length) := ⟨_, rfl⟩
  rw [← HN.out] at ha hl HST HEN ⊢
  rw [← HR.out]
  have HR0 : Hid (risB (leastK l 0) (l.drop 0) = r) := by show _ = _; rw [HR.out, leastK_zero]; rfl
  clear HR
  go_enter Tryd.func46, Tryd.ntmps46
  go_wp2
  go_loopw [3, 8] (fun ls i wr => ∃ (k : Nat) (L : Int), k ≤ n ∧ i = .int .i64 k ∧ ls = .int .i64 L ∧ Hid (L = leastK l k) ∧ (0 ≤ L ∧ L ≤ 17) ∧ Hid (risB (leastK l k) (l.drop k) = r) ∧ Below w.heap.size w wr) (fun _ i _ => n - (intOf i).toNat)
  case atStart => exact ⟨0, 0, Nat.zero_le _, rfl, rfl, rfl, ⟨by decide, by decide⟩, HR0, Below.refl _ _⟩
  case round =>
    obtain ⟨k, L, hk, rfl, rfl, HL, ⟨hL0, hL1⟩, HRK, hbel⟩ := hrel
    by_cases hlt : k < n
    · obtain ⟨b1, o1, rfl, hb1, hc1⟩ := ha k hlt
      have hc1 := hc1.below hb1 hbel
      have HS := HST.out k hlt
      have HSUC := HLS.out k
      rw [HRK.out, ← HL.out] at HS
      generalize l[k]! = y at hc1 HS HSUC
      obtain ⟨yb, yt⟩ := y
      have c0 := hc1.c0
      have c1 := hc1.c1
      dsimp only at c0 c1 HS HSUC
      have hkn : (k : Int) < (n : Int) := by omega
      have hk0 : (0 : Int) ≤ (k : Int) := by omega
      have BX := hbel.trans ((below_lit wr (.cells #[.int .i64 yb, .string yt] 43)).mono hbel.size)
      clear hc1 ha
      cases hin : inB yb L 16 with
      | false =>
        have hr : Hid (r = false) := by
          show _ = _
          rw [HS, decide_eq_false, Bool.false_and]
          intro h2
          rw [inB_mk h2.1 h2.2.1] at hin
          cases hin
        clear HS
        go_wp2_with (go_at_call 45; refine (btw_any _ _ _ _).mono ?_; rintro e w' ⟨rfl, rfl⟩)
        go_ret
        exact ⟨ret_bool hr.out.symm, BX⟩
      | true =>
        have hin2 := inB_le hin
        by_cases hsz : yt.size ≤ 400
        · have hf4 : ¬ ((400 : Int) < (yt.size : Int)) := by omega
          have HX : Hid (risB (leastK l (k + 1)) (l.drop (k + 1)) = r) := by
            show _ = _
            rw [decide_eq_true ⟨hin2.1, hin2.2, hsz⟩, Bool.true_and] at HS
            exact HS.symm
          have HL2 : Hid (yb + 1 = leastK l (k + 1)) := HSUC.symm
          have hwy : IntKind.i64.wrap (yb + 1) = yb + 1 := by rw [IntKind.wrap_i64]; omega
          clear HS hsz HSUC
          go_wp2_with (go_at_call 45; refine (btw_any _ _ _ _).mono ?_; rintro e w' ⟨rfl, rfl⟩)
          go_roundw
          case rel => exact ⟨k + 1, yb + 1, by omega, by go_num, by go_num, HL2, ⟨by omega, by omega⟩, HX, BX⟩
          case measure => simp [intOf]; omega
        · have hf4 : (400 : Int) < (yt.size : Int) := by omega
          have hr : Hid (r = false) := by
            show _ = _
            rw [HS, decide_eq_false (fun h2 => hsz h2.2.2), Bool.false_and]
          clear HS hsz
          go_wp2_with (go_at_call 45; refine (btw_any _ _ _ _).mono ?_; rintro e w' ⟨rfl, rfl⟩)
          go_ret
          exact ⟨ret_bool hr.out.symm, BX⟩
    · obtain rfl : k = n := by omega
      have hrr : Hid (r = true) := by show _ = _; rw [← HRK.out, HEN.out]
      go_wp2
      go_ret
      exact ⟨ret_bool hrr.out.symm, hbel⟩

set_option maxRecDepth 100000 in
set_option maxHeartbeats 2000000 in
theorem txnOk_any (v : Value) (t : Tx) (w : World) (hl : t.outs.length ≤ 9223372036854775807) (hv : TxnAt w v t) :
    Calls Tryd.prog 26 #[v] w fun e w' => e = .returned (.bool (txnB t)) ∧ Below w.heap.size w w' := by
  obtain ⟨s, rfl, hs⟩ := hv
  have HT : Hid (txnB t = (inB t.seq 1 1000000 && (inB t.outs.length 1 17 && risB 0 t.outs))) := rfl
  have HO := fun w' (b : Below w.heap.size w w') => outsOk_any s t.outs w' hl (hs.below b)
  obtain ⟨a, ca, rfl, -, -⟩ := hs
  generalize txnB t = r at HT ⊢
  generalize risB 0 t.outs = ro at HT HO
  generalize t.seq = sq at *
  generalize t.outs.length = n at *
  have B0 := below_lit w (.cells #[.int .i64 sq, .slice a n ca] 29)
  have S0 : (w.alloc (.cells #[.int .i64 sq, .slice a n ca] 29)).heap.size = w.heap.size + 1 := by simp
  have H1 := HO _ B0
  rw [S0] at H1
  cases h1 : inB sq 1 1000000 with
  | false =>
    have hr : Hid (r = false) := by show _ = _; rw [HT.out, h1]; rfl
    clear HT H1 HO
    go_enter Tryd.func26, Tryd.ntmps26
    go_wp2_with (go_at_call 45; refine (btw_any _ _ _ _).mono ?_; rintro e w' ⟨rfl, rfl⟩)
    go_ret
    exact ⟨ret_bool hr.out.symm, B0⟩
  | true =>
    cases h2 : inB n 1 17 with
    | false =>
      have hr : Hid (r = false) := by show _ = _; rw [HT.out, h1, h2]; rfl
      clear HT H1 HO
      go_enter Tryd.func26, Tryd.ntmps26
      go_wp2_with (go_at_call 45; refine (btw_any _ _ _ _).mono ?_; rintro e w' ⟨rfl, rfl⟩)
      go_ret
      exact ⟨ret_bool hr.out.symm, B0⟩
    | true =>
      have hr : Hid (r = ro) := by show _ = _; rw [HT.out, h1, h2]; rfl
      clear HT HO
      go_enter Tryd.func26, Tryd.ntmps26
      go_wp2_with (first
        | (go_at_call 45; refine (btw_any _ _ _ _).mono ?_; rintro e w' ⟨rfl, rfl⟩)
        | (go_at_call 46; refine H1.mono ?_; rintro e w1 ⟨rfl, b1⟩))
      go_ret
      rw [← S0] at b1
      exact ⟨ret_bool hr.out.symm, B0.trans (b1.mono (by omega))⟩

/-- the journal's text in block b -/
def JouSt (w : World) (b : Nat) (s : ByteArray) : Prop := w.heap[b]? = some (.cells #[.string s] 52)
theorem JouSt.lt {w : World} {b : Nat} {s : ByteArray} (h : JouSt w b s) : b < w.heap.size := lt_of_block h
theorem JouSt.below {w w' : World} {b : Nat} {s : ByteArray} (h : JouSt w b s) (hb : Below w.heap.size w w') : JouSt w' b s := (hb.block b h.lt).trans h

set_option maxRecDepth 100000 in
set_option maxHeartbeats 2000000 in
theorem jouPut_any (b : Nat) (s : ByteArray) (x : Wr) (w : World) (hs : s.size ≤ 100000) (hx : x.text.size ≤ 400) (h : JouSt w b s) :
    Calls Tryd.prog 84 #[.pointer (some ⟨b, 0, none⟩), .agg #[.int .i64 x.block, .string x.text]] w fun e w' => e = .returned (.tuple #[]) ∧ JouSt w' b (s ++ (varT x.block ++ pieceT x.text)) ∧ w.grownBy w' (some b) := by
  obtain ⟨xb, xt⟩ := x
  dsimp only at *
  have B0 := below_lit w (.cells #[.int .i64 xb, .string xt] 43)
  have hj := h.below B0
  have HB0 := (MapKept.heap_alloc w (.cells #[.int .i64 xb, .string xt] 43)).1
  have hlt := h.lt
  obtain ⟨W, HW⟩ : ∃ W, Hid (W = w.alloc (.cells #[.int .i64 xb, .string xt] 43)) := ⟨_, rfl⟩
  have hf : w.alloc (.cells #[.int .i64 xb, .string xt] 43) = W := HW.out.symm
  rw [hf] at B0 hj HB0
  have HV := fun w' => iVarT xb w'
  have HP := fun w' => iPiece xt w' (by omega)
  have z1 := varT_size xb
  have z2 := pieceT_size xt
  generalize varT xb = t1 at *
  generalize pieceT xt = t2 at *
  have q1 : ¬ 9223372036854775807 < t1.size + t2.size := by omega
  have q2 : ¬ 9223372036854775807 < s.size + (t1.size + t2.size) := by omega
  have HK : Hid (∀ w', Below W.heap.size W w' → (w'.cell? ⟨b, 0, none⟩ = some (.string s) ∧ w'.frozen? ⟨b, 0, none⟩ = false) ∧ w'.cell? ⟨w.heap.size, 0, none⟩ = some (.int .i64 xb) ∧ w'.cell? ⟨w.heap.size, 1, none⟩ = some (.string xt)) := fun w' hb => by
    have h1 := hj.below hb
    have h2 := (hb.block _ (lt_of_block HB0)).trans HB0
    exact ⟨⟨Joins.cell_of_block h1 0, Joins.unfrozen_of_block h1 0⟩, Joins.cell_of_block h2 0, Joins.cell_of_block h2 1⟩
  have HE : Hid (∀ w', Below W.heap.size W w' → JouSt (w'.setCell ⟨b, 0, none⟩ (.string (s ++ (t1 ++ t2)))) b (s ++ (t1 ++ t2)) ∧ w.grownBy (w'.setCell ⟨b, 0, none⟩ (.string (s ++ (t1 ++ t2)))) (some b)) := fun w' hb =>
    ⟨Joins.block_setCell (i := 0) (hj.below hb) _, gbr_trans (gbi_of_below (B0.trans (hb.mono B0.size))) (gbr_set _ _ _ _)⟩
  obtain ⟨⟨k0, kf⟩, k1, k2⟩ := HK.out W (Below.refl _ _)
  have hne : b ≠ w.heap.size := by omega
  clear HB0 hj h
  go_enter Tryd.func84, Tryd.ntmps84
  go_wp2_with fail
  go_region_law
    (first
    | (go_simp; go_at_call 27; refine (HV _).mono ?_; rintro e w1 ⟨rfl, b1⟩; have b1' := (Below.refl W.heap.size W).drew.trans b1; obtain ⟨⟨k0, kf⟩, k1, k2⟩ := HK.out _ b1'; dsimp only)
    | (go_simp; go_at_call 85; refine (HP _).mono ?_; rintro e w2 ⟨rfl, b2⟩; have b2' := b1'.trans (b2.mono b1'.size); obtain ⟨⟨k0, kf⟩, k1, k2⟩ := HK.out _ b2'; obtain ⟨j1, j2⟩ := HE.out _ b2'; have HJ1 : Hid _ := j1; have HJ2 : Hid _ := j2; clear j1 j2; dsimp only))
  all_goals (
    go_wp2
    refine bodyPost_end (v := .tuple #[]) (by simp [results, Tryd.results84, go_sem]) rfl ?_
    exact ⟨rfl, HJ1.out, HJ2.out⟩)

end Go.Proofs.YtfdahfealibbnaaDoor
