/- Journals, impl: outsOk, txnOk, the journal's text, ShowTxn. Journals, impl: putAll into the journal, withSum, ShowTxn. Journals, impl: ShowTxn. -/
import Derived.Test.YtpijjinoeghgoaaGreatDoorRows
import Derived.Test.YtpijjinoeghgoaaGreatDoorQe
import Derived.Test.YtpijjinoeghgoaaGreatDoorVp
import Derived.Test.YtpijjinoeghgoaaGreatDoorMl
import Derived.Test.YtpijjinoeghgoaaGreatDoorMbt
import Derived.Deep.RegionLaw
import Derived.Deep.Cut
import Derived.Deep.CutRange
namespace Go.Proofs.YtpijjinoeghgoaaGreatDoor

section
open Go.RowKit Go.Sort

set_option maxRecDepth 100000 in
set_option maxHeartbeats 2000000 in
theorem outsOk_any (v : Value) (l : List Wr) (w : World) (hl : l.length ≤ 9223372036854775807) (hv : WrsAt w v l) :
    Calls Tryz.prog 94 #[v] w fun e w' => e = .returned (.bool (risB 0 l)) ∧ Below w.heap.size w w' := by
  obtain ⟨a, ca, rfl, -, ha⟩ := hv
  have HST : Hid (∀ k, k < l.length → risB (leastK l k) (l.drop k) = (decide (leastK l k ≤ l[k]!.block ∧ l[k]!.block ≤ 16 ∧ l[k]!.text.size ≤ 400) && risB (leastK l (k + 1)) (l.drop (k + 1)))) := fun k hk => ris_step hk
  have HEN : Hid (∀ n, risB n (l.drop l.length) = true) := fun n => ris_end l n
  have HLS : Hid (∀ k, leastK l (k + 1) = l[k]!.block + 1) := leastK_succ l
  obtain ⟨r, HR⟩ : ∃ r, Hid (r = risB 0 l) := ⟨_, rfl⟩
  obtain ⟨n, HN⟩ : ∃ n, Hid (n = l.length) := ⟨_, rfl⟩
  rw [← HN.out] at ha hl HST HEN ⊢
  rw [← HR.out]
  have HR0 : Hid (risB (leastK l 0) (l.drop 0) = r) := by show _ = _; rw [HR.out, leastK_zero]; rfl
  clear HR
  go_enter Tryz.func94, Tryz.ntmps94
  go_wp2
  go_loopw [3, 8] (fun ls i wr => ∃ (k : Nat) (L : Int), k ≤ n ∧ i = .int .i64 k ∧ ls = .int .i64 L ∧ Hid (L = leastK l k) ∧ (0 ≤ L ∧ L ≤ 17) ∧ Hid (risB (leastK l k) (l.drop k) = r) ∧ Below w.heap.size w wr) (fun _ i _ => n - (intOf i).toNat)
  case atStart => exact ⟨0, 0, Nat.zero_le _, rfl, rfl, rfl, ⟨by decide, by decide⟩, HR0, Below.refl _ _⟩
  case round =>
    obtain ⟨k, L, hk, rfl, rfl, HL, ⟨hL0, hL1⟩, HRK, hbel⟩ := hrel
    by_cases hlt : k < n
    · obtain ⟨b1, o1, rfl, hb1, hc1⟩ := ha k hlt
      have hc1 := hc1.below hb1 hbel
      have HS := HST.out k hlt
      have HSUC := HLS.out k
      rw [HRK.out, ← HL.out] at HS
      generalize l[k]! = y at hc1 HS HSUC
      obtain ⟨yb, yt⟩ := y
      have c0 := hc1.c0
      have c1 := hc1.c1
      dsimp only at c0 c1 HS HSUC
      have hkn : (k : Int) < (n : Int) := by omega
      have hk0 : (0 : Int) ≤ (k : Int) := by omega
      have BX := hbel.trans ((below_lit wr (.cells #[.int .i64 yb, .string yt] 42)).mono hbel.size)
      clear hc1 ha
      cases hin : inB yb L 16 with
      | false =>
        have hr : Hid (r = false) := by
          show _ = _
          rw [HS, decide_eq_false, Bool.false_and]
          intro h2
          rw [inB_mk h2.1 h2.2.1] at hin
          cases hin
        clear HS
        go_wp2_with (go_at_call 93; refine (btw_any _ _ _ _).mono ?_; rintro e w' ⟨rfl, rfl⟩)
        go_ret
        exact ⟨ret_bool hr.out.symm, BX⟩
      | true =>
        have hin2 := inB_le hin
        by_cases hsz : yt.size ≤ 400
        · have hf4 : ¬ ((400 : Int) < (yt.size : Int)) := by omega
          have HX : Hid (risB (leastK l (k + 1)) (l.drop (k + 1)) = r) := by
            show _ = _
            rw [decide_eq_true ⟨hin2.1, hin2.2, hsz⟩, Bool.true_and] at HS
            exact HS.symm
          have HL2 : Hid (yb + 1 = leastK l (k + 1)) := HSUC.symm
          have hwy : IntKind.i64.wrap (yb + 1) = yb + 1 := by rw [IntKind.wrap_i64]; omega
          clear HS hsz HSUC
          go_wp2_with (go_at_call 93; refine (btw_any _ _ _ _).mono ?_; rintro e w' ⟨rfl, rfl⟩)
          go_roundw
          case rel => exact ⟨k + 1, yb + 1, by omega, by go_num, by go_num, HL2, ⟨by omega, by omega⟩, HX, BX⟩
          case measure => simp [intOf]; omega
        · have hf4 : (400 : Int) < (yt.size : Int) := by omega
          have hr : Hid (r = false) := by
            show _ = _
            rw [HS, decide_eq_false (fun h2 => hsz h2.2.2), Bool.false_and]
          clear HS hsz
          go_wp2_with (go_at_call 93; refine (btw_any _ _ _ _).mono ?_; rintro e w' ⟨rfl, rfl⟩)
          go_ret
          exact ⟨ret_bool hr.out.symm, BX⟩
    · obtain rfl : k = n := by omega
      have hrr : Hid (r = true) := by show _ = _; rw [← HRK.out, HEN.out]
      go_wp2
      go_ret
      exact ⟨ret_bool hrr.out.symm, hbel⟩

set_option maxRecDepth 100000 in
set_option maxHeartbeats 2000000 in
theorem txnOk_any (v : Value) (t : Tx) (w : World) (hl : t.outs.length ≤ 9223372036854775807) (hv : TxnAt w v t) :
    Calls Tryz.prog 71 #[v] w fun e w' => e = .returned (.bool (txnB t)) ∧ Below w.heap.size w w' := by
  obtain ⟨s, rfl, hs⟩ := hv
  have HT : Hid (txnB t = (inB t.seq 1 1000000 && (inB t.outs.length 1 17 && risB 0 t.outs))) := rfl
  have HO := fun w' (b : Below w.heap.size w w') => outsOk_any s t.outs w' hl (hs.below b)
  obtain ⟨a, ca, rfl, -, -⟩ := hs
  generalize txnB t = r at HT ⊢
  generalize risB 0 t.outs = ro at HT HO
  generalize t.seq = sq at *
  generalize t.outs.length = n at *
  have B0 := below_lit w (.cells #[.int .i64 sq, .slice a n ca] 38)
  have S0 : (w.alloc (.cells #[.int .i64 sq, .slice a n ca] 38)).heap.size = w.heap.size + 1 := by simp
  have H1 := HO _ B0
  rw [S0] at H1
  cases h1 : inB sq 1 1000000 with
  | false =>
    have hr : Hid (r = false) := by show _ = _; rw [HT.out, h1]; rfl
    clear HT H1 HO
    go_enter Tryz.func71, Tryz.ntmps71
    go_wp2_with (go_at_call 93; refine (btw_any _ _ _ _).mono ?_; rintro e w' ⟨rfl, rfl⟩)
    go_ret
    exact ⟨ret_bool hr.out.symm, B0⟩
  | true =>
    cases h2 : inB n 1 17 with
    | false =>
      have hr : Hid (r = false) := by show _ = _; rw [HT.out, h1, h2]; rfl
      clear HT H1 HO
      go_enter Tryz.func71, Tryz.ntmps71
      go_wp2_with (go_at_call 93; refine (btw_any _ _ _ _).mono ?_; rintro e w' ⟨rfl, rfl⟩)
      go_ret
      exact ⟨ret_bool hr.out.symm, B0⟩
    | true =>
      have hr : Hid (r = ro) := by show _ = _; rw [HT.out, h1, h2]; rfl
      clear HT HO
      go_enter Tryz.func71, Tryz.ntmps71
      go_wp2_with (first
        | (go_at_call 93; refine (btw_any _ _ _ _).mono ?_; rintro e w' ⟨rfl, rfl⟩)
        | (go_at_call 94; refine H1.mono ?_; rintro e w1 ⟨rfl, b1⟩))
      go_ret
      rw [← S0] at b1
      exact ⟨ret_bool hr.out.symm, B0.trans (b1.mono (by omega))⟩

/-- the journal's text in block b -/
def JouSt (w : World) (b : Nat) (s : ByteArray) : Prop := w.heap[b]? = some (.cells #[.string s] 98)
theorem JouSt.lt {w : World} {b : Nat} {s : ByteArray} (h : JouSt w b s) : b < w.heap.size := lt_of_block h
theorem JouSt.below {w w' : World} {b : Nat} {s : ByteArray} (h : JouSt w b s) (hb : Below w.heap.size w w') : JouSt w' b s := (hb.block b h.lt).trans h

set_option maxRecDepth 100000 in
set_option maxHeartbeats 2000000 in
theorem jouPut_any (b : Nat) (s : ByteArray) (x : Wr) (w : World) (hs : s.size ≤ 100000) (hx : x.text.size ≤ 400) (h : JouSt w b s) :
    Calls Tryz.prog 176 #[.pointer (some ⟨b, 0, none⟩), .agg #[.int .i64 x.block, .string x.text]] w fun e w' => e = .returned (.tuple #[]) ∧ JouSt w' b (s ++ (varT x.block ++ pieceT x.text)) ∧ w.grownBy w' (some b) := by
  obtain ⟨xb, xt⟩ := x
  dsimp only at *
  have B0 := below_lit w (.cells #[.int .i64 xb, .string xt] 42)
  have hj := h.below B0
  have HB0 := (MapKept.heap_alloc w (.cells #[.int .i64 xb, .string xt] 42)).1
  have hlt := h.lt
  obtain ⟨W, HW⟩ : ∃ W, Hid (W = w.alloc (.cells #[.int .i64 xb, .string xt] 42)) := ⟨_, rfl⟩
  have hf : w.alloc (.cells #[.int .i64 xb, .string xt] 42) = W := HW.out.symm
  rw [hf] at B0 hj HB0
  have HV := fun w' => iVarT xb w'
  have HP := fun w' => iPiece xt w' (by omega)
  have z1 := varT_size xb
  have z2 := pieceT_size xt
  generalize varT xb = t1 at *
  generalize pieceT xt = t2 at *
  have q1 : ¬ 9223372036854775807 < t1.size + t2.size := by omega
  have q2 : ¬ 9223372036854775807 < s.size + (t1.size + t2.size) := by omega
  have HK : Hid (∀ w', Below W.heap.size W w' → (w'.cell? ⟨b, 0, none⟩ = some (.string s) ∧ w'.frozen? ⟨b, 0, none⟩ = false) ∧ w'.cell? ⟨w.heap.size, 0, none⟩ = some (.int .i64 xb) ∧ w'.cell? ⟨w.heap.size, 1, none⟩ = some (.string xt)) := fun w' hb => by
    have h1 := hj.below hb
    have h2 := (hb.block _ (lt_of_block HB0)).trans HB0
    exact ⟨⟨Joins.cell_of_block h1 0, Joins.unfrozen_of_block h1 0⟩, Joins.cell_of_block h2 0, Joins.cell_of_block h2 1⟩
  have HE : Hid (∀ w', Below W.heap.size W w' → JouSt (w'.setCell ⟨b, 0, none⟩ (.string (s ++ (t1 ++ t2)))) b (s ++ (t1 ++ t2)) ∧ w.grownBy (w'.setCell ⟨b, 0, none⟩ (.string (s ++ (t1 ++ t2)))) (some b)) := fun w' hb =>
    ⟨Joins.block_setCell (i := 0) (hj.below hb) _, gbr_trans (gbi_of_below (B0.trans (hb.mono B0.size))) (gbr_set _ _ _ _)⟩
  obtain ⟨⟨k0, kf⟩, k1, k2⟩ := HK.out W (Below.refl _ _)
  have hne : b ≠ w.heap.size := by omega
  clear HB0 hj h
  go_enter Tryz.func176, Tryz.ntmps176
  go_wp2_with fail
  go_region_law
    (first
    | (go_simp; go_at_call 72; refine (HV _).mono ?_; rintro e w1 ⟨rfl, b1⟩; have b1' := (Below.refl W.heap.size W).drew.trans b1; obtain ⟨⟨k0, kf⟩, k1, k2⟩ := HK.out _ b1'; dsimp only)
    | (go_simp; go_at_call 82; refine (HP _).mono ?_; rintro e w2 ⟨rfl, b2⟩; have b2' := b1'.trans (b2.mono b1'.size); obtain ⟨⟨k0, kf⟩, k1, k2⟩ := HK.out _ b2'; obtain ⟨j1, j2⟩ := HE.out _ b2'; have HJ1 : Hid _ := j1; have HJ2 : Hid _ := j2; clear j1 j2; dsimp only))
  all_goals (
    go_wp2
    refine bodyPost_end (v := .tuple #[]) (by simp [results, Tryz.results176, go_sem]) rfl ?_
    exact ⟨rfl, HJ1.out, HJ2.out⟩)
end

section
open Go.RowKit Go.Sort

theorem meth_jou (b : Nat) (w : World) : (method 204 99 (.pointer (some ⟨b, 0, none⟩)) "loop.example/g00773/impl.put").run Tryz.prog w = .ok (176, .pointer (some ⟨b, 0, none⟩)) w := by kernel_rfl

/-- a row of writes does not lie in the journal's block -/
theorem JouSt.apart {w : World} {b : Nat} {s : ByteArray} (h : JouSt w b s) {g o : Nat} {x : Wr} (hc : CellsW w g o x) : g ≠ b := by
  rintro rfl
  have h0 := hc.c0
  rw [Joins.cell_of_block h o] at h0
  cases o with
  | zero => simp at h0
  | succ o => simp at h0

set_option maxRecDepth 100000 in
set_option maxHeartbeats 2000000 in
theorem putJou_any (b : Nat) (s : ByteArray) (v : Value) (l : List Wr) (w : World) (hs : s.size ≤ 100) (hl : l.length ≤ 17) (hx : ∀ x ∈ l, x.text.size ≤ 400) (h : JouSt w b s) (hv : WrsAt w v l) :
    Calls Tryz.prog 20 #[.iface 99 (.pointer (some ⟨b, 0, none⟩)), v] w fun e w' => e = .returned (.tuple #[]) ∧ JouSt w' b (s ++ outsT l) ∧ w.grownBy w' (some b) := by
  obtain ⟨a, ca, rfl, -, ha⟩ := hv
  have HAP : Hid (∀ t, t < l.length → ∀ g o, CellsW w g o l[t]! → g ≠ b) := fun t _ g o hc => h.apart hc
  have HST : Hid (∀ k, k < l.length → (s ++ outsT (l.take k)) ++ (varT l[k]!.block ++ pieceT l[k]!.text) = s ++ outsT (l.take (k + 1))) := fun k hk => by
    rw [List.take_succ_eq_append_getElem hk, outsT_snoc, getElem!_pos l k hk, app_assoc]; rfl
  have HSZ : Hid (∀ k, (s ++ outsT (l.take k)).size ≤ 100000) := fun k => by
    have h1 := outsT_size (l.take k) fun x hx' => hx x (List.mem_of_mem_take hx')
    have h2 : (l.take k).length ≤ 17 := by rw [List.length_take]; omega
    rw [app_size]; omega
  have HX : Hid (∀ k, k < l.length → l[k]!.text.size ≤ 400) := fun k hk => hx _ (by rw [getElem!_pos l k hk]; exact List.getElem_mem hk)
  have HE : Hid (s ++ outsT (l.take l.length) = s ++ outsT l) := by show _ = _; rw [List.take_length]
  have H0 : Hid (s ++ outsT (l.take 0) = s) := by show _ = _; simp only [List.take_zero, outsT]; exact app_nil s
  obtain ⟨n, HN⟩ : ∃ n, Hid (n = l.length) := ⟨_, rfl⟩
  obtain ⟨r, HR⟩ : ∃ r, Hid (r = s ++ outsT l) := ⟨_, rfl⟩
  rw [← HR.out] at HE ⊢
  rw [← HN.out] at ha hl HAP HST HX HE ⊢
  have HM := meth_jou b
  go_enter Tryz.func20, Tryz.ntmps20
  go_wp2
  go_loopw [8] (fun i wr => ∃ k : Nat, k ≤ n ∧ i = .int .i64 k ∧ JouSt wr b (s ++ outsT (l.take k)) ∧ w.grownBy wr (some b)) (fun i _ => n - (intOf i).toNat)
  case atStart => exact ⟨0, Nat.zero_le _, rfl, by rw [H0.out]; exact h, ⟨rfl, rfl, rfl, Nat.le_refl _, fun _ _ _ => rfl⟩⟩
  case round =>
    obtain ⟨k, hk, rfl, hj, hg⟩ := hrel
    by_cases hlt : k < n
    · obtain ⟨b1, o1, rfl, hb1, hc1⟩ := ha k hlt
      have hne := HAP.out k hlt _ _ hc1
      have HS := HST.out k hlt
      have hz := HSZ.out k
      have hxs := HX.out k hlt
      have hblk := hg.block b1 hb1 (fun e => hne (Option.some.inj e))
      have c0 := (World.cell?_of_block (a := ⟨b1, o1 + k * 2, none⟩) hblk).trans hc1.c0
      have c1 := (World.cell?_of_block (a := ⟨b1, o1 + k * 2 + 1, none⟩) hblk).trans hc1.c1
      generalize l[k]! = y at c0 c1 HS hxs
      have BX := below_lit wr (.cells #[.int .i64 y.block, .string y.text] 42)
      have HP := jouPut_any b (s ++ outsT (l.take k)) y (wr.alloc (.cells #[.int .i64 y.block, .string y.text] 42)) hz hxs (hj.below BX)
      rw [HS] at HP
      have hgX := gbr_trans hg (gbi_of_below (r := some b) BX)
      obtain ⟨yb, yt⟩ := y
      dsimp only at *
      have hkn : (k : Int) < (n : Int) := by omega
      have hk0 : (0 : Int) ≤ (k : Int) := by omega
      have HGX : Hid _ := hgX
      clear hc1 ha HS hj BX hgX hblk
      go_wp2_with fail
      refine HP.mono ?_
      rintro e w2 ⟨rfl, hj2, hg2⟩
      go_wp2
      go_roundw
      case rel => exact ⟨k + 1, by omega, by go_num, hj2, gbr_trans HGX.out hg2⟩
      case measure => simp [intOf]; omega
    · obtain rfl : k = n := by omega
      rw [HE.out] at hj
      go_wp2
      refine bodyPost_end (v := .tuple #[]) (by simp [results, Tryz.results20, go_sem]) rfl ?_
      exact ⟨rfl, hj, hg⟩

theorem iFix4 (n : Int) (w : World) (h0 : 0 ≤ n) (h1 : n ≤ 4294967295) : Calls Tryz.prog 95 #[.int .i64 n, .int .i64 4] w fun e w' => e = .returned (.string ⟨(fixL 4 n).toArray⟩) ∧ Below w.heap.size w w' := iFixed_yes n 4 w (by decide) h0 (by omega)

theorem iCrcV (s : ByteArray) (hs : s.size ≤ 1048576) (w : World) (hC : CrcTab w) : Calls Tryz.prog 96 #[.string s] w fun e w' => e = .returned (.int .i64 (crcV s)) ∧ Below w.heap.size w w' := iCrc s hs w hC hC.pos

set_option maxRecDepth 100000 in
set_option maxHeartbeats 2000000 in
theorem withSum_any (s : ByteArray) (w : World) (hs : s.size ≤ 1000000) (hC : CrcTab w) :
    Calls Tryz.prog 73 #[.string s] w fun e w' => e = .returned (.string (sumT s)) ∧ Below w.heap.size w w' := by
  have H1 := iCrcV s (by omega) w hC
  have hcv := crcV_in s
  have HF := fun w' => iFix4 (crcV s) w' hcv.1 hcv.2
  have HSZ := sumT_size s
  have HR : Hid (sumT s = (⟨(fixL 4 (crcV s)).toArray⟩ : ByteArray) ++ s) := rfl
  rw [HR.out] at HSZ ⊢
  rw [app_size] at HSZ
  generalize crcV s = cv at *
  generalize (⟨(fixL 4 cv).toArray⟩ : ByteArray) = ft at *
  have hq : ¬ 9223372036854775807 < ft.size + s.size := by omega
  clear HR
  go_enter Tryz.func73, Tryz.ntmps73
  go_wp2_with (first
    | (go_at_call 96; refine H1.mono ?_; rintro e w1 ⟨rfl, b1⟩)
    | (go_at_call 95; refine (HF _).mono ?_; rintro e w2 ⟨rfl, b2⟩))
  go_ret
  exact ⟨rfl, b1.trans (b2.mono b1.size)⟩
end

section
open Go.RowKit Go.Sort

theorem bel_via {W X Y : World} (h : Below W.heap.size W X) (b : Below X.heap.size X Y) : Below W.heap.size W Y := h.trans (b.mono h.size)
theorem bel_al {W X : World} (h : Below W.heap.size W X) (o : Obj) : Below W.heap.size W (X.alloc o) := h.alloc h.size o
/-- the journal's new block, behind the calls -/
structure JouNew (W X Y : World) : Prop where
  hX : Below W.heap.size W X
  hY : Below (X.heap.size + 1) (X.alloc (.cells #[.string ⟨#[]⟩] 98)) Y
theorem JouNew.start {W X : World} (h : Below W.heap.size W X) : JouNew W X (X.alloc (.cells #[.string ⟨#[]⟩] 98)) := ⟨h, Below.refl _ _⟩
theorem JouNew.next {W X Y Y' : World} (h : JouNew W X Y) (b : Below Y.heap.size Y Y') : JouNew W X Y' := ⟨h.hX, h.hY.trans (b.mono (by have := h.hY.size; simp at this; omega))⟩
theorem JouNew.bel {W X Y : World} (h : JouNew W X Y) : Below W.heap.size W Y := by
  have h1 := bel_al h.hX (.cells #[.string ⟨#[]⟩] 98)
  exact h1.trans (h.hY.mono (by have := h.hX.size; omega))
theorem JouNew.blk {W X Y : World} (h : JouNew W X Y) : Y.heap[X.heap.size]? = some (.cells #[.string ⟨#[]⟩] 98) := (h.hY.block _ (by omega)).trans (MapKept.heap_alloc X _).1
theorem JouNew.cells {W X Y : World} (h : JouNew W X Y) : Y.cell? ⟨X.heap.size, 0, none⟩ = some (.string ⟨#[]⟩) ∧ Y.frozen? ⟨X.heap.size, 0, none⟩ = false := ⟨Joins.cell_of_block h.blk 0, Joins.unfrozen_of_block h.blk 0⟩
theorem JouNew.fin {W X Y : World} (h : JouNew W X Y) (s : ByteArray) : JouSt (Y.setCell ⟨X.heap.size, 0, none⟩ (.string s)) X.heap.size s ∧ W.heap.size ≤ X.heap.size ∧ Below W.heap.size W (Y.setCell ⟨X.heap.size, 0, none⟩ (.string s)) :=
  ⟨Joins.block_setCell (i := 0) h.blk _, h.hX.size, h.bel.setCell h.hX.size _⟩

theorem jou_alloc {W X : World} (h : Below W.heap.size W X) (s : ByteArray) : JouSt (X.alloc (.cells #[.string s] 98)) X.heap.size s ∧ W.heap.size ≤ X.heap.size ∧ Below W.heap.size W (X.alloc (.cells #[.string s] 98)) := ⟨(MapKept.heap_alloc X _).1, h.size, bel_al h _⟩

set_option maxRecDepth 100000 in
set_option maxHeartbeats 4000000 in
theorem iShowTxn (v : Value) (t : Tx) (w : World) (hl : t.outs.length ≤ 9223372036854775807) (hC : CrcTab w) (hv : TxnAt w v t) :
    Calls Tryz.prog 54 #[v] w fun e w' => e = .returned (.string (showN t)) ∧ Below w.heap.size w w' := by
  have HOK := fun w' (b : Below w.heap.size w w') => txnOk_any v t w' hl (hv.below b)
  obtain ⟨s, rfl, hs⟩ := hv
  have HS : ∀ w', Below w.heap.size w w' → WrsAt w' s t.outs := fun w' b => hs.below b
  obtain ⟨a, ca, rfl, -, -⟩ := hs
  cases htx : txnB t with
  | false =>
    have hr : Hid (showN t = ⟨#[]⟩) := showN_no htx
    rw [htx] at HOK
    generalize showN t = r at hr ⊢
    clear HS
    generalize t.seq = sq at *
    generalize t.outs.length = n at *
    have B0 := below_lit w (.cells #[.int .i64 sq, .slice a n ca] 38)
    have H1 := HOK _ B0
    have S0 : (w.alloc (.cells #[.int .i64 sq, .slice a n ca] 38)).heap.size = w.heap.size + 1 := by simp
    rw [S0] at H1
    go_enter Tryz.func54, Tryz.ntmps54
    go_wp2_with fail
    refine H1.mono ?_
    rintro e w1 ⟨rfl, b1⟩
    rw [← S0] at b1
    go_wp2
    go_ret
    exact ⟨by rw [hr.out]; rfl, B0.trans (b1.mono (by omega))⟩
  | true =>
    rw [htx] at HOK
    obtain ⟨h1, h2, h3⟩ := txnB_parts htx
    have hx := ris_at _ _ h3
    have hT0 : Hid ((⟨#[116]⟩ : ByteArray) ++ varT t.seq ++ varT t.outs.length = thdT t) := rfl
    have hts := thdT_size t
    have HPJ : Hid (∀ w' b, Below w.heap.size w w' → JouSt w' b (thdT t) → Calls Tryz.prog 20 #[.iface 99 (.pointer (some ⟨b, 0, none⟩)), .slice a t.outs.length ca] w' fun e w'' => e = .returned (.tuple #[]) ∧ JouSt w'' b (bodyT t) ∧ w'.grownBy w'' (some b)) := fun w' b hb hj => putJou_any b (thdT t) _ t.outs w' (by omega) h2.2 (fun x hx' => (hx x hx').2.2) hj (HS w' hb)
    have hbs : (bodyT t).size ≤ 8000 := by rw [← txT_all]; exact txT_size t (fun x hx' => (hx x hx').2.2) h2.2 _
    have HWS : Hid (∀ w', Below w.heap.size w w' → Calls Tryz.prog 73 #[.string (bodyT t)] w' fun e w'' => e = .returned (.string (sumT (bodyT t))) ∧ Below w'.heap.size w' w'') := fun w' b => withSum_any (bodyT t) w' (by omega) (hC.below b)
    have HE : Hid (showN t = cutT (sumT (bodyT t))) := showN_yes htx
    have HTL : ∀ (s : ByteArray) (w' : World), Calls Tryz.prog 51 #[.string s] w' fun e w'' => e = .returned (.bool (decide (4000 < s.size))) ∧ w' = w'' := fit_one
    obtain ⟨r, HR⟩ : ∃ r, Hid (r = showN t) := ⟨_, rfl⟩
    rw [← HR.out] at HE ⊢
    generalize sumT (bodyT t) = st at HWS HE
    generalize bodyT t = bt at HPJ HWS hbs
    generalize thdT t = th at hT0 HPJ hts
    clear htx h3 hx HS HR
    generalize t.seq = sq at *
    generalize t.outs.length = n at *
    have B0 := below_lit w (.cells #[.int .i64 sq, .slice a n ca] 38)
    have S0 : (w.alloc (.cells #[.int .i64 sq, .slice a n ca] 38)).heap.size = w.heap.size + 1 := by simp
    have HB0 : Hid ((w.alloc (.cells #[.int .i64 sq, .slice a n ca] 38)).heap[w.heap.size]? = some (.cells #[.int .i64 sq, .slice a n ca] 38)) := (MapKept.heap_alloc w _).1
    have H1 := HOK _ B0
    rw [S0] at H1
    go_enter Tryz.func54, Tryz.ntmps54
    go_wp2_with fail
    refine H1.mono ?_
    rintro e W ⟨rfl, b1⟩
    rw [← S0] at b1
    have HB1 : Hid (W.heap[w.heap.size]? = some (.cells #[.int .i64 sq, .slice a n ca] 38)) := (b1.block _ (by omega)).trans HB0.out
    have BW : Below w.heap.size w W := B0.trans (b1.mono (by omega))
    have HK : Hid (∀ w', Below W.heap.size W w' → w'.cell? ⟨w.heap.size, 0, none⟩ = some (.int .i64 sq) ∧ w'.cell? ⟨w.heap.size, 1, none⟩ = some (.slice a n ca)) := fun w' b => blk2 ((b.block _ (lt_of_block HB1.out)).trans HB1.out)
    obtain ⟨c0, c1⟩ := HK.out W (Below.refl _ _)
    have z1 := varT_size sq
    have z2 := varT_size n
    have q1 : ¬ 9223372036854775807 < 1 + (varT sq).size := by omega
    have q2 : ¬ 9223372036854775807 < 1 + (varT sq).size + (varT n).size := by omega
    have hw0 : w.heap.size < W.heap.size := lt_of_block HB1.out
    have hn0 : ¬ w.heap.size = W.heap.size := by omega
    have hn0' : ¬ W.heap.size = w.heap.size := by omega
    clear B0 S0 HB0 H1 HOK b1
    have bd0 : Below W.heap.size W W.drew := (Below.refl W.heap.size W).drew
    obtain ⟨e0, e1⟩ := HK.out _ (bel_al bd0 (.cells #[.string ⟨#[]⟩] 98))
    go_wp2
    go_cut [3] from 8 to 17 (fun jv wx => ∃ b, jv = .pointer (some ⟨b, 0, none⟩) ∧ Hid (JouSt wx b th ∧ W.heap.size ≤ b ∧ Below W.heap.size W wx))
    case first =>
      go_region_law
        (first
        | (have hbb := jn1; go_simp; go_at_call 72; refine (iVarT (n : Int) _).mono ?_; rintro e w2 ⟨rfl, b2⟩; have jn2 := jn1.next b2; obtain ⟨c0, c1⟩ := HK.out _ jn2.bel; have f0 : w2.cell? ⟨W.heap.size, 0, none⟩ = some (.string ⟨#[]⟩) := jn2.cells.1; have f1 : w2.frozen? ⟨W.heap.size, 0, none⟩ = false := jn2.cells.2; dsimp only)
        | (have hbb := b1'; go_simp; go_at_call 72; refine (iVarT (n : Int) _).mono ?_; rintro e w2 ⟨rfl, b2⟩; (first | (have jn2 := (JouNew.start b1').next b2; obtain ⟨c0, c1⟩ := HK.out _ jn2.bel; obtain ⟨f0, f1⟩ := jn2.cells) | (have b2' := bel_via b1' b2; obtain ⟨c0, c1⟩ := HK.out _ b2'; have jn2 := JouNew.start b2')); dsimp only)
        | (go_simp; go_at_call 72; refine (iVarT sq _).mono ?_; rintro e w1 ⟨rfl, b1⟩; (first | (have jn1 := (JouNew.start bd0).next b1; obtain ⟨c0, c1⟩ := HK.out _ jn1.bel) | (have b1' := bel_via bd0 b1; obtain ⟨c0, c1⟩ := HK.out _ b1'; obtain ⟨e0, e1⟩ := HK.out _ (bel_al b1' (.cells #[.string ⟨#[]⟩] 98)))); dsimp only))
      all_goals (try go_wp2)
      all_goals go_meet
      all_goals (
        rw [hT0.out]
        first | exact ⟨_, rfl, jn2.fin th⟩ | exact ⟨_, rfl, jou_alloc b2' th⟩)
    case rest =>
      obtain ⟨b, rfl, HJ⟩ := hcut
      obtain ⟨hj, hb, bc⟩ := HJ.out
      have BC : Below w.heap.size w wc := BW.trans (bc.mono BW.size)
      obtain ⟨x0, x1⟩ := HK.out wc bc
      have H2 := HPJ.out wc b BC hj
      have hbn : w.heap.size < b := by omega
      clear HK HPJ e0 e1 c0 c1 bd0 hj
      go_wp2_with fail
      refine H2.mono ?_
      rintro e w3 ⟨rfl, hj3, g3⟩
      have B3 : Below w.heap.size w w3 := BC.grown g3 BC.size (fun q hq => by cases hq; omega)
      have y0 : w3.cell? ⟨b, 0, none⟩ = some (.string bt) := Joins.cell_of_block hj3 0
      have H3 := HWS.out w3 B3
      clear H2 x0 x1
      go_wp2_with fail
      refine H3.mono ?_
      rintro e w4 ⟨rfl, b4⟩
      have H4 := HTL st w4
      by_cases hbig : 4000 < st.size
      · have hr : Hid (r = ⟨#[]⟩) := by show _ = _; rw [HE.out]; unfold cutT; rw [if_pos hbig]
        rw [decide_eq_true hbig] at H4
        clear HE
        go_wp2_with (go_at_call 51; refine H4.mono ?_; rintro e w5 ⟨rfl, rfl⟩)
        go_ret
        exact ⟨by rw [hr.out]; rfl, B3.trans (b4.mono B3.size)⟩
      · have hr : Hid (r = st) := by show _ = _; rw [HE.out]; unfold cutT; rw [if_neg hbig]
        rw [decide_eq_false hbig] at H4
        clear HE
        go_wp2_with (go_at_call 51; refine H4.mono ?_; rintro e w5 ⟨rfl, rfl⟩)
        go_ret
        exact ⟨by rw [hr.out]; rfl, B3.trans (b4.mono B3.size)⟩
end

end Go.Proofs.YtpijjinoeghgoaaGreatDoor
