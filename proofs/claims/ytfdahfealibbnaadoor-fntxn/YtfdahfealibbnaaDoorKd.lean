/- Draws of transactions: spec.DrawShowTxn, spec.DrawReadTxn (weak); laws.at. Journals: a text with one byte turned is not read. Pure. -/
import Derived.Test.YtfdahfealibbnaaDoorRows
import Derived.Test.YtfdahfealibbnaaDoorTxD
import Derived.Test.YtfdahfealibbnaaDoorDrS
import Derived.Test.YtfdahfealibbnaaDoorJnT
namespace Go.Proofs.YtfdahfealibbnaaDoor

section
open Go.RowKit Go.Sort

set_option maxRecDepth 100000 in
theorem atB_any (S : Src) (ok : S.ok) (j : Nat) (hj : j ≤ 100) :
    ∃ x : Int, 0 ≤ x ∧ x ≤ 255 ∧ ∀ w', Lies S w' → Calls Tryd.prog 17 #[.slice S.a S.len S.cap, .int .i64 j] w' fun e w'' => e = .returned (.int .i64 x) ∧ w' = w'' := by
  have hlen : S.len ≤ 1048576 := ok.1
  have hb := ok.2 j
  by_cases h : j < S.len
  · refine ⟨S.zs.getD j 0, hb.1, hb.2, fun w' hl' => ?_⟩
    obtain ⟨b, off, ha, hc1⟩ := hl' j h
    rw [ha]
    generalize S.zs.getD j 0 = x at hc1 hb ⊢
    have h' : (j : Int) < (S.len : Int) := by omega
    have h0 : (0 : Int) ≤ (j : Int) := by omega
    have hwx : IntKind.i64.wrap x = x := by rw [IntKind.wrap_i64]; omega
    go_enter Tryd.func17, Tryd.ntmps17
    go_wp2
    go_ret
    exact ⟨ret_int (by first | rfl | (simp; done) | (simp; omega)), rfl⟩
  · have hm : 0 ≤ ((j : Int) * 37 + (S.len : Int) * 11).tmod 256 ∧ ((j : Int) * 37 + (S.len : Int) * 11).tmod 256 ≤ 255 := by
      rw [Int.tmod_eq_emod_of_nonneg (by omega)]; omega
    refine ⟨((j : Int) * 37 + (S.len : Int) * 11).tmod 256, hm.1, hm.2, fun w' _ => ?_⟩
    have hjl : ¬ ((j : Int) < (S.len : Int)) := by omega
    have w1 : IntKind.i64.wrap ((j : Int) * 37) = (j : Int) * 37 := by rw [IntKind.wrap_i64]; omega
    have w2 : IntKind.i64.wrap ((S.len : Int) * 11) = (S.len : Int) * 11 := by rw [IntKind.wrap_i64]; omega
    have w3 : IntKind.i64.wrap ((j : Int) * 37 + (S.len : Int) * 11) = (j : Int) * 37 + (S.len : Int) * 11 := by rw [IntKind.wrap_i64]; omega
    generalize S.len = n at *
    go_enter Tryd.func17, Tryd.ntmps17
    go_wp2
    go_ret
    first
      | exact ⟨ret_int (by first | rfl | (simp; done) | (simp; omega)), rfl⟩
      | exact ⟨ret_int (by rw [w1, w2, w3]; rfl), rfl⟩

/-- what DrawShowTxn says -/
def SaysDx (w : World) (e : Ending) (w' : World) : Prop :=
  ∃ (sq : Int) (u : Value) (l : List Wr), e = .returned (.agg #[.int .i64 sq, u]) ∧ WrRow w' w.heap.size u l ∧ (l.length ≤ 10 ∧ ∀ x ∈ l, x.text.size ≤ 500) ∧ Below w.heap.size w w'

set_option maxRecDepth 100000 in
set_option maxHeartbeats 1000000 in
theorem drawShowTxn_any (S : Src) (ok : S.ok) (w : World) (hl : Lies S w) :
    Calls Tryd.prog 16 #[.slice S.a S.len S.cap] w fun e w' => SaysDx w e w' := by
  have B0 := below_lit w (.cells #[.int .i64 0, .slice none 0 0] 29)
  have hp0 := (MapKept.heap_alloc w (.cells #[.int .i64 0, .slice none 0 0] 29)).1
  obtain ⟨w0, HW0⟩ : ∃ w0, Hid (w0 = w.alloc (.cells #[.int .i64 0, .slice none 0 0] 29)) := ⟨_, rfl⟩
  have hf : w.alloc (.cells #[.int .i64 0, .slice none 0 0] 29) = w0 := HW0.out.symm
  rw [hf] at B0 hp0
  have z0 : w.heap.size < w0.heap.size := lt_of_block hp0
  go_enter Tryd.func16, Tryd.ntmps16
  go_wp2_with fail
  refine (new_any S ok w0 (hl.below B0)).mono ?_
  rintro e w1 ⟨rfl, c1, b1⟩
  have hp1 := (b1.block _ (by omega)).trans hp0
  have B1 := B0.trans (b1.mono B0.size)
  have z1 := lt_of_block hp1
  go_wp2_with fail
  refine (l9Txn_any S ok _ _ w1 c1).mono ?_
  rintro e w2 ⟨sq, u, l, s', rfl, r2, hk, c2, g2⟩
  have hp2 := (g2.block _ z1 (fun e => by have := Option.some.inj e; omega)).trans hp1
  have B2 : Below w.heap.size w w2 := B1.grown g2 B1.size (fun q hq => by cases hq; omega)
  obtain ⟨ua, uc, hu⟩ := row_slice r2
  subst hu
  have x0 := Joins.cell_of_block hp2 0
  have x1 := Joins.cell_of_block hp2 1
  have xf := fun i => Joins.unfrozen_of_block hp2 i
  dsimp at x0 x1
  have K1 : Hid (((w2.setCell ⟨w.heap.size, 0, none⟩ (.int .i64 sq)).setCell ⟨w.heap.size, 1, none⟩ (.slice ua l.length uc)).heap[w.heap.size]? = some (.cells #[.int .i64 sq, .slice ua l.length uc] 29 (0, 0))) := put2d _ _ hp2
  have K2 : Hid (SaysDx w (.returned (.agg #[.int .i64 sq, .slice ua l.length uc])) ((w2.setCell ⟨w.heap.size, 0, none⟩ (.int .i64 sq)).setCell ⟨w.heap.size, 1, none⟩ (.slice ua l.length uc))) :=
    ⟨sq, _, l, rfl, WrRow.mono (own_low (own_low r2 (g := w.heap.size) z1 _ _) (g := w.heap.size) z1 _ _) (by omega), hk, (B2.setCell (p := ⟨w.heap.size, 0, none⟩) (Nat.le_refl _) (.int .i64 sq)).setCell (p := ⟨w.heap.size, 1, none⟩) (Nat.le_refl _) (.slice ua l.length uc)⟩
  clear r2 c2 g2 hp2 B2
  go_wp2
  exact bodyPost_ret (results_txn Tryd.results16 _ _ w.heap.size _ rfl rfl K1.out) rfl K2.out

set_option maxRecDepth 100000 in
set_option maxHeartbeats 1000000 in
theorem drawReadTxn_any (S : Src) (ok : S.ok) (w : World) (hl : Lies S w) :
    Calls Tryd.prog 18 #[.slice S.a S.len S.cap] w fun e w' => ∃ v : ByteArray, e = .returned (.string v) ∧ Hid (v.size ≤ 6000) ∧ Below w.heap.size w w' := by
  go_enter Tryd.func18, Tryd.ntmps18
  go_wp2_with fail
  refine (new_any S ok w hl).mono ?_
  rintro e w1 ⟨rfl, c1, b1⟩
  go_wp2_with fail
  refine (l9Txn_any S ok _ _ w1 c1).mono ?_
  rintro e w2 ⟨sq, u, l, s2, rfl, r2, hk, c2, g2⟩
  have B2 : Below w.heap.size w w2 := b1.grown g2 b1.size (fun q hq => by cases hq; omega)
  go_wp2_with fail
  refine (sShowTxn _ ⟨sq, l⟩ w2 ⟨u, rfl, r2.at⟩).mono ?_
  rintro e w3 ⟨rfl, b3⟩
  have c3 := c2.below (b3.mono c2.size)
  have B3 := B2.trans (b3.mono B2.size)
  have hsz := showN_size ⟨sq, l⟩
  generalize showN ⟨sq, l⟩ = s at *
  clear r2 c2 g2 c1 b1 b3 B2 hk
  go_wp2_with fail
  refine (below_any S ok 4 _ s2 w3 c3).mono ?_
  rintro e w4 ⟨rfl, c4, g4⟩
  have B4 : Below w.heap.size w w4 := B3.grown g4 B3.size (fun q hq => by cases hq; omega)
  generalize bX S 4 s2 = k
  generalize bS S 4 s2 = s4 at c4
  clear c3 g4 B3
  have hss : s.size ≤ 5000 := by omega
  by_cases k0 : k = 0
  · have hk0 : (k == 0) = true := by rw [beq_iff_eq]; exact k0
    obtain ⟨v, hv, HV⟩ := spoilB_any S ok s hss s4
    have HVV := HV _ w4 c4
    have HVS : Hid (v.size ≤ 6000) := by show v.size ≤ 6000; omega
    clear HV k0
    go_wp2_with fail
    refine HVV.mono ?_
    rintro e w5 ⟨rfl, g5⟩
    go_wp2
    go_ret
    exact ⟨v, rfl, HVS, B4.grown g5 B4.size (fun q hq => by cases hq; omega)⟩
  · have hk0 : (k == 0) = false := by rw [beq_eq_false_iff_ne]; exact k0
    by_cases k1 : k = 1
    · have hk1 : (k == 1) = true := by rw [beq_iff_eq]; exact k1
      by_cases h4 : 4 < s.size
      · have h4' : (4 : Int) < (s.size : Int) := by omega
        have h4'' : 4 ≤ s.size := by omega
        obtain ⟨v, hv, HV⟩ := spoilB_any S ok (s.extract 4 s.size) (by rw [ByteArray.size_extract]; omega) s4
        have HVV := HV _ w4 c4
        have hcv := crcV_in v
        have HC := fun w' => sCrcV v (by omega) w'
        have HF := fun w' => sFix4 (crcV v) w' hcv.1 hcv.2
        have HSZ := sumT_size v
        have HR : Hid (sumT v = (⟨(fixL 4 (crcV v)).toArray⟩ : ByteArray) ++ v) := rfl
        rw [HR.out, app_size] at HSZ
        generalize crcV v = cv at *
        generalize (⟨(fixL 4 cv).toArray⟩ : ByteArray) = ft at *
        have hq : ¬ 9223372036854775807 < ft.size + v.size := by omega
        have HVS : Hid ((ft ++ v).size ≤ 6000) := by show _ ≤ 6000; rw [app_size]; omega
        clear HV k0 k1 HR
        go_wp2_with fail
        refine HVV.mono ?_
        rintro e w5 ⟨rfl, g5⟩
        have B5 : Below w.heap.size w w5 := B4.grown g5 B4.size (fun q hq => by cases hq; omega)
        go_wp2_with (first
          | (go_at_call 24; refine (HC _).mono ?_; rintro e w' ⟨rfl, rfl⟩)
          | (go_at_call 23; refine (HF _).mono ?_; rintro e w7 ⟨rfl, b7⟩))
        go_ret
        exact ⟨_, rfl, HVS, B5.trans (b7.mono B5.size)⟩
      · have h4' : ¬ ((4 : Int) < (s.size : Int)) := by omega
        have HVS : Hid (s.size ≤ 6000) := by show s.size ≤ 6000; omega
        clear k0 k1
        go_wp2
        go_ret
        exact ⟨s, rfl, HVS, B4⟩
    · have hk1 : (k == 1) = false := by rw [beq_eq_false_iff_ne]; exact k1
      have HVS : Hid (s.size ≤ 6000) := by show s.size ≤ 6000; omega
      clear k0 k1
      go_wp2
      go_ret
      exact ⟨s, rfl, HVS, B4⟩
end

section
open Go.RowKit

theorem half_bit {c : Nat} (h : c < 4294967296) : (c / 2).testBit 31 = false := Nat.testBit_lt_two_pow (by omega)
theorem hv_odd {c : Nat} (h : c < 4294967296) : (hv c).testBit 31 = decide (c % 2 = 1) := by
  unfold hv
  by_cases e : c % 2 = 1
  · rw [if_pos e, Nat.testBit_xor, half_bit h, decide_eq_true e]; decide
  · rw [if_neg e, half_bit h, decide_eq_false e]
theorem hv_inj {a b : Nat} (ha : a < 4294967296) (hb : b < 4294967296) (h : hv a = hv b) : a = b := by
  have h1 := hv_odd ha
  rw [h, hv_odd hb] at h1
  have hp : (a % 2 = 1) ↔ (b % 2 = 1) := by
    have := decide_eq_decide.1 h1
    exact this.symm
  unfold hv at h
  by_cases e : a % 2 = 1
  · have e2 := hp.1 e
    rw [if_pos e, if_pos e2] at h
    have h2 : a / 2 = b / 2 := by
      have := congrArg (· ^^^ 2197175160) h
      simpa [Nat.xor_assoc] using this
    omega
  · have e2 : ¬ b % 2 = 1 := fun x => e (hp.2 x)
    rw [if_neg e, if_neg e2] at h
    omega
theorem hvN_inj : ∀ (k : Nat) {a b : Nat}, a < 4294967296 → b < 4294967296 → hvN k a = hvN k b → a = b
  | 0, a, b, _, _, h => h
  | k + 1, a, b, ha, hb, h => by
    have e1 : hvN (k + 1) a = hvN 1 (hvN k a) := by rw [Nat.add_comm]; exact hvN_add 1 k a
    have e2 : hvN (k + 1) b = hvN 1 (hvN k b) := by rw [Nat.add_comm]; exact hvN_add 1 k b
    rw [e1, e2] at h
    have h1 : hv (hvN k a) = hv (hvN k b) := h
    exact hvN_inj k ha hb (hv_inj (hvN_lt k a ha) (hvN_lt k b hb) h1)
theorem crcN_same {s t : ByteArray} : ∀ (n : Nat), (∀ i, i < n → s.data.getD i 0 = t.data.getD i 0) → crcN s n = crcN t n
  | 0, _ => rfl
  | n + 1, h => by rw [crcN, crcN, crcN_same n fun i hi => h i (by omega), h n (by omega)]
theorem xor_cancel {c a b : Nat} (h : c ^^^ a = c ^^^ b) : a = b := by
  have := congrArg (c ^^^ ·) h
  simpa [← Nat.xor_assoc] using this
theorem xor_cancel_right {c d a : Nat} (h : c ^^^ a = d ^^^ a) : c = d := by
  have := congrArg (· ^^^ a) h
  simpa [Nat.xor_assoc] using this
theorem crcN_turned {s t : ByteArray} {k : Nat} (hk : s.data.getD k 0 ≠ t.data.getD k 0) (h : ∀ i, i ≠ k → s.data.getD i 0 = t.data.getD i 0) : ∀ n, k < n → crcN s n ≠ crcN t n
  | 0, h0 => by omega
  | n + 1, hn => by
    rw [crcN, crcN]
    intro e
    have e2 := hvN_inj 8 (xor_byte_lt _ _ (crcN_lt s n) (byte_lt _)) (xor_byte_lt _ _ (crcN_lt t n) (byte_lt _)) e
    by_cases hkn : k = n
    · subst hkn
      rw [crcN_same k fun i hi => h i (by omega)] at e2
      have := xor_cancel e2
      exact hk (UInt8.toNat_inj.1 this)
    · rw [h n (fun e => hkn e.symm)] at e2
      exact crcN_turned hk h n (by omega) (xor_cancel_right e2)
theorem ofNat_inj {a b : Nat} (ha : a < 256) (hb : b < 256) (h : UInt8.ofNat a = UInt8.ofNat b) : a = b := by
  have := congrArg UInt8.toNat h
  simpa [UInt8.toNat_ofNat', Nat.mod_eq_of_lt ha, Nat.mod_eq_of_lt hb] using this
theorem fix4_inj {m n : Int} (hm0 : 0 ≤ m) (hm1 : m ≤ 4294967295) (hn0 : 0 ≤ n) (hn1 : n ≤ 4294967295) (h : fixL 4 m = fixL 4 n) : m = n := by
  unfold fixL at h
  rw [if_pos (by omega), if_pos (by omega)] at h
  simp only [beB, List.cons.injEq, and_true] at h
  obtain ⟨h3, h2, h1, h0⟩ := h
  have k3 := ofNat_inj (by omega) (by omega) h3
  have k2 := ofNat_inj (by omega) (by omega) h2
  have k1 := ofNat_inj (by omega) (by omega) h1
  have k0 := ofNat_inj (by omega) (by omega) h0
  simp only [Int.pow_zero, Int.ediv_one, show (256 : Int) ^ 1 = 256 from rfl, show (256 : Int) ^ 2 = 65536 from rfl, show (256 : Int) ^ 3 = 16777216 from rfl] at k3 k2 k1 k0
  omega
theorem bytes_getD (s : ByteArray) (i : Nat) : s.data.getD i 0 = s.data.toList.getD i 0 := by simp [Array.getD_eq_getD_getElem?, List.getD_eq_getElem?_getD]
/-- s with the byte at place k turned to y -/
def turnT (s : ByteArray) (k : Nat) (y : UInt8) : ByteArray := s.extract 0 k ++ (⟨#[y]⟩ : ByteArray) ++ s.extract (k + 1) s.size
theorem turnT_list (s : ByteArray) (k : Nat) (y : UInt8) (hk : k < s.size) : (turnT s k y).data.toList = s.data.toList.set k y := by
  have hl : k < s.data.toList.length := by rw [size_list]; exact hk
  have e1 : (s.extract 0 k).data.toList = s.data.toList.take k := by simp
  have e2 : (s.extract (k + 1) s.size).data.toList = s.data.toList.drop (k + 1) := by
    simp only [ByteArray.data_extract, Array.toList_extract, List.extract_eq_take_drop]
    rw [← size_list s]
    exact List.take_of_length_le (by simp)
  unfold turnT
  rw [app_list, app_list, e1, e2, List.set_eq_take_append_cons_drop, if_pos hl]
  simp
theorem turnT_size (s : ByteArray) (k : Nat) (y : UInt8) (hk : k < s.size) : (turnT s k y).size = s.size := by
  rw [← size_list, turnT_list s k y hk, List.length_set, size_list]
theorem turned_none {t : Tx} {s : ByteArray} (h : showN t = s) (hs : 0 < s.size) {k : Nat} (hk : k < s.size) {y : UInt8} (hy : y ≠ s.data.toList[k]!) : readT (turnT s k y) = none := by
  cases hr : readT (turnT s k y) with
  | none => rfl
  | some t2 =>
    exfalso
    obtain ⟨h2, hs2, -⟩ := readT_is hr
    obtain ⟨-, k1, -⟩ := showN_back h hs
    obtain ⟨-, k2, -⟩ := showN_back h2 hs2
    have hl := turnT_list s k y hk
    rw [← k2, sumT_list, ← k1, sumT_list] at hl
    rw [← k1, sumT_list] at hy
    have hks : k < (fixL 4 (crcV (bodyT t)) ++ (bodyT t).data.toList).length := by
      rw [← sumT_list, size_list, k1]; exact hk
    generalize hB : bodyT t = B at *
    generalize hB2 : bodyT t2 = B2 at *
    have f1 := fix4_len (crcV B) (crcV_in B).1 (crcV_in B).2
    have f2 := fix4_len (crcV B2) (crcV_in B2).1 (crcV_in B2).2
    by_cases h4 : k < 4
    · rw [List.set_append_left _ _ (by omega)] at hl
      obtain ⟨e1, e2⟩ := List.append_inj hl (by rw [List.length_set, f1, f2])
      have eB : B2 = B := list_ext e2
      rw [eB] at e1
      have := congrArg (fun z => z[k]!) e1
      rw [getElem!_pos _ k (by omega), getElem!_pos _ k (by rw [List.length_set]; omega), List.getElem_set_self] at this
      apply hy
      rw [getElem!_pos _ k hks, List.getElem_append_left (by omega), ← this]
    · rw [List.set_append_right _ _ (by omega), f1] at hl
      obtain ⟨e1, e2⟩ := List.append_inj hl (by rw [f1, f2])
      have ec := fix4_inj (crcV_in B2).1 (crcV_in B2).2 (crcV_in B).1 (crcV_in B).2 e1
      have hlB : k - 4 < B.data.toList.length := by rw [List.length_append, f1] at hks; omega
      have hsz : B2.size = B.size := by rw [← size_list, e2, List.length_set, size_list]
      have hne : B.data.getD (k - 4) 0 ≠ B2.data.getD (k - 4) 0 := by
        rw [bytes_getD, bytes_getD, e2, List.getD_eq_getElem?_getD, List.getD_eq_getElem?_getD, List.getElem?_set_self hlB, List.getElem?_eq_getElem hlB]
        simp only [Option.getD_some]
        intro e
        apply hy
        rw [getElem!_pos _ k hks, List.getElem_append_right (by omega)]
        simp only [f1]
        exact e.symm
      have hoth : ∀ i, i ≠ k - 4 → B.data.getD i 0 = B2.data.getD i 0 := fun i hi => by
        rw [bytes_getD, bytes_getD, e2, List.getD_eq_getElem?_getD, List.getD_eq_getElem?_getD, List.getElem?_set_ne (fun e => hi e.symm)]
      have hcr := crcN_turned hne hoth B.size (by rw [← size_list]; exact hlB)
      unfold crcV at ec
      rw [hsz] at ec
      have := crcN_lt B B.size
      have := crcN_lt B2 B.size
      omega
end

end Go.Proofs.YtfdahfealibbnaaDoor
