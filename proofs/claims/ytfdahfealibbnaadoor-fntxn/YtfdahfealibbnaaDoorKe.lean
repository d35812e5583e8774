/- Journals: laws.FnTxn: the walk. Journals: laws.FnTxn: the walk. -/
import Derived.Test.YtfdahfealibbnaaDoorRows
import Derived.Test.YtfdahfealibbnaaDoorKd
import Derived.Test.YtfdahfealibbnaaDoorKc
import Derived.Deep.Cut
import Derived.Deep.CutRange
namespace Go.Proofs.YtfdahfealibbnaaDoor

section
open Go.RowKit Go.Sort

theorem bytes_injW {a b : ByteArray} (h : a.toList = b.toList) : a = b := list_ext (by simpa [ByteArray.toList_eq] using h)

set_option maxRecDepth 100000 in
theorem neW (b : Int) (t : ByteArray) (w : World) : (binOp .neq 43 (.agg #[.int .i64 b, .string t]) (.agg #[.int .i64 b, .string t])).run Tryd.prog w = .ok (.bool false) w := by
  have u3 := Tryd.underlying3
  have a3 := Tryd.isAgg3
  have z3 := Tryd.sizeOf3
  have u9 := Tryd.underlying9
  have a9 := Tryd.isAgg9
  have z9 := Tryd.sizeOf9
  have hS : Tryd.prog.underlying 43 = some (.struct (Tryd.prog.fieldsOf 43)) := by kernel_rfl
  have hp : Tryd.prog.stoodInHeld 43 = false := by kernel_rfl
  rw [run_neq_struct, show (10000 : Nat) = 9999 + 1 from rfl, run_equalIn_agg w 9999 43 _ _ hS hp]
  simp only [Program.fieldsOf, Tryd.underlying43]
  go_simp

/-- the turned byte is another one -/
theorem xor_other (c : UInt8) (m : Int) (h0 : 1 ≤ m) (h1 : m ≤ 255) : ∃ y : UInt8, y ≠ c ∧ IntKind.u8.wrap (bits .xor .i64 (c.toNat : Int) m) = (y.toNat : Int) := by
  obtain ⟨n, rfl⟩ : ∃ n : Nat, m = (n : Int) := ⟨m.toNat, by omega⟩
  have hc := c.toNat_lt
  rw [xor_i64 c.toNat n (by omega) (by omega)]
  have hlt : c.toNat ^^^ n < 256 := Nat.xor_lt_two_pow (n := 8) (by omega) (by omega)
  refine ⟨UInt8.ofNat (c.toNat ^^^ n), fun e => ?_, ?_⟩
  · have e1 := congrArg UInt8.toNat e
    rw [UInt8.toNat_ofNat', Nat.mod_eq_of_lt hlt] at e1
    have e2 : c.toNat ^^^ n = c.toNat ^^^ 0 := by rw [e1, Nat.xor_zero]
    have := xor_cancel e2
    omega
  · rw [UInt8.toNat_ofNat', Nat.mod_eq_of_lt hlt, IntKind.wrap_u8]; omega
theorem nonempty_toList {s : ByteArray} : s.toList = [] ↔ s.size = 0 := by
  rw [ByteArray.toList_eq, ← size_list, List.length_eq_zero_iff]
end

section
open Go.RowKit Go.Sort

/-- a world behind those that were, with blocks of its own alone -/
theorem bel_dr {W X : World} {n : Nat} (h : Below n W X) : Below n W X.drew := h.drew
theorem bel_an {W X : World} {n : Nat} (h : Below n W X) (hn : n ≤ W.heap.size) (o : Obj) : Below n W (X.alloc o) := h.alloc (Nat.le_trans hn h.size) o

theorem hpA2 (W : World) (o o' : Obj) : ((W.alloc o).alloc o').heap[W.heap.size]? = some o := by rw [(MapKept.heap_alloc _ _).2 _ (by simp), (MapKept.heap_alloc _ _).1]
theorem hpA2' (W : World) (o o' : Obj) : ((W.alloc o).alloc o').heap[W.heap.size + 1]? = some o' := by
  have := (MapKept.heap_alloc (W.alloc o) o').1
  rwa [show (W.alloc o).heap.size = W.heap.size + 1 by simp] at this
/-- 'string([]byte{x})', a block being made between -/
theorem one_stringC {P : Program} (w : World) {E S T : TypeId} (o : Obj) (x : Int) (h0 : 0 ≤ x) (h1 : x < 256)
    (hS : P.underlying S = some (.slice E)) (hE : P.underlying E = some (.int .u8)) (hT : P.underlying T = some .string) :
    (convert S T (.slice (some ⟨w.heap.size, 0, none⟩) 1 1)).run P ((w.alloc (.cells #[.int .u8 x] E)).alloc o) = .ok (.string ⟨#[UInt8.ofNat x.toNat]⟩) ((w.alloc (.cells #[.int .u8 x] E)).alloc o) := by
  have h := run_convert_bytes_back (P := P) ((w.alloc (.cells #[.int .u8 x] E)).alloc o) S T E ⟨w.heap.size, 0, none⟩ 1 [UInt8.ofNat x.toNat] hS hE hT (fun j hj => by
    have hj0 : j = 0 := by simp at hj; omega
    subst hj0
    rw [Addr.add_lit, Nat.zero_add, Joins.cell_of_block (hpA2 w _ _) 0]
    simp
    omega)
  simpa using h

set_option maxRecDepth 100000 in
set_option maxHeartbeats 4000000 in
theorem txn_walk (S : Src) (ok : S.ok) (T : TypeId) (x : Value) (w : World) (hC : CrcTab w) (hE : ErrV w T x) (hl : Lies S w) :
    Calls Tryd.prog 5 #[.slice S.a S.len S.cap] w fun e w' => e = .returned (.bool true) ∧ Below w.heap.size w w' := by
  have hlen : S.len ≤ 1048576 := ok.1
  have HDR := drawShowTxn_any S ok w hl
  have HL : Hid (∀ w', Below w.heap.size w w' → Lies S w') := fun w' b => hl.below b
  have HRD : Hid (∀ (s : ByteArray) w', s.size ≤ 1048576 → Below w.heap.size w w' → Calls Tryd.prog 12 #[.string s] w' fun e w'' => SaysR (readT s) w' e w'') := fun s w' h b => iReadTxn s T x w' (hC.below b) (hE.below b) h
  have HSW : Hid (∀ (t : Tx) u w', t.outs.length ≤ 100 → WrsAt w' u t.outs → Below w.heap.size w w' → Calls Tryd.prog 9 #[.agg #[.int .i64 t.seq, u]] w' fun e w'' => e = .returned (.string (showN t)) ∧ Below w'.heap.size w' w'') := fun t u w' h1 h2 b => iShowTxn _ t w' (by omega) (hC.below b) ⟨u, rfl, h2⟩
  have HDD : Hid (∀ w', Below w.heap.size w w' → Calls Tryd.prog 18 #[.slice S.a S.len S.cap] w' fun e w'' => ∃ v : ByteArray, e = .returned (.string v) ∧ Hid (v.size ≤ 6000) ∧ Below w'.heap.size w' w'') := fun w' b => drawReadTxn_any S ok w' (hl.below b)
  obtain ⟨a0, ha00, ha01, HA0⟩ := atB_any S ok 0 (by decide)
  have HA0 : Hid (∀ w', Lies S w' → Calls Tryd.prog 17 #[.slice S.a S.len S.cap, .int .i64 0] w' fun e w'' => e = .returned (.int .i64 a0) ∧ w' = w'') := HA0
  obtain ⟨a1, ha10, ha11, HA1⟩ := atB_any S ok 1 (by decide)
  have HA1 : Hid (∀ w', Lies S w' → Calls Tryd.prog 17 #[.slice S.a S.len S.cap, .int .i64 1] w' fun e w'' => e = .returned (.int .i64 a1) ∧ w' = w'') := HA1
  obtain ⟨a2, ha20, ha21, HA2⟩ := atB_any S ok 2 (by decide)
  have HA2 : Hid (∀ w', Lies S w' → Calls Tryd.prog 17 #[.slice S.a S.len S.cap, .int .i64 2] w' fun e w'' => e = .returned (.int .i64 a2) ∧ w' = w'') := HA2
  clear hC hE
  go_enter Tryd.func5, Tryd.ntmps5
  go_wp2_with (first | (go_at_call 15; go_in))
  refine HDR.mono ?_
  rintro _ w1 ⟨sq, u, l, rfl, r1, ⟨hl10, -⟩, b1⟩
  obtain ⟨ta, tn, tc, rfl⟩ := wr_slice r1
  have BL1 := below_lit w1 (.cells #[.int .i64 sq, .slice ta tn tc] 29)
  have B1 := b1.trans (BL1.mono b1.size)
  have tv1 : VarT w1.heap.size sq (.slice ta tn tc) w.heap.size l (w1.alloc (.cells #[.int .i64 sq, .slice ta tn tc] 29)) := VarT.new r1
  have hs1 : (w1.alloc (.cells #[.int .i64 sq, .slice ta tn tc] 29)).heap.size = w1.heap.size + 1 := by simp
  have HS1 := HSW.out ⟨sq, l⟩ (.slice ta tn tc) _ (by dsimp only; omega) tv1.r.at B1
  rw [hs1] at HS1
  have hss := showN_size ⟨sq, l⟩
  have HSP : Hid (∀ u' w', WrsAt w' u' l → Calls Tryd.prog 7 #[.agg #[.int .i64 sq, u']] w' fun e w'' => e = .returned (.string (showN ⟨sq, l⟩)) ∧ Below w'.heap.size w' w'') := fun u' w' h => sShowTxn _ ⟨sq, l⟩ w' ⟨u', rfl, h⟩
  have HRT : Hid (0 < (showN ⟨sq, l⟩).size → readT (showN ⟨sq, l⟩) = some ⟨sq, l⟩) := fun h => readT_show rfl h
  have HTN : Hid (∀ (k : Nat) (y : UInt8), k < (showN ⟨sq, l⟩).size → y ≠ (showN ⟨sq, l⟩).data.toList[k]! → readT (turnT (showN ⟨sq, l⟩) k y) = none) := fun k y hk hy => turned_none rfl (by omega) hk hy
  generalize showN ⟨sq, l⟩ = st at *
  have z1 := b1.size
  clear HDR r1 b1 BL1 hl
  go_wp2_with fail
  refine HS1.mono ?_
  rintro e w2 ⟨rfl, b2⟩
  rw [← hs1] at b2
  have B2 := B1.trans (b2.mono B1.size)
  have tv2 := tv1.below b2
  have HR2 := HRD.out st w2 (by omega) B2
  have z2 := lt_of_block tv2.hp
  clear tv1 HS1 b2 hs1 B1
  by_cases hemp : st.size = 0
  · have hno : readT st = none := by
      cases h : readT st with
      | none => rfl
      | some t => have := (readT_is h).2.1; omega
    rw [hno] at HR2
    have f1 : st.toList = [] := nonempty_toList.2 hemp
    have f2 : (st.toList == []) = true := by rw [f1]; rfl
    go_wp2_with fail
    refine HR2.mono ?_
    rintro e w3 h3
    rcases h3 with ⟨t, u', h, -⟩ | ⟨-, rfl, b3⟩
    · cases h
    · have BL3 := below_lit w3 (.cells #[.int .i64 0, .slice none 0 0] 29)
      have B3 := (B2.trans (b3.mono B2.size)).trans (BL3.mono (Nat.le_trans B2.size b3.size))
      have tv3 := (tv2.below b3).below BL3
      obtain ⟨x0, x1⟩ := tv3.cells
      have HP3 := HSP.out _ _ tv3.r.at
      rw [show (w3.alloc (.cells #[.int .i64 0, .slice none 0 0] 29)).heap.size = w3.heap.size + 1 by simp] at HP3
      have hs3 : (w3.alloc (.cells #[.int .i64 0, .slice none 0 0] 29)).heap.size = w3.heap.size + 1 := by simp
      clear HR2 tv2 b3 BL3 hemp hno
      go_wp2_with fail
      refine HP3.mono ?_
      rintro e w4 ⟨rfl, b4⟩
      rw [← hs3] at b4
      clear HP3 x0 x1 tv3
      go_wp2
      go_ret
      exact ⟨ret_bool (by first | rfl | (rw [f1]; rfl) | simp [f1]), B3.trans (b4.mono B3.size)⟩
  · have hpos : 0 < st.size := by omega
    rw [HRT.out hpos] at HR2
    have f1 : ¬ st.toList = [] := fun h => hemp (nonempty_toList.1 h)
    have f2 : (st.toList == []) = false := by rw [beq_eq_false_iff_ne]; exact f1
    go_wp2_with fail
    refine HR2.mono ?_
    rintro e w3 h3
    rcases h3 with ⟨t, u', h, rfl, r3, b3⟩ | ⟨h, -⟩
    · cases h
      dsimp only at r3 ⊢
      obtain ⟨xa, xn, xc, rfl⟩ := wr_slice r3
      have BL3 := below_lit w3 (.cells #[.int .i64 sq, .slice xa xn xc] 29)
      have B3 := (B2.trans (b3.mono B2.size)).trans (BL3.mono (Nat.le_trans B2.size b3.size))
      have tv3 := (tv2.below b3).below BL3
      have xv3 : VarT w3.heap.size sq (.slice xa xn xc) w2.heap.size l (w3.alloc (.cells #[.int .i64 sq, .slice xa xn xc] 29)) := VarT.new r3
      have hs3 : (w3.alloc (.cells #[.int .i64 sq, .slice xa xn xc] 29)).heap.size = w3.heap.size + 1 := by simp
      obtain ⟨x0, x1⟩ := tv3.cells
      have HP3 := HSP.out _ _ tv3.r.at
      rw [hs3] at HP3
      clear HR2 tv2 b3 BL3 hemp r3 HRT
      go_wp2_with fail
      refine HP3.mono ?_
      rintro e w4 ⟨rfl, b4⟩
      rw [← hs3] at b4
      have B4 := B3.trans (b4.mono B3.size)
      have tv4 := tv3.below b4
      have xv4 := xv3.below b4
      have hz : ((st.size : Int) == 0) = false := by rw [beq_eq_false_iff_ne]; omega
      have hwa : IntKind.i64.wrap (a0 * 256) = a0 * 256 := by rw [IntKind.wrap_i64]; omega
      have hwb : IntKind.i64.wrap (a0 * 256 + a1) = a0 * 256 + a1 := by rw [IntKind.wrap_i64]; omega
      obtain ⟨k, hk⟩ : ∃ k : Nat, (a0 * 256 + a1).tmod (st.size : Int) = (k : Int) := ⟨((a0 * 256 + a1).tmod (st.size : Int)).toNat, by
        have : 0 ≤ (a0 * 256 + a1).tmod (st.size : Int) := Int.tmod_nonneg _ (by omega)
        omega⟩
      have hks : k < st.size := by
        have := Int.tmod_lt_of_pos (a0 * 256 + a1) (b := (st.size : Int)) (by omega)
        omega
      have hL4 := HL.out w4 B4
      have HTV : Hid (VarT w1.heap.size sq (.slice ta tn tc) w.heap.size l w4) := tv4
      have HXV : Hid (VarT w3.heap.size sq (.slice xa xn xc) w2.heap.size l w4) := xv4
      clear HP3 x0 x1 tv3 xv3 tv4 xv4 B3 b4 hs3
      go_wp2_with fail
      refine (HA0.out _ hL4).mono ?_
      rintro e w' ⟨rfl, rfl⟩
      go_wp2_with fail
      refine (HA1.out _ hL4).mono ?_
      rintro e w' ⟨rfl, rfl⟩
      go_wp2
      obtain ⟨q, hq⟩ : ∃ q : Int, a2.tmod 255 = q := ⟨_, rfl⟩
      have hq01 : 0 ≤ q ∧ q < 255 := by
        rw [← hq]
        exact ⟨Int.tmod_nonneg _ ha20, Int.tmod_lt_of_pos _ (by decide)⟩
      have hw0 : IntKind.i64.wrap (st[k].toNat : Int) = (st[k].toNat : Int) := by have := st[k].toNat_lt; rw [IntKind.wrap_i64]; omega
      have hw1 : IntKind.i64.wrap (1 + q) = 1 + q := by rw [IntKind.wrap_i64]; omega
      have hw2 : IntKind.i64.wrap ((k : Int) + 1) = (k : Int) + 1 := by rw [IntKind.wrap_i64]; omega
      have hk1 : (k : Int) + 1 ≤ (st.size : Int) := by omega
      have hk2 : k + 1 ≤ st.size := by omega
      have hk3 : (0 : Int) ≤ (k : Int) + 1 := by omega
      have hk5 : k ≤ st.size := by omega
      have hk6 : ¬ 9223372036854775807 < k + 1 := by omega
      have hk7 : ¬ 9223372036854775807 < st.size := by omega
      have hk4 : ((k : Int) + 1).toNat = k + 1 := by omega
      obtain ⟨y, hyn, hyw⟩ := xor_other st[k] (1 + q) (by omega) (by omega)
      obtain ⟨yi, hyi⟩ : ∃ yi : Int, yi = (y.toNat : Int) := ⟨_, rfl⟩
      rw [← hyi] at hyw
      have hy0 : 0 ≤ yi := by omega
      have hy1 : yi < 256 := by have := y.toNat_lt; omega
      have hxs : (⟨#[UInt8.ofNat yi.toNat]⟩ : ByteArray).size = 1 := rfl
      have hyy : UInt8.ofNat yi.toNat = y := by rw [hyi]; simp
      have hst : st.data.toList[k]! = st[k] := by
        rw [getElem!_pos _ k (by rw [size_list]; exact hks)]; rfl
      have HRX : Hid (∀ w', Below w.heap.size w w' → Calls Tryd.prog 12 #[.string (st.extract 0 k ++ (⟨#[UInt8.ofNat yi.toNat]⟩ : ByteArray) ++ st.extract (k + 1) st.size)] w' fun e w'' => e = .returned (.tuple #[.agg #[.int .i64 0, .slice none 0 0], .bool false]) ∧ Below w'.heap.size w' w'') := fun w' b => by
        have h1 := HTN.out k (UInt8.ofNat yi.toNat) hks (by rw [hyy, hst]; exact hyn)
        have h2 := HRD.out (turnT st k (UInt8.ofNat yi.toNat)) w' (by rw [turnT_size _ _ _ hks]; omega) b
        rw [h1] at h2
        refine h2.mono fun e w'' h => ?_
        rcases h with ⟨t', u'', h, -⟩ | ⟨-, h3, h4⟩
        · cases h
        · exact ⟨h3, h4⟩
      have HA2B : Hid (∀ w', Below w.heap.size w w' → Calls Tryd.prog 17 #[.slice S.a S.len S.cap, .int .i64 2] w' fun e w'' => e = .returned (.int .i64 a2) ∧ Below w'.heap.size w' w'') := fun w' b => (HA2.out w' (HL.out w' b)).mono fun e w'' h => ⟨h.1, by rw [← h.2]; exact Below.refl _ _⟩
      have hn4 := B4.size
      clear hyn hyi hyy hst HA2 HA0 HA1 hL4 HTN
      go_cut [8, 9] from 43 to 67 (fun _ tv wx => tv = .bool false ∧ Hid (Below w4.heap.size w4 wx))
      case first =>
        go_region_law
          (first
          | (have hbb := b5; go_simp; go_at_call 12; refine (HRX.out _ ?_).mono ?_; (refine B4.trans (Below.mono (B := w4.heap.size) ?_ hn4); refine b5.trans (Below.mono (B := w5.heap.size) ?_ b5.size); (repeat (first | exact Below.refl _ _ | refine bel_an ?_ (Nat.le_refl _) _))); rintro e w6 ⟨rfl, b6⟩; have c6 : Below w5.heap.size w5 w6 := (by first | exact (bel_an (Below.refl w5.heap.size w5) (Nat.le_refl _) (.cells #[.int .u8 yi] 5)).trans (b6.mono (by simp)) | exact (bel_an (bel_an (Below.refl w5.heap.size w5) (Nat.le_refl _) (.cells #[.int .i64 0, .slice none 0 0] 29)) (Nat.le_refl _) (.cells #[.int .u8 yi] 5)).trans (b6.mono (by simp; omega)) | exact (bel_an (bel_an (Below.refl w5.heap.size w5) (Nat.le_refl _) (.cells #[.int .u8 yi] 5)) (Nat.le_refl _) (.cells #[.int .i64 0, .slice none 0 0] 29)).trans (b6.mono (by simp; omega))); have BW6 : Below w4.heap.size w4 w6 := b5.trans (c6.mono b5.size); have hz5 := b5.size; (first | (have hbx := (b6.block (w5.heap.size + 1) (by simp)).trans (hpA2' w5 (.cells #[.int .u8 yi] 5) (.cells #[.int .i64 0, .slice none 0 0] 29)); have f0 := Joins.cell_of_block hbx 0; have f1 := Joins.cell_of_block hbx 1; have ff := fun i => Joins.unfrozen_of_block hbx i) | (have hbx := (b6.block w5.heap.size (Nat.lt_of_lt_of_le (Nat.lt_succ_self _) (by simp))).trans (hpA2 w5 (.cells #[.int .i64 0, .slice none 0 0] 29) (.cells #[.int .u8 yi] 5)); have f0 := Joins.cell_of_block hbx 0; have f1 := Joins.cell_of_block hbx 1; have ff := fun i => Joins.unfrozen_of_block hbx i) | (have hbx := (b6.block w4.heap.size (Nat.lt_of_lt_of_le (lt_of_block hB5) (by simp))).trans (((MapKept.heap_alloc w5 (.cells #[.int .u8 yi] 5)).2 _ (by have := lt_of_block hB5; exact this)).trans hB5); have f0 := Joins.cell_of_block hbx 0; have f1 := Joins.cell_of_block hbx 1; have ff := fun i => Joins.unfrozen_of_block hbx i) | skip); dsimp only)
          | (go_simp; go_at_call 17; refine (HA2B.out _ ?_).mono ?_; (refine B4.trans (Below.mono (B := w4.heap.size) ?_ hn4); (repeat (first | exact Below.refl _ _ | refine Below.drew ?_ | refine bel_an ?_ (Nat.le_refl _) _))); rintro e w5 ⟨rfl, b5⟩; (first | (have hB5 : w5.heap[w4.heap.size]? = some (.cells #[.int .i64 0, .slice none 0 0] 29) := (b5.block w4.heap.size (by simp)).trans (MapKept.heap_alloc w4 (.cells #[.int .i64 0, .slice none 0 0] 29)).1) | skip); have b5 : Below w4.heap.size w4 w5 := (by first | exact (Below.refl w4.heap.size w4).drew.trans b5 | exact (bel_an ((Below.refl w4.heap.size w4).drew) (Nat.le_refl _) (.cells #[.int .i64 0, .slice none 0 0] 29)).trans (b5.mono (by simp))); have hcvA := one_string (P := Tryd.prog) w5 (E := 5) (S := 37) (T := 9) yi hy0 hy1 Tryd.underlying37 Tryd.underlying5 Tryd.underlying9; have hcvB := one_string (P := Tryd.prog) (w5.alloc (.cells #[.int .i64 0, .slice none 0 0] 29)) (E := 5) (S := 37) (T := 9) yi hy0 hy1 Tryd.underlying37 Tryd.underlying5 Tryd.underlying9; rw [show (w5.alloc (.cells #[.int .i64 0, .slice none 0 0] 29)).heap.size = w5.heap.size + 1 by simp] at hcvB; have hcvC := one_stringC (P := Tryd.prog) w5 (E := 5) (S := 37) (T := 9) (.cells #[.int .i64 0, .slice none 0 0] 29) yi hy0 hy1 Tryd.underlying37 Tryd.underlying5 Tryd.underlying9; dsimp only))
        all_goals (try go_wp2)
        all_goals go_meet
        all_goals first
          | exact ⟨rfl, (BW6.setCell (p := ⟨w5.heap.size + 1, 0, none⟩) (by show w4.heap.size ≤ w5.heap.size + 1; omega) _).setCell (p := ⟨w5.heap.size + 1, 1, none⟩) (by show w4.heap.size ≤ w5.heap.size + 1; omega) _⟩
          | exact ⟨rfl, (BW6.setCell (p := ⟨w5.heap.size, 0, none⟩) (by show w4.heap.size ≤ w5.heap.size; omega) _).setCell (p := ⟨w5.heap.size, 1, none⟩) (by show w4.heap.size ≤ w5.heap.size; omega) _⟩
          | exact ⟨rfl, (BW6.setCell (p := ⟨w4.heap.size, 0, none⟩) (Nat.le_refl _) _).setCell (p := ⟨w4.heap.size, 1, none⟩) (Nat.le_refl _) _⟩
          | exact ⟨rfl, bel_an BW6 (Nat.le_refl _) _⟩
      case rest =>
        obtain ⟨rfl, bc⟩ := hcut
        have BC : Below w.heap.size w wc := B4.trans (bc.out.mono B4.size)
        have tvc := HTV.out.below bc.out
        have xvc := HXV.out.below bc.out
        have HDC := HDD.out wc BC
        clear HTV HXV HRX HA2B
        go_wp2_with fail
        refine HDC.mono ?_
        rintro e w7 ⟨ut, rfl, hut, b7⟩
        have B7 := BC.trans (b7.mono BC.size)
        have tv7 := tvc.below b7
        have xv7 := xvc.below b7
        have HR7 := HRD.out ut w7 (by have := hut.out; omega) B7
        have HOR : Hid (∀ t', readT ut = some t' → showN t' = ut ∧ t'.outs.length ≤ 17) := fun t' h => ⟨(readT_is h).1, by have := txO_len ut; rw [h] at this; exact this⟩
        clear HDC b7 tvc xvc
        go_wp2_with fail
        refine HR7.mono ?_
        rintro e w8 h8
        obtain ⟨u8, he8, r8, b8⟩ := SaysR.one h8
        subst he8
        have HFI : Hid ((readT ut).isSome = true → showN (txO (readT ut)) = ut) := fun h => by
          obtain ⟨t', ht'⟩ := Option.isSome_iff_exists.1 h
          rw [ht']; exact (HOR.out t' ht').1
        have hl8 := txO_len ut
        generalize (readT ut).isSome = fine at *
        generalize txO (readT ut) = ty at *
        obtain ⟨ys, yl⟩ := ty
        dsimp only at r8 hl8 HFI ⊢
        obtain ⟨ya, yn, yc, rfl⟩ := wr_slice r8
        have BL8 := below_lit w8 (.cells #[.int .i64 ys, .slice ya yn yc] 29)
        have B8 := (B7.trans (b8.mono B7.size)).trans (BL8.mono (Nat.le_trans B7.size b8.size))
        have tv8 := (tv7.below b8).below BL8
        have xv8 := (xv7.below b8).below BL8
        have yv8 : VarT w8.heap.size ys (.slice ya yn yc) w7.heap.size yl (w8.alloc (.cells #[.int .i64 ys, .slice ya yn yc] 29)) := VarT.new r8
        obtain ⟨w9, HW9⟩ : ∃ w9, Hid (w9 = w8.alloc (.cells #[.int .i64 ys, .slice ya yn yc] 29)) := ⟨_, rfl⟩
        have hf9 : w8.alloc (.cells #[.int .i64 ys, .slice ya yn yc] 29) = w9 := HW9.out.symm
        rw [hf9] at B8 tv8 xv8 yv8
        have hxn : xn = l.length := by obtain ⟨a', c', e', -⟩ := xv8.r.at; cases e'; rfl
        have htn : tn = l.length := by obtain ⟨a', c', e', -⟩ := tv8.r.at; cases e'; rfl
        subst hxn
        subst htn
        obtain ⟨ta', tc', e1, -, htc⟩ := tv8.r.at
        cases e1
        obtain ⟨xa', xc', e2, -, hxc⟩ := xv8.r.at
        cases e2
        obtain ⟨p0, p1⟩ := tv8.cells
        obtain ⟨q0, q1⟩ := xv8.cells
        obtain ⟨n, HN⟩ : ∃ n, Hid (n = l.length) := ⟨_, rfl⟩
        rw [← HN.out] at tv8 xv8 htc hxc p1 q1 hl10 ⊢
        have HBX : Hid (∀ wr, Below w9.heap.size w9 wr → (wr.cell? ⟨w1.heap.size, 1, none⟩ = some (.slice ta n tc) ∧ wr.cell? ⟨w3.heap.size, 1, none⟩ = some (.slice xa n xc))) := fun wr b => ⟨(tv8.below b).cells.2, (xv8.below b).cells.2⟩
        have HYB : Hid (∀ wr, Below w9.heap.size w9 wr → (wr.cell? ⟨w8.heap.size, 0, none⟩ = some (.int .i64 ys) ∧ wr.cell? ⟨w8.heap.size, 1, none⟩ = some (.slice ya yn yc)) ∧ Below w.heap.size w wr ∧ Calls Tryd.prog 9 #[.agg #[.int .i64 ys, .slice ya yn yc]] wr fun e w'' => e = .returned (.string (showN ⟨ys, yl⟩)) ∧ Below wr.heap.size wr w'') := fun wr b =>
          have bw := B8.trans (b.mono B8.size)
          ⟨(yv8.below b).cells, bw, HSW.out ⟨ys, yl⟩ _ wr (by dsimp only; omega) (yv8.below b).r.at bw⟩
        clear h8 r8 tv7 xv7 tv8 xv8 yv8 BL8 HOR HR7 b8 HRD HSW HSP HDD
        go_wp2
        go_loopw [13] (fun i wr => ∃ k' : Nat, k' ≤ n ∧ i = .int .i64 k' ∧ Below w9.heap.size w9 wr) (fun i _ => n - (intOf i).toNat)
        case atStart => exact ⟨0, Nat.zero_le _, rfl, Below.refl _ _⟩
        case round =>
          obtain ⟨k', hk', rfl, hbel⟩ := hrel
          obtain ⟨d0, d1⟩ := HBX.out wr hbel
          by_cases hlt : k' < n
          · obtain ⟨b1, o1, rfl, hb1, hc1⟩ := htc k' hlt
            obtain ⟨b2, o2, rfl, hb2, hc2⟩ := hxc k' hlt
            have hc1 := hc1.below hb1 hbel
            have hc2 := hc2.below hb2 hbel
            generalize l[k']! = y' at hc1 hc2
            obtain ⟨yb, yt⟩ := y'
            have hNE := fun w' => neW yb yt w'
            have g0 := cell_regrown hc1.c0
            have g1 := cell_regrown hc1.c1
            have g2 := cell_regrown hc2.c0
            have g3 := cell_regrown hc2.c1
            have g4 := cell_regrown d0
            have g5 := cell_regrown d1
            dsimp only at g0 g1 g2 g3
            have hkn : (k' : Int) < (n : Int) := by omega
            have hk0' : (0 : Int) ≤ (k' : Int) := by omega
            clear hc1 hc2 htc hxc
            go_wp2
            refine wp_region_quiet_below (by kernel_rfl) (by kernel_rfl) ?_
            repeat (go_big_quiet_step (fail))
            refine wpQuiet_nil ?_
            rintro w' ⟨⟨dq, osq⟩, rfl⟩
            have hbq := below_regrown wr dq osq
            generalize Go.Sort.grow (redrawn wr dq) osq = w10 at hbq ⊢
            have hb10 := hbel.trans (hbq.mono hbel.size)
            clear g0 g1 g2 g3 g4 g5
            go_wp2
            go_roundw
            case rel => exact ⟨k' + 1, by omega, by go_num, hb10⟩
            case measure => simp [intOf]; omega
          · obtain rfl : k' = n := by omega
            obtain ⟨⟨m0, m1⟩, bw, HSY⟩ := HYB.out wr hbel
            cases fine with
            | false =>
              clear HSY
              go_wp2
              go_ret
              exact ⟨rfl, bw⟩
            | true =>
              have hsy := HFI.out rfl
              rw [hsy] at HSY
              have f9 : (ut.toList == ut.toList) = true := by simp
              clear hsy HFI
              go_wp2_with (go_at_call 9; refine HSY.mono ?_; rintro e w11 ⟨rfl, b11⟩)
              go_ret
              exact ⟨ret_bool (by first | rfl | simp), bw.trans (b11.mono bw.size)⟩
    · cases h
end

end Go.Proofs.YtfdahfealibbnaaDoor
