/- Names: what a name is known by: KeyOf, Alike, HashOf on both sides: what they answer. Names: the walks of the exact laws of NameOk, KeyOf, Alike and HashOf. Names: what the program's own tables and the library's hold when a call begins: their cells. -/
import Derived.Test.YtgkcnleegefjcaaGreatDoorRows
import Derived.Test.YtgkcnleegefjcaaGreatDoorMl
import Derived.Test.YtgkcnleegefjcaaGreatDoorMk
import Derived.Test.YtgkcnleegefjcaaGreatDoorMi
import Derived.Test.YtgkcnleegefjcaaGreatDoorMj
import Derived.Lib.LaidTab
import Derived.Lib.LaidU8
import Derived.Lib.LaidU8T
namespace Go.Proofs.YtgkcnleegefjcaaGreatDoor

section
open Go.RowKit

theorem apart_len (l : List Int) : (apartN l).length ≤ 9 * l.length := by
  have := takes_len l
  unfold apartN srtN
  rw [List.length_reverse, srtR_len]
  simp only [List.length_nil]; omega
theorem nameL_some {s : ByteArray} {l : List Int} (h : nameL s = some l) : decN s = some l ∧ l.length ≤ 24 ∧ l.all knB = true := by
  unfold nameL at h
  split at h
  · rename_i hc
    simp only [Bool.and_eq_true] at hc
    have hb := inB_le hc.1.1
    have hd := decN_len s
    cases hd' : decN s with
    | none => rw [hd'] at h; cases h
    | some m =>
      rw [hd'] at h hd
      cases hk : m.all knB
      · simp [hk] at h
      · simp [hk] at h
        subst h
        refine ⟨rfl, ?_, hk⟩
        simp at hd; omega
  · cases h

/-- what a name is known by -/
def keyN (s : ByteArray) : ByteArray × Bool := match nameL s with
  | some l => (⟨(encN (keyL l)).toArray⟩, true)
  | none => (⟨#[]⟩, false)
theorem keyN_none {s : ByteArray} (h : nameL s = none) : keyN s = (⟨#[]⟩, false) := by unfold keyN; rw [h]
theorem keyN_some {s : ByteArray} {l : List Int} (h : nameL s = some l) : keyN s = (⟨(encN (keyL l)).toArray⟩, true) := by unfold keyN; rw [h]
theorem keyN_is (s : ByteArray) : (keyN s).2 = (nameL s).isSome := by
  cases h : nameL s with
  | none => rw [keyN_none h]; rfl
  | some l => rw [keyN_some h]; rfl
theorem keyN_size (s : ByteArray) : (keyN s).1.size ≤ 1048576 := by
  cases h : nameL s with
  | none => rw [keyN_none h]; show (#[] : Array UInt8).size ≤ _; simp
  | some l =>
    rw [keyN_some h]
    have hl := (nameL_some h).2.1
    show (encN (keyL l)).toArray.size ≤ _
    have h1 := encs_len (keyL l)
    have h2 := apart_len (foldsN (apartN l))
    have h3 := folds_len (apartN l)
    have h4 := apart_len l
    unfold encN
    split
    · simp only [List.size_toArray]
      unfold keyL at h1 ⊢
      omega
    · simp

set_option maxRecDepth 100000 in
set_option maxHeartbeats 1000000 in
theorem iKeyOf (s : ByteArray) (w : World) (hT : Tabs w) (hs : s.size ≤ 1048576) :
    Calls Tryz.prog 153 #[.string s] w fun e w' => e = .returned (.tuple #[.string (keyN s).1, .bool (keyN s).2]) ∧ Below w.heap.size w w' := by
  have HS := nameSigns_any s w hT hs
  cases hn : nameL s with
  | none =>
    rw [keyN_none hn]
    rw [hn] at HS
    go_enter Tryz.func153, Tryz.ntmps153
    go_wp2_with (go_at_call 174; refine HS.mono ?_; rintro e w1 ⟨v, rfl, r1, b1⟩)
    go_ret2
    exact ⟨rfl, b1⟩
  | some l =>
    rw [keyN_some hn]
    rw [hn] at HS
    obtain ⟨_, hl, _⟩ := nameL_some hn
    have h4 := apart_len l
    have h3 := folds_len (apartN l)
    have h2 := apart_len (foldsN (apartN l))
    have A1 := fun v w' h => iApart v l w' h (by omega)
    have F1 := fun v w' h => iFold v (apartN l) w' h (by omega)
    have A2 := fun v w' h => iApart v (foldsN (apartN l)) w' h (by omega)
    have E1 := fun v w' h => iEncode v (keyL l) w' (by unfold keyL; omega) h
    have HK : Hid (apartN (foldsN (apartN l)) = keyL l) := rfl
    rw [HK.out] at A2
    generalize (⟨(encN (keyL l)).toArray⟩ : ByteArray) = key at E1 ⊢
    generalize keyL l = kl at A2 E1
    generalize foldsN (apartN l) = fl at F1 A2
    generalize apartN l = al at A1 F1
    clear h2 h3 h4 HK
    go_enter Tryz.func153, Tryz.ntmps153
    go_wp2_with fail
    refine HS.mono ?_
    rintro e w1 ⟨v1, rfl, r1, b1⟩
    go_wp2_with fail
    refine (A1 v1 w1 r1.at).mono ?_
    rintro e w2 ⟨v2, rfl, r2, b2⟩
    have D2 : Below w.heap.size w w2 := b1.trans (b2.mono b1.size)
    go_wp2_with fail
    refine (F1 v2 w2 r2.at).mono ?_
    rintro e w3 ⟨v3, rfl, r3, b3⟩
    have D3 : Below w.heap.size w w3 := D2.trans (b3.mono D2.size)
    go_wp2_with fail
    refine (A2 v3 w3 r3.at).mono ?_
    rintro e w4 ⟨v4, rfl, r4, b4⟩
    have D4 : Below w.heap.size w w4 := D3.trans (b4.mono D3.size)
    go_wp2_with fail
    refine (E1 v4 w4 r4.at).mono ?_
    rintro e w5 ⟨rfl, b5⟩
    go_wp2
    go_ret2
    exact ⟨rfl, D4.trans (b5.mono D4.size)⟩

set_option maxRecDepth 100000 in
set_option maxHeartbeats 1000000 in
theorem sKeyOf (s : ByteArray) (w : World) (hs : s.size ≤ 1048576) :
    Calls Tryz.prog 57 #[.string s] w fun e w' => e = .returned (.tuple #[.string (keyN s).1, .bool (keyN s).2]) ∧ Below w.heap.size w w' := by
  have HN := sNameOk s w hs
  cases hn : nameL s with
  | none =>
    rw [keyN_none hn]
    rw [hn] at HN
    go_enter Tryz.func57, Tryz.ntmps57
    go_wp2_with (go_at_call 94; refine HN.mono ?_; rintro e w1 ⟨rfl, b1⟩)
    go_ret2
    exact ⟨rfl, b1⟩
  | some l =>
    rw [keyN_some hn]
    rw [hn] at HN
    obtain ⟨hd, hl, _⟩ := nameL_some hn
    have HS := fun w' => sDecode s w' hs
    rw [hd] at HS
    have h4 := apart_len l
    have h3 := folds_len (apartN l)
    have h2 := apart_len (foldsN (apartN l))
    have A1 := fun v w' h => sApart v l w' (by omega) h
    have F1 := fun v w' h => sFold v (apartN l) w' (by omega) h
    have A2 := fun v w' h => sApart v (foldsN (apartN l)) w' (by omega) h
    have E1 := fun v w' h => sEncode v (keyL l) w' (by unfold keyL; omega) h
    have HK : Hid (apartN (foldsN (apartN l)) = keyL l) := rfl
    rw [HK.out] at A2
    generalize (⟨(encN (keyL l)).toArray⟩ : ByteArray) = key at E1 ⊢
    generalize keyL l = kl at A2 E1
    generalize foldsN (apartN l) = fl at F1 A2
    generalize apartN l = al at A1 F1
    clear h2 h3 h4 HK hd
    go_enter Tryz.func57, Tryz.ntmps57
    go_wp2_with fail
    refine HN.mono ?_
    rintro e w0 ⟨rfl, b0⟩
    go_wp2_with fail
    refine (HS _).mono ?_
    rintro e w1 ⟨v1, rfl, r1, b1⟩
    have D1 : Below w.heap.size w w1 := b0.trans (b1.mono b0.size)
    go_wp2_with fail
    refine (A1 v1 w1 r1.at).mono ?_
    rintro e w2 ⟨v2, rfl, r2, b2⟩
    have D2 : Below w.heap.size w w2 := D1.trans (b2.mono D1.size)
    go_wp2_with fail
    refine (F1 v2 w2 r2.at).mono ?_
    rintro e w3 ⟨v3, rfl, r3, b3⟩
    have D3 : Below w.heap.size w w3 := D2.trans (b3.mono D2.size)
    go_wp2_with fail
    refine (A2 v3 w3 r3.at).mono ?_
    rintro e w4 ⟨v4, rfl, r4, b4⟩
    have D4 : Below w.heap.size w w4 := D3.trans (b4.mono D3.size)
    go_wp2_with fail
    refine (E1 v4 w4 r4.at).mono ?_
    rintro e w5 ⟨rfl, b5⟩
    go_wp2
    go_ret2
    exact ⟨rfl, D4.trans (b5.mono D4.size)⟩

/-- are two names one? -/
def alikeB (a b : ByteArray) : Bool := (keyN a).2 && (keyN b).2 && ((keyN a).1.toList == (keyN b).1.toList)

set_option maxRecDepth 100000 in
set_option maxHeartbeats 1000000 in
theorem iAlike (a b : ByteArray) (w : World) (hT : Tabs w) (ha : a.size ≤ 1048576) (hb : b.size ≤ 1048576) :
    Calls Tryz.prog 178 #[.string a, .string b] w fun e w' => e = .returned (.bool (alikeB a b)) ∧ Below w.heap.size w w' := by
  have K1 := iKeyOf a w hT ha
  have K2 : ∀ w', Below w.heap.size w w' → _ := fun w' hb' => iKeyOf b w' (hT.below hb') hb
  have HR : Hid (alikeB a b = ((keyN a).2 && (keyN b).2 && ((keyN a).1.toList == (keyN b).1.toList))) := rfl
  generalize alikeB a b = r at HR ⊢
  generalize (keyN a).2 = p at *
  generalize (keyN b).2 = q at *
  generalize (keyN a).1 = x at *
  generalize (keyN b).1 = y at *
  clear hT
  go_enter Tryz.func178, Tryz.ntmps178
  go_wp2_with fail
  refine K1.mono ?_
  rintro e w1 ⟨rfl, b1⟩
  go_wp2_with fail
  refine (K2 w1 b1).mono ?_
  rintro e w2 ⟨rfl, b2⟩
  have D2 : Below w.heap.size w w2 := b1.trans (b2.mono b1.size)
  cases p
  · go_wp2
    go_ret
    exact ⟨by rw [HR.out]; rfl, D2⟩
  · cases q
    · go_wp2
      go_ret
      exact ⟨by rw [HR.out]; rfl, D2⟩
    · go_wp2
      go_ret
      exact ⟨by rw [HR.out]; rfl, D2⟩

set_option maxRecDepth 100000 in
set_option maxHeartbeats 1000000 in
theorem sAlike (a b : ByteArray) (w : World) (ha : a.size ≤ 1048576) (hb : b.size ≤ 1048576) :
    Calls Tryz.prog 19 #[.string a, .string b] w fun e w' => e = .returned (.bool (alikeB a b)) ∧ Below w.heap.size w w' := by
  have K1 := sKeyOf a w ha
  have K2 := fun w' => sKeyOf b w' hb
  have HR : Hid (alikeB a b = ((keyN a).2 && (keyN b).2 && ((keyN a).1.toList == (keyN b).1.toList))) := rfl
  generalize alikeB a b = r at HR ⊢
  generalize (keyN a).2 = p at *
  generalize (keyN b).2 = q at *
  generalize (keyN a).1 = x at *
  generalize (keyN b).1 = y at *
  go_enter Tryz.func19, Tryz.ntmps19
  go_wp2_with fail
  refine K1.mono ?_
  rintro e w1 ⟨rfl, b1⟩
  go_wp2_with fail
  refine (K2 w1).mono ?_
  rintro e w2 ⟨rfl, b2⟩
  have D2 : Below w.heap.size w w2 := b1.trans (b2.mono b1.size)
  cases p
  · go_wp2
    go_ret
    exact ⟨by rw [HR.out]; rfl, D2⟩
  · cases q
    · go_wp2
      go_ret
      exact ⟨by rw [HR.out]; rfl, D2⟩
    · go_wp2
      go_ret
      exact ⟨by rw [HR.out]; rfl, D2⟩

/-- the table of sums lies as the program's text lays it -/
def CrcTab (w : World) : Prop := ∀ i, i < 16 → w.cell? ⟨12, i, none⟩ = some (.int .u32 (tab16.getD i 0))
theorem CrcTab.below {w w' : World} (h : CrcTab w) (hb : Below w.heap.size w w') : CrcTab w' := fun i hi => (hb.cell (p := ⟨12, i, none⟩) (World.block_lt_of_cell? w _ (h i hi))).trans (h i hi)
theorem CrcTab.pos {w : World} (h : CrcTab w) : 12 < w.heap.size := World.block_lt_of_cell? w _ (h 0 (by decide))

def crcV (s : ByteArray) : Int := 4294967295 - (crcN s s.size : Int)
def hashN (s : ByteArray) : Int := if (keyN s).2 then (crcV (keyN s).1).tmod 16 else -1

set_option maxRecDepth 100000 in
set_option maxHeartbeats 1000000 in
theorem iHashKey (x : ByteArray) (w : World) (hC : CrcTab w) (hx : x.size ≤ 1048576) :
    Calls Tryz.prog 196 #[.string x] w fun e w' => e = .returned (.int .i64 ((crcV x).tmod 16)) ∧ Below w.heap.size w w' := by
  have C : Calls Tryz.prog 228 #[.string x] w fun e w'' => e = .returned (.int .i64 (crcV x)) ∧ Below w.heap.size w w'' := iCrc x hx w hC hC.pos
  generalize crcV x = c at *
  clear hC
  go_enter Tryz.func196, Tryz.ntmps196
  go_wp2_with (first | (go_at_call 228; refine C.mono ?_; rintro e w2 ⟨rfl, b2⟩))
  go_ret
  exact ⟨rfl, b2⟩

set_option maxRecDepth 100000 in
set_option maxHeartbeats 1000000 in
theorem iHashOf (s : ByteArray) (w : World) (hT : Tabs w) (hC : CrcTab w) (hs : s.size ≤ 1048576) :
    Calls Tryz.prog 175 #[.string s] w fun e w' => e = .returned (.int .i64 (hashN s)) ∧ Below w.heap.size w w' := by
  have K := iKeyOf s w hT hs
  have C := fun w' (hb : Below w.heap.size w w') => iHashKey (keyN s).1 w' (hC.below hb) (keyN_size s)
  have HR : Hid (hashN s = if (keyN s).2 then (crcV (keyN s).1).tmod 16 else -1) := rfl
  generalize hashN s = r at HR ⊢
  generalize (crcV (keyN s).1).tmod 16 = c at *
  generalize (keyN s).1 = x at *
  generalize (keyN s).2 = p at *
  clear hT hC
  cases p
  · go_enter Tryz.func175, Tryz.ntmps175
    go_wp2_with (first | (go_at_call 153; refine K.mono ?_; rintro e w1 ⟨rfl, b1⟩))
    go_ret
    exact ⟨ret_int (by rw [HR.out]; rfl), b1⟩
  · go_enter Tryz.func175, Tryz.ntmps175
    go_wp2_with (first | (go_at_call 153; refine K.mono ?_; rintro e w1 ⟨rfl, b1⟩) | (go_at_call 196; refine (C w1 b1).mono ?_; rintro e w2 ⟨rfl, b2⟩))
    go_ret
    exact ⟨ret_int (by rw [HR.out]; rfl), b1.trans (b2.mono b1.size)⟩

set_option maxRecDepth 100000 in
set_option maxHeartbeats 1000000 in
theorem sHashOf (s : ByteArray) (w : World) (hs : s.size ≤ 1048576) :
    Calls Tryz.prog 120 #[.string s] w fun e w' => e = .returned (.int .i64 (hashN s)) ∧ Below w.heap.size w w' := by
  have K := sKeyOf s w hs
  have C : ∀ w', Calls Tryz.prog 170 #[.string (keyN s).1] w' fun e w'' => e = .returned (.int .i64 (crcV (keyN s).1)) ∧ w' = w'' := fun w' => sCrc _ (keyN_size s) w'
  have HR : Hid (hashN s = if (keyN s).2 then (crcV (keyN s).1).tmod 16 else -1) := rfl
  generalize hashN s = r at HR ⊢
  generalize crcV (keyN s).1 = c at *
  generalize (keyN s).1 = x at *
  generalize (keyN s).2 = p at *
  cases p
  · go_enter Tryz.func120, Tryz.ntmps120
    go_wp2_with (first | (go_at_call 57; refine K.mono ?_; rintro e w1 ⟨rfl, b1⟩))
    go_ret
    exact ⟨ret_int (by rw [HR.out]; rfl), b1⟩
  · go_enter Tryz.func120, Tryz.ntmps120
    go_wp2_with (first | (go_at_call 57; refine K.mono ?_; rintro e w1 ⟨rfl, b1⟩) | (go_at_call 170; refine (C w1).mono ?_; rintro e w2 ⟨rfl, rfl⟩))
    go_ret
    exact ⟨ret_int (by rw [HR.out]; rfl), b1⟩
end

section
open Go.RowKit
end

section
open Go.RowKit

theorem kn_gTab : Tryz.prog.globalNamed "loop.example/g00773/impl.knownSigns" = some 11 := by kernel_rfl
theorem kn_tTab : (Tryz.prog.globals[11]?).map (·.type) = some 270 := by kernel_rfl
theorem kn_cellsE : Tryz.prog.cellsOf 3 = 1 := by kernel_rfl
theorem kn_cellsR : Tryz.prog.cellsOf 269 = 2 := by kernel_rfl
theorem kn_datum : Rows.laid_loop_example_g00773_impl_knownSigns (H := Unit) = .agg ((List.range 27).map fun i => .agg ([ikT.getD (2 * i) 0, ikT.getD (2 * i + 1) 0].map fun z => .lit (.int .i64 z))) := by rfl

theorem kn_of {W : World} (hr : Lib.VarReads Tryz.prog W "loop.example/g00773/impl.knownSigns" Rows.laid_loop_example_g00773_impl_knownSigns) : ∀ i, i < 54 → W.cell? ⟨11, i, none⟩ = some (.int .i64 (ikT.getD i 0)) := by
  obtain ⟨g, t, cs, fuel, p, hg, hty, hvar, hd⟩ := hr
  obtain rfl := Option.some.inj (kn_gTab.symm.trans hg)
  obtain rfl := Option.some.inj (kn_tTab.symm.trans hty)
  rw [kn_datum] at hd
  have key : ∀ i, i < 27 → W.cell? ⟨11, 2 * i, none⟩ = some (.int .i64 (ikT.getD (2 * i) 0)) ∧ W.cell? ⟨11, 2 * i + 1, none⟩ = some (.int .i64 (ikT.getD (2 * i + 1) 0)) := by
    intro i hi
    obtain ⟨fuel', d, q, hdi, he⟩ := Lib.array_elem Tryz.underlying270 hd i hi
    simp only [List.getElem?_map, List.getElem?_range hi, Option.map_some, Option.some.injEq] at hdi
    subst hdi
    rw [kn_cellsR] at he
    have hcs := Lib.ints_of_struct Tryz.underlying269 (fun j f hj => by
      match j, hj with
      | 0, hj => simp at hj; subst hj; exact ⟨Tryz.underlying3, rfl, kn_cellsE⟩
      | 1, hj => simp at hj; subst hj; exact ⟨Tryz.underlying3, rfl, kn_cellsE⟩
      | j + 2, hj => simp at hj) (by rw [kn_cellsR]; rfl) he
    have e0 := congrArg (·[0]?) hcs
    have e1 := congrArg (·[1]?) hcs
    simp only [List.getElem?_take, List.getElem?_drop] at e0 e1
    constructor
    · rw [World.var?_cell hg hvar (2 * i), ← Array.getElem?_toList]
      simpa [Nat.mul_comm] using e0
    · rw [World.var?_cell hg hvar (2 * i + 1), ← Array.getElem?_toList]
      simpa [Nat.mul_comm] using e1
  intro i hi
  obtain ⟨k, rfl | rfl⟩ : ∃ k, i = 2 * k ∨ i = 2 * k + 1 := ⟨i / 2, by omega⟩
  · exact (key k (by omega)).1
  · exact (key k (by omega)).2

theorem hs_gTab : Tryz.prog.globalNamed "loop.example/g00773/impl.halfSums" = some 12 := by kernel_rfl
theorem hs_tTab : (Tryz.prog.globals[12]?).map (·.type) = some 289 := by kernel_rfl
theorem hs_cellsE : Tryz.prog.cellsOf 234 = 1 := by kernel_rfl
theorem hs_cellsT : Tryz.prog.cellsOf 289 = 16 := by kernel_rfl
theorem hs_datum : Rows.laid_loop_example_g00773_impl_halfSums (H := Unit) = Lib.tabData .u32 tab16 := by rfl
theorem half_of {W : World} (hr : Lib.VarReads Tryz.prog W "loop.example/g00773/impl.halfSums" Rows.laid_loop_example_g00773_impl_halfSums) : CrcTab W := by
  obtain ⟨g, t, cs, fuel, p, hg, hty, hvar, hd⟩ := hr
  obtain rfl := Option.some.inj (hs_gTab.symm.trans hg)
  obtain rfl := Option.some.inj (hs_tTab.symm.trans hty)
  rw [hs_datum] at hd
  have hT : Lib.TabIs Tryz.prog W "loop.example/g00773/impl.halfSums" .u32 tab16 := by
    unfold Lib.TabIs
    rw [hvar, ← Lib.cells_of_tab Tryz.underlying289 Tryz.underlying234 hs_cellsE hs_cellsT hd]
  exact fun i hi => hT.cell hs_gTab i hi

theorem u8_extra : U8Extra Tryz.prog Tryz.laysValid_ren := ⟨by kernel_rfl, by kernel_rfl, by kernel_rfl, by kernel_rfl, by kernel_rfl, by kernel_rfl, by kernel_rfl⟩
theorem u8_accept : Rows.laid_unicode_utf8_acceptRanges (H := Unit) = Lib.acceptData := by rfl
theorem u8_first : Rows.laid_unicode_utf8_first = Lib.firstData := by kernel_rfl
theorem tabs_of {W : World} (h4 : Lib.VarReads Tryz.prog W "unicode/utf8.acceptRanges" Rows.laid_unicode_utf8_acceptRanges) (hk : Lib.VarReads Tryz.prog W "loop.example/g00773/impl.knownSigns" Rows.laid_loop_example_g00773_impl_knownSigns) (h3 : Lib.VarReads Tryz.prog W "unicode/utf8.first" Rows.laid_unicode_utf8_first) : Tabs W := by
  rw [u8_accept] at h4
  rw [u8_first] at h3
  exact ⟨kn_of hk, utf8Tabs_of_readsT (U8Types.of196 Tryz.laysValid) u8_extra h3 h4⟩
end

end Go.Proofs.YtgkcnleegefjcaaGreatDoor
