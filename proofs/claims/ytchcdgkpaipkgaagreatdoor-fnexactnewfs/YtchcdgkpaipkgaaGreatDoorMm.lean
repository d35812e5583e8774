/- Names: what a name is known by: KeyOf, Alike, HashOf on both sides: what they answer. Names: the walks of the exact laws of NameOk, KeyOf, Alike and HashOf. Names: what the program's own tables and the library's hold when a call begins: their cells. -/
import Derived.Test.YtchcdgkpaipkgaaGreatDoorRows
import Derived.Test.YtchcdgkpaipkgaaGreatDoorMl
import Derived.Test.YtchcdgkpaipkgaaGreatDoorMk
import Derived.Test.YtchcdgkpaipkgaaGreatDoorMi
import Derived.Test.YtchcdgkpaipkgaaGreatDoorMj
import Derived.Lib.LaidTab
import Derived.Lib.LaidU8
import Derived.Lib.LaidU8T
namespace Go.Proofs.YtchcdgkpaipkgaaGreatDoor

section
open Go.RowKit

theorem apart_len (l : List Int) : (apartN l).length ≤ 9 * l.length := by
  have := takes_len l
  unfold apartN srtN
  rw [List.length_reverse, srtR_len]
  simp only [List.length_nil]; omega
theorem nameL_some {s : ByteArray} {l : List Int} (h : nameL s = some l) : decN s = some l ∧ l.length ≤ 24 ∧ l.all knB = true := by
  unfold nameL at h
  split at h
  · rename_i hc
    simp only [Bool.and_eq_true] at hc
    have hb := inB_le hc.1.1
    have hd := decN_len s
    cases hd' : decN s with
    | none => rw [hd'] at h; cases h
    | some m =>
      rw [hd'] at h hd
      cases hk : m.all knB
      · simp [hk] at h
      · simp [hk] at h
        subst h
        refine ⟨rfl, ?_, hk⟩
        simp at hd; omega
  · cases h

/-- what a name is known by -/
def keyN (s : ByteArray) : ByteArray × Bool := match nameL s with
  | some l => (⟨(encN (keyL l)).toArray⟩, true)
  | none => (⟨#[]⟩, false)
theorem keyN_none {s : ByteArray} (h : nameL s = none) : keyN s = (⟨#[]⟩, false) := by unfold keyN; rw [h]
theorem keyN_some {s : ByteArray} {l : List Int} (h : nameL s = some l) : keyN s = (⟨(encN (keyL l)).toArray⟩, true) := by unfold keyN; rw [h]
theorem keyN_is (s : ByteArray) : (keyN s).2 = (nameL s).isSome := by
  cases h : nameL s with
  | none => rw [keyN_none h]; rfl
  | some l => rw [keyN_some h]; rfl
theorem keyN_size (s : ByteArray) : (keyN s).1.size ≤ 1048576 := by
  cases h : nameL s with
  | none => rw [keyN_none h]; show (#[] : Array UInt8).size ≤ _; simp
  | some l =>
    rw [keyN_some h]
    have hl := (nameL_some h).2.1
    show (encN (keyL l)).toArray.size ≤ _
    have h1 := encs_len (keyL l)
    have h2 := apart_len (foldsN (apartN l))
    have h3 := folds_len (apartN l)
    have h4 := apart_len l
    unfold encN
    split
    · simp only [List.size_toArray]
      unfold keyL at h1 ⊢
      omega
    · simp

set_option maxRecDepth 100000 in
set_option maxHeartbeats 1000000 in
theorem iKeyOf (s : ByteArray) (w : World) (hT : Tabs w) (hs : s.size ≤ 1048576) :
    Calls Tryz.prog 59 #[.string s] w fun e w' => e = .returned (.tuple #[.string (keyN s).1, .bool (keyN s).2]) ∧ Below w.heap.size w w' := by
  have HS := nameSigns_any s w hT hs
  cases hn : nameL s with
  | none =>
    rw [keyN_none hn]
    rw [hn] at HS
    go_enter Tryz.func59, Tryz.ntmps59
    go_wp2_with (go_at_call 65; refine HS.mono ?_; rintro e w1 ⟨v, rfl, r1, b1⟩)
    go_ret2
    exact ⟨rfl, b1⟩
  | some l =>
    rw [keyN_some hn]
    rw [hn] at HS
    obtain ⟨_, hl, _⟩ := nameL_some hn
    have h4 := apart_len l
    have h3 := folds_len (apartN l)
    have h2 := apart_len (foldsN (apartN l))
    have A1 := fun v w' h => iApart v l w' h (by omega)
    have F1 := fun v w' h => iFold v (apartN l) w' h (by omega)
    have A2 := fun v w' h => iApart v (foldsN (apartN l)) w' h (by omega)
    have E1 := fun v w' h => iEncode v (keyL l) w' (by unfold keyL; omega) h
    have HK : Hid (apartN (foldsN (apartN l)) = keyL l) := rfl
    rw [HK.out] at A2
    generalize (⟨(encN (keyL l)).toArray⟩ : ByteArray) = key at E1 ⊢
    generalize keyL l = kl at A2 E1
    generalize foldsN (apartN l) = fl at F1 A2
    generalize apartN l = al at A1 F1
    clear h2 h3 h4 HK
    go_enter Tryz.func59, Tryz.ntmps59
    go_wp2_with fail
    refine HS.mono ?_
    rintro e w1 ⟨v1, rfl, r1, b1⟩
    go_wp2_with fail
    refine (A1 v1 w1 r1.at).mono ?_
    rintro e w2 ⟨v2, rfl, r2, b2⟩
    have D2 : Below w.heap.size w w2 := b1.trans (b2.mono b1.size)
    go_wp2_with fail
    refine (F1 v2 w2 r2.at).mono ?_
    rintro e w3 ⟨v3, rfl, r3, b3⟩
    have D3 : Below w.heap.size w w3 := D2.trans (b3.mono D2.size)
    go_wp2_with fail
    refine (A2 v3 w3 r3.at).mono ?_
    rintro e w4 ⟨v4, rfl, r4, b4⟩
    have D4 : Below w.heap.size w w4 := D3.trans (b4.mono D3.size)
    go_wp2_with fail
    refine (E1 v4 w4 r4.at).mono ?_
    rintro e w5 ⟨rfl, b5⟩
    go_wp2
    go_ret2
    exact ⟨rfl, D4.trans (b5.mono D4.size)⟩


/-- are two names one? -/
def alikeB (a b : ByteArray) : Bool := (keyN a).2 && (keyN b).2 && ((keyN a).1.toList == (keyN b).1.toList)



def hashN (s : ByteArray) : Int := if (keyN s).2 then (crcV (keyN s).1).tmod 16 else -1

set_option maxRecDepth 100000 in
set_option maxHeartbeats 1000000 in
theorem iHashKey (x : ByteArray) (w : World) (hC : CrcTab w) (hx : x.size ≤ 1048576) :
    Calls Tryz.prog 69 #[.string x] w fun e w' => e = .returned (.int .i64 ((crcV x).tmod 16)) ∧ Below w.heap.size w w' := by
  have C : Calls Tryz.prog 79 #[.string x] w fun e w'' => e = .returned (.int .i64 (crcV x)) ∧ Below w.heap.size w w'' := iCrc x hx w hC hC.pos
  generalize crcV x = c at *
  clear hC
  go_enter Tryz.func69, Tryz.ntmps69
  go_wp2_with (first | (go_at_call 79; refine C.mono ?_; rintro e w2 ⟨rfl, b2⟩))
  go_ret
  exact ⟨rfl, b2⟩
end

section
open Go.RowKit
end

section
open Go.RowKit

theorem kn_gTab : Tryz.prog.globalNamed "loop.example/g00773/impl.knownSigns" = some 2 := by kernel_rfl
theorem kn_tTab : (Tryz.prog.globals[2]?).map (·.type) = some 133 := by kernel_rfl
theorem kn_cellsE : Tryz.prog.cellsOf 3 = 1 := by kernel_rfl
theorem kn_cellsR : Tryz.prog.cellsOf 132 = 2 := by kernel_rfl
theorem kn_datum : Rows.laid_loop_example_g00773_impl_knownSigns (H := Unit) = .agg ((List.range 27).map fun i => .agg ([ikT.getD (2 * i) 0, ikT.getD (2 * i + 1) 0].map fun z => .lit (.int .i64 z))) := by rfl

theorem kn_of {W : World} (hr : Lib.VarReads Tryz.prog W "loop.example/g00773/impl.knownSigns" Rows.laid_loop_example_g00773_impl_knownSigns) : ∀ i, i < 54 → W.cell? ⟨2, i, none⟩ = some (.int .i64 (ikT.getD i 0)) := by
  obtain ⟨g, t, cs, fuel, p, hg, hty, hvar, hd⟩ := hr
  obtain rfl := Option.some.inj (kn_gTab.symm.trans hg)
  obtain rfl := Option.some.inj (kn_tTab.symm.trans hty)
  rw [kn_datum] at hd
  have key : ∀ i, i < 27 → W.cell? ⟨2, 2 * i, none⟩ = some (.int .i64 (ikT.getD (2 * i) 0)) ∧ W.cell? ⟨2, 2 * i + 1, none⟩ = some (.int .i64 (ikT.getD (2 * i + 1) 0)) := by
    intro i hi
    obtain ⟨fuel', d, q, hdi, he⟩ := Lib.array_elem Tryz.underlying133 hd i hi
    simp only [List.getElem?_map, List.getElem?_range hi, Option.map_some, Option.some.injEq] at hdi
    subst hdi
    rw [kn_cellsR] at he
    have hcs := Lib.ints_of_struct Tryz.underlying132 (fun j f hj => by
      match j, hj with
      | 0, hj => simp at hj; subst hj; exact ⟨Tryz.underlying3, rfl, kn_cellsE⟩
      | 1, hj => simp at hj; subst hj; exact ⟨Tryz.underlying3, rfl, kn_cellsE⟩
      | j + 2, hj => simp at hj) (by rw [kn_cellsR]; rfl) he
    have e0 := congrArg (·[0]?) hcs
    have e1 := congrArg (·[1]?) hcs
    simp only [List.getElem?_take, List.getElem?_drop] at e0 e1
    constructor
    · rw [World.var?_cell hg hvar (2 * i), ← Array.getElem?_toList]
      simpa [Nat.mul_comm] using e0
    · rw [World.var?_cell hg hvar (2 * i + 1), ← Array.getElem?_toList]
      simpa [Nat.mul_comm] using e1
  intro i hi
  obtain ⟨k, rfl | rfl⟩ : ∃ k, i = 2 * k ∨ i = 2 * k + 1 := ⟨i / 2, by omega⟩
  · exact (key k (by omega)).1
  · exact (key k (by omega)).2

theorem u8_extra : U8Extra Tryz.prog Tryz.laysValid_ren := ⟨by kernel_rfl, by kernel_rfl, by kernel_rfl, by kernel_rfl, by kernel_rfl, by kernel_rfl, by kernel_rfl⟩
theorem u8_accept : Rows.laid_unicode_utf8_acceptRanges (H := Unit) = Lib.acceptData := by rfl
theorem u8_first : Rows.laid_unicode_utf8_first = Lib.firstData := by kernel_rfl
theorem tabs_of {W : World} (h4 : Lib.VarReads Tryz.prog W "unicode/utf8.acceptRanges" Rows.laid_unicode_utf8_acceptRanges) (hk : Lib.VarReads Tryz.prog W "loop.example/g00773/impl.knownSigns" Rows.laid_loop_example_g00773_impl_knownSigns) (h3 : Lib.VarReads Tryz.prog W "unicode/utf8.first" Rows.laid_unicode_utf8_first) : Tabs W := by
  rw [u8_accept] at h4
  rw [u8_first] at h3
  exact ⟨kn_of hk, utf8Tabs_of_readsT (U8Types.of196 Tryz.laysValid) u8_extra h3 h4⟩
end

end Go.Proofs.YtchcdgkpaipkgaaGreatDoor
