/- Names: what a name is known by: KeyOf, Alike, HashOf on both sides: what they answer. Names: what the program's own tables and the library's hold when a call begins: their cells. Signs in rows: what Units comes to. No word of the program. Names in order: what Starts and Glob come to. No word of the program. -/
import Derived.Test.YtlkemmdcjnaepaaDoorRows
import Derived.Test.YtlkemmdcjnaepaaDoorG05
import Derived.Test.YtlkemmdcjnaepaaDoorG02
import Derived.Test.YtlkemmdcjnaepaaDoorG10
import Derived.Test.YtlkemmdcjnaepaaDoorG17
import Derived.Test.YtlkemmdcjnaepaaDoorG18
import Derived.Test.YtlkemmdcjnaepaaDoorG00
import Derived.Lib.LaidTab
import Derived.Lib.LaidU8
import Derived.Lib.LaidU8T
namespace Go.Proofs.YtlkemmdcjnaepaaDoor

section
open Go.RowKit

theorem apart_len (l : List Int) : (apartN l).length ≤ 9 * l.length := by
  have := takes_len l
  unfold apartN srtN
  rw [List.length_reverse, srtR_len]
  simp only [List.length_nil]; omega
theorem nameL_some {s : ByteArray} {l : List Int} (h : nameL s = some l) : decN s = some l ∧ l.length ≤ 24 ∧ l.all knB = true := by
  unfold nameL at h
  split at h
  · rename_i hc
    simp only [Bool.and_eq_true] at hc
    have hb := inB_le hc.1.1
    have hd := decN_len s
    cases hd' : decN s with
    | none => rw [hd'] at h; cases h
    | some m =>
      rw [hd'] at h hd
      cases hk : m.all knB
      · simp [hk] at h
      · simp [hk] at h
        subst h
        refine ⟨rfl, ?_, hk⟩
        simp at hd; omega
  · cases h

/-- what a name is known by -/
def keyN (s : ByteArray) : ByteArray × Bool := match nameL s with
  | some l => (⟨(encN (keyL l)).toArray⟩, true)
  | none => (⟨#[]⟩, false)
theorem keyN_none {s : ByteArray} (h : nameL s = none) : keyN s = (⟨#[]⟩, false) := by unfold keyN; rw [h]
theorem keyN_some {s : ByteArray} {l : List Int} (h : nameL s = some l) : keyN s = (⟨(encN (keyL l)).toArray⟩, true) := by unfold keyN; rw [h]
theorem keyN_is (s : ByteArray) : (keyN s).2 = (nameL s).isSome := by
  cases h : nameL s with
  | none => rw [keyN_none h]; rfl
  | some l => rw [keyN_some h]; rfl
theorem keyN_size (s : ByteArray) : (keyN s).1.size ≤ 1048576 := by
  cases h : nameL s with
  | none => rw [keyN_none h]; show (#[] : Array UInt8).size ≤ _; simp
  | some l =>
    rw [keyN_some h]
    have hl := (nameL_some h).2.1
    show (encN (keyL l)).toArray.size ≤ _
    have h1 := encs_len (keyL l)
    have h2 := apart_len (foldsN (apartN l))
    have h3 := folds_len (apartN l)
    have h4 := apart_len l
    unfold encN
    split
    · simp only [List.size_toArray]
      unfold keyL at h1 ⊢
      omega
    · simp

set_option maxRecDepth 100000 in
set_option maxHeartbeats 1000000 in
theorem iKeyOf (s : ByteArray) (w : World) (hT : Tabs w) (hs : s.size ≤ 1048576) :
    Calls Tryd.prog 58 #[.string s] w fun e w' => e = .returned (.tuple #[.string (keyN s).1, .bool (keyN s).2]) ∧ Below w.heap.size w w' := by
  have HS := nameSigns_any s w hT hs
  cases hn : nameL s with
  | none =>
    rw [keyN_none hn]
    rw [hn] at HS
    go_enter Tryd.func58, Tryd.ntmps58
    go_wp2_with (go_at_call 82; refine HS.mono ?_; rintro e w1 ⟨v, rfl, r1, b1⟩)
    go_ret2
    exact ⟨rfl, b1⟩
  | some l =>
    rw [keyN_some hn]
    rw [hn] at HS
    obtain ⟨_, hl, _⟩ := nameL_some hn
    have h4 := apart_len l
    have h3 := folds_len (apartN l)
    have h2 := apart_len (foldsN (apartN l))
    have A1 := fun v w' h => iApart v l w' h (by omega)
    have F1 := fun v w' h => iFold v (apartN l) w' h (by omega)
    have A2 := fun v w' h => iApart v (foldsN (apartN l)) w' h (by omega)
    have E1 := fun v w' h => iEncode v (keyL l) w' (by unfold keyL; omega) h
    have HK : Hid (apartN (foldsN (apartN l)) = keyL l) := rfl
    rw [HK.out] at A2
    generalize (⟨(encN (keyL l)).toArray⟩ : ByteArray) = key at E1 ⊢
    generalize keyL l = kl at A2 E1
    generalize foldsN (apartN l) = fl at F1 A2
    generalize apartN l = al at A1 F1
    clear h2 h3 h4 HK
    go_enter Tryd.func58, Tryd.ntmps58
    go_wp2_with fail
    refine HS.mono ?_
    rintro e w1 ⟨v1, rfl, r1, b1⟩
    go_wp2_with fail
    refine (A1 v1 w1 r1.at).mono ?_
    rintro e w2 ⟨v2, rfl, r2, b2⟩
    have D2 : Below w.heap.size w w2 := b1.trans (b2.mono b1.size)
    go_wp2_with fail
    refine (F1 v2 w2 r2.at).mono ?_
    rintro e w3 ⟨v3, rfl, r3, b3⟩
    have D3 : Below w.heap.size w w3 := D2.trans (b3.mono D2.size)
    go_wp2_with fail
    refine (A2 v3 w3 r3.at).mono ?_
    rintro e w4 ⟨v4, rfl, r4, b4⟩
    have D4 : Below w.heap.size w w4 := D3.trans (b4.mono D3.size)
    go_wp2_with fail
    refine (E1 v4 w4 r4.at).mono ?_
    rintro e w5 ⟨rfl, b5⟩
    go_wp2
    go_ret2
    exact ⟨rfl, D4.trans (b5.mono D4.size)⟩

set_option maxRecDepth 100000 in
set_option maxHeartbeats 1000000 in
theorem sKeyOf (s : ByteArray) (w : World) (hs : s.size ≤ 1048576) :
    Calls Tryd.prog 39 #[.string s] w fun e w' => e = .returned (.tuple #[.string (keyN s).1, .bool (keyN s).2]) ∧ Below w.heap.size w w' := by
  have HN := sNameOk s w hs
  cases hn : nameL s with
  | none =>
    rw [keyN_none hn]
    rw [hn] at HN
    go_enter Tryd.func39, Tryd.ntmps39
    go_wp2_with (go_at_call 16; refine HN.mono ?_; rintro e w1 ⟨rfl, b1⟩)
    go_ret2
    exact ⟨rfl, b1⟩
  | some l =>
    rw [keyN_some hn]
    rw [hn] at HN
    obtain ⟨hd, hl, _⟩ := nameL_some hn
    have HS := fun w' => sDecode s w' hs
    rw [hd] at HS
    have h4 := apart_len l
    have h3 := folds_len (apartN l)
    have h2 := apart_len (foldsN (apartN l))
    have A1 := fun v w' h => sApart v l w' (by omega) h
    have F1 := fun v w' h => sFold v (apartN l) w' (by omega) h
    have A2 := fun v w' h => sApart v (foldsN (apartN l)) w' (by omega) h
    have E1 := fun v w' h => sEncode v (keyL l) w' (by unfold keyL; omega) h
    have HK : Hid (apartN (foldsN (apartN l)) = keyL l) := rfl
    rw [HK.out] at A2
    generalize (⟨(encN (keyL l)).toArray⟩ : ByteArray) = key at E1 ⊢
    generalize keyL l = kl at A2 E1
    generalize foldsN (apartN l) = fl at F1 A2
    generalize apartN l = al at A1 F1
    clear h2 h3 h4 HK hd
    go_enter Tryd.func39, Tryd.ntmps39
    go_wp2_with fail
    refine HN.mono ?_
    rintro e w0 ⟨rfl, b0⟩
    go_wp2_with fail
    refine (HS _).mono ?_
    rintro e w1 ⟨v1, rfl, r1, b1⟩
    have D1 : Below w.heap.size w w1 := b0.trans (b1.mono b0.size)
    go_wp2_with fail
    refine (A1 v1 w1 r1.at).mono ?_
    rintro e w2 ⟨v2, rfl, r2, b2⟩
    have D2 : Below w.heap.size w w2 := D1.trans (b2.mono D1.size)
    go_wp2_with fail
    refine (F1 v2 w2 r2.at).mono ?_
    rintro e w3 ⟨v3, rfl, r3, b3⟩
    have D3 : Below w.heap.size w w3 := D2.trans (b3.mono D2.size)
    go_wp2_with fail
    refine (A2 v3 w3 r3.at).mono ?_
    rintro e w4 ⟨v4, rfl, r4, b4⟩
    have D4 : Below w.heap.size w w4 := D3.trans (b4.mono D3.size)
    go_wp2_with fail
    refine (E1 v4 w4 r4.at).mono ?_
    rintro e w5 ⟨rfl, b5⟩
    go_wp2
    go_ret2
    exact ⟨rfl, D4.trans (b5.mono D4.size)⟩

/-- are two names one? -/
def alikeB (a b : ByteArray) : Bool := (keyN a).2 && (keyN b).2 && ((keyN a).1.toList == (keyN b).1.toList)


set_option maxRecDepth 100000 in
set_option maxHeartbeats 1000000 in
theorem sAlike (a b : ByteArray) (w : World) (ha : a.size ≤ 1048576) (hb : b.size ≤ 1048576) :
    Calls Tryd.prog 15 #[.string a, .string b] w fun e w' => e = .returned (.bool (alikeB a b)) ∧ Below w.heap.size w w' := by
  have K1 := sKeyOf a w ha
  have K2 := fun w' => sKeyOf b w' hb
  have HR : Hid (alikeB a b = ((keyN a).2 && (keyN b).2 && ((keyN a).1.toList == (keyN b).1.toList))) := rfl
  generalize alikeB a b = r at HR ⊢
  generalize (keyN a).2 = p at *
  generalize (keyN b).2 = q at *
  generalize (keyN a).1 = x at *
  generalize (keyN b).1 = y at *
  go_enter Tryd.func15, Tryd.ntmps15
  go_wp2_with fail
  refine K1.mono ?_
  rintro e w1 ⟨rfl, b1⟩
  go_wp2_with fail
  refine (K2 w1).mono ?_
  rintro e w2 ⟨rfl, b2⟩
  have D2 : Below w.heap.size w w2 := b1.trans (b2.mono b1.size)
  cases p
  · go_wp2
    go_ret
    exact ⟨by rw [HR.out]; rfl, D2⟩
  · cases q
    · go_wp2
      go_ret
      exact ⟨by rw [HR.out]; rfl, D2⟩
    · go_wp2
      go_ret
      exact ⟨by rw [HR.out]; rfl, D2⟩

def hashN (s : ByteArray) : Int := if (keyN s).2 then (crcV (keyN s).1).tmod 16 else -1
end

section
open Go.RowKit

theorem kn_gTab : Tryd.prog.globalNamed "loop.example/g00773/impl.knownSigns" = some 2 := by kernel_rfl
theorem kn_tTab : (Tryd.prog.globals[2]?).map (·.type) = some 127 := by kernel_rfl
theorem kn_cellsE : Tryd.prog.cellsOf 3 = 1 := by kernel_rfl
theorem kn_cellsR : Tryd.prog.cellsOf 126 = 2 := by kernel_rfl
theorem kn_datum : Rows.laid_loop_example_g00773_impl_knownSigns (H := Unit) = .agg ((List.range 27).map fun i => .agg ([ikT.getD (2 * i) 0, ikT.getD (2 * i + 1) 0].map fun z => .lit (.int .i64 z))) := by rfl

theorem kn_of {W : World} (hr : Lib.VarReads Tryd.prog W "loop.example/g00773/impl.knownSigns" Rows.laid_loop_example_g00773_impl_knownSigns) : ∀ i, i < 54 → W.cell? ⟨2, i, none⟩ = some (.int .i64 (ikT.getD i 0)) := by
  obtain ⟨g, t, cs, fuel, p, hg, hty, hvar, hd⟩ := hr
  obtain rfl := Option.some.inj (kn_gTab.symm.trans hg)
  obtain rfl := Option.some.inj (kn_tTab.symm.trans hty)
  rw [kn_datum] at hd
  have key : ∀ i, i < 27 → W.cell? ⟨2, 2 * i, none⟩ = some (.int .i64 (ikT.getD (2 * i) 0)) ∧ W.cell? ⟨2, 2 * i + 1, none⟩ = some (.int .i64 (ikT.getD (2 * i + 1) 0)) := by
    intro i hi
    obtain ⟨fuel', d, q, hdi, he⟩ := Lib.array_elem Tryd.underlying127 hd i hi
    simp only [List.getElem?_map, List.getElem?_range hi, Option.map_some, Option.some.injEq] at hdi
    subst hdi
    rw [kn_cellsR] at he
    have hcs := Lib.ints_of_struct Tryd.underlying126 (fun j f hj => by
      match j, hj with
      | 0, hj => simp at hj; subst hj; exact ⟨Tryd.underlying3, rfl, kn_cellsE⟩
      | 1, hj => simp at hj; subst hj; exact ⟨Tryd.underlying3, rfl, kn_cellsE⟩
      | j + 2, hj => simp at hj) (by rw [kn_cellsR]; rfl) he
    have e0 := congrArg (·[0]?) hcs
    have e1 := congrArg (·[1]?) hcs
    simp only [List.getElem?_take, List.getElem?_drop] at e0 e1
    constructor
    · rw [World.var?_cell hg hvar (2 * i), ← Array.getElem?_toList]
      simpa [Nat.mul_comm] using e0
    · rw [World.var?_cell hg hvar (2 * i + 1), ← Array.getElem?_toList]
      simpa [Nat.mul_comm] using e1
  intro i hi
  obtain ⟨k, rfl | rfl⟩ : ∃ k, i = 2 * k ∨ i = 2 * k + 1 := ⟨i / 2, by omega⟩
  · exact (key k (by omega)).1
  · exact (key k (by omega)).2

theorem u8_extra : U8Extra Tryd.prog Tryd.laysValid_ren := ⟨by kernel_rfl, by kernel_rfl, by kernel_rfl, by kernel_rfl, by kernel_rfl, by kernel_rfl, by kernel_rfl⟩
theorem u8_accept : Rows.laid_unicode_utf8_acceptRanges (H := Unit) = Lib.acceptData := by rfl
theorem u8_first : Rows.laid_unicode_utf8_first = Lib.firstData := by kernel_rfl
theorem tabs_of {W : World} (h4 : Lib.VarReads Tryd.prog W "unicode/utf8.acceptRanges" Rows.laid_unicode_utf8_acceptRanges) (hk : Lib.VarReads Tryd.prog W "loop.example/g00773/impl.knownSigns" Rows.laid_loop_example_g00773_impl_knownSigns) (h3 : Lib.VarReads Tryd.prog W "unicode/utf8.first" Rows.laid_unicode_utf8_first) : Tabs W := by
  rw [u8_accept] at h4
  rw [u8_first] at h3
  exact ⟨kn_of hk, utf8Tabs_of_readsT (U8Types.of196 Tryd.laysValid) u8_extra h3 h4⟩
end

section
/-- rows of signs, each begun by a letter or by the first sign of all -/
structure UnR (l : List Int) (us : List (List Int)) : Prop where
  all : us.flatten = l
  one : ∀ u ∈ us, ∃ a t, u = a :: t ∧ ∀ x ∈ t, clsN x ≠ 0
  beg : ∀ u ∈ us.tail, clsN (u.headD 0) = 0
def unitsN : List Int → List (List Int)
  | [] => []
  | x :: l => match unitsN l with
    | [] => [[x]]
    | u :: us => if clsN (u.headD 0) = 0 then [x] :: u :: us else (x :: u) :: us
theorem units_right : ∀ l, UnR l (unitsN l)
  | [] => ⟨rfl, fun u h => (by cases h), fun u h => (by cases h)⟩
  | x :: l => by
    have ih := units_right l
    unfold unitsN
    cases h : unitsN l with
    | nil =>
      rw [h] at ih
      have hl : l = [] := ih.all.symm
      refine ⟨by rw [hl]; rfl, fun u hu => ?_, fun u hu => (by cases hu)⟩
      obtain rfl : u = [x] := by simpa using hu
      exact ⟨x, [], rfl, fun y hy => by cases hy⟩
    | cons u us =>
      rw [h] at ih
      obtain ⟨a, t, e, ht⟩ := ih.one u (by simp)
      dsimp only
      by_cases hc : clsN (u.headD 0) = 0
      · rw [if_pos hc]
        refine ⟨by rw [← ih.all]; rfl, fun v hv => ?_, fun v hv => ?_⟩
        · rcases List.mem_cons.1 hv with rfl | hv
          · exact ⟨x, [], rfl, fun y hy => by cases hy⟩
          · exact ih.one v hv
        · rcases List.mem_cons.1 hv with rfl | hv
          · exact hc
          · exact ih.beg v hv
      · rw [if_neg hc]
        refine ⟨by rw [← ih.all]; rfl, fun v hv => ?_, fun v hv => ih.beg v hv⟩
        rcases List.mem_cons.1 hv with rfl | hv
        · refine ⟨x, u, rfl, fun y hy => ?_⟩
          rw [e] at hy hc
          rcases List.mem_cons.1 hy with rfl | hy
          · exact hc
          · exact ht y hy
        · exact ih.one v (by simp [hv])
theorem units_uniq : ∀ (us : List (List Int)) (l : List Int), UnR l us → us = unitsN l
  | [], l, h => by rw [← h.all]; rfl
  | u :: us, l, h => by
    obtain ⟨a, t, rfl, ht⟩ := h.one u (by simp)
    have hrest : UnR us.flatten us := ⟨rfl, fun v hv => h.one v (by simp [hv]), fun v hv => h.beg v (List.mem_of_mem_tail hv)⟩
    have hu := units_uniq us us.flatten hrest
    have key : ∀ (t : List Int) (a : Int), (∀ x ∈ t, clsN x ≠ 0) → unitsN (a :: (t ++ us.flatten)) = (a :: t) :: us := by
      intro t
      induction t with
      | nil =>
        intro a _
        show unitsN (a :: us.flatten) = _
        unfold unitsN
        rw [← hu]
        cases us with
        | nil => rfl
        | cons v vs => dsimp only; rw [if_pos (h.beg v (by simp))]
      | cons b t ih =>
        intro a hb
        have := ih b fun x hx => hb x (by simp [hx])
        show unitsN (a :: b :: (t ++ us.flatten)) = _
        unfold unitsN
        rw [this]
        dsimp only
        rw [if_neg]
        exact hb b (by simp)
    rw [← h.all]
    exact (key t a ht).symm
theorem units_len (l : List Int) : (unitsN l).length ≤ l.length := by
  have h := units_right l
  have key : ∀ us : List (List Int), (∀ u ∈ us, ∃ a t, u = a :: t ∧ ∀ x ∈ t, clsN x ≠ 0) → us.length ≤ us.flatten.length := by
    intro us
    induction us with
    | nil => intro _; exact Nat.le_refl _
    | cons u us ih =>
      intro hu
      obtain ⟨a, t, rfl, _⟩ := hu u (by simp)
      have := ih fun v hv => hu v (by simp [hv])
      simp at this ⊢
      omega
  have := key _ h.one
  rwa [h.all] at this
/-- a row more -/
theorem UnR.more {l : List Int} {us : List (List Int)} {m : List Int} (h : UnR l us) (a : Int) (t : List Int) (hm : m = a :: t) (ht : ∀ x ∈ t, clsN x ≠ 0) (hb : us ≠ [] → clsN a = 0) : UnR (l ++ m) (us ++ [m]) := by
  refine ⟨by simp [h.all], fun u hu => ?_, fun u hu => ?_⟩
  · rcases List.mem_append.1 hu with hu | hu
    · exact h.one u hu
    · rw [List.mem_singleton.1 hu]; exact ⟨a, t, hm, ht⟩
  · cases us with
    | nil => cases hu
    | cons v vs =>
      rcases List.mem_append.1 (show u ∈ vs ++ [m] from hu) with hu | hu
      · exact h.beg u hu
      · rw [List.mem_singleton.1 hu, hm]; exact hb (by simp)
theorem UnR.nil : UnR [] [] := ⟨rfl, fun u h => (by cases h), fun u h => (by cases h)⟩
end

section
def starN (f : List (List Int) → Bool) : List (List Int) → Bool
  | [] => f []
  | x :: n => f (x :: n) || starN f n
/-- do units fit those of a pattern? -/
def fitsN : List (List Int) → List (List Int) → Bool
  | [], n => n.isEmpty
  | p :: ps, n => if p = [42] then starN (fitsN ps) n else match n with
    | [] => false
    | x :: m => (decide (p = [63]) || decide (p = x)) && fitsN ps m
def segB (p : List Int) (s : List (List Int)) : Prop := p = [42] ∨ (p ≠ [42] ∧ ∃ x, s = [x] ∧ (p = [63] ∨ p = x))
/-- the units fall into pieces, one a unit of the pattern -/
def Segs : List (List Int) → List (List (List Int)) → Prop
  | [], ss => ss = []
  | p :: ps, ss => ∃ s rest, ss = s :: rest ∧ segB p s ∧ Segs ps rest
theorem starN_iff (f : List (List Int) → Bool) : ∀ n, starN f n = true ↔ ∃ a b, n = a ++ b ∧ f b = true
  | [] => by
    unfold starN
    constructor
    · intro h; exact ⟨[], [], rfl, h⟩
    · rintro ⟨a, b, e, h⟩
      obtain ⟨rfl, rfl⟩ := List.append_eq_nil_iff.1 e.symm
      exact h
  | x :: n => by
    unfold starN
    rw [Bool.or_eq_true, starN_iff f n]
    constructor
    · rintro (h | ⟨a, b, rfl, h⟩)
      · exact ⟨[], _, rfl, h⟩
      · exact ⟨x :: a, b, rfl, h⟩
    · rintro ⟨a, b, e, h⟩
      cases a with
      | nil => left; rw [show x :: n = b from e]; exact h
      | cons y a =>
        right
        injection e with e1 e2
        exact ⟨a, b, e2, h⟩
theorem fits_iff : ∀ p n, fitsN p n = true ↔ ∃ ss, Segs p ss ∧ ss.flatten = n
  | [], n => by
    unfold fitsN
    constructor
    · intro h; exact ⟨[], rfl, (List.isEmpty_iff.1 h).symm⟩
    · rintro ⟨ss, rfl, rfl⟩; rfl
  | p :: ps, n => by
    unfold fitsN
    by_cases hp : p = [42]
    · rw [if_pos hp, starN_iff]
      constructor
      · rintro ⟨a, b, rfl, h⟩
        obtain ⟨ss, h1, rfl⟩ := (fits_iff ps b).1 h
        exact ⟨a :: ss, ⟨a, ss, rfl, .inl hp, h1⟩, rfl⟩
      · rintro ⟨_, ⟨s, rest, rfl, _, h1⟩, rfl⟩
        exact ⟨s, rest.flatten, rfl, (fits_iff ps _).2 ⟨rest, h1, rfl⟩⟩
    · rw [if_neg hp]
      cases n with
      | nil =>
        constructor
        · intro h; cases h
        · rintro ⟨_, ⟨s, rest, rfl, h | ⟨_, x, rfl, _⟩, _⟩, e⟩
          · exact absurd h hp
          · simp at e
      | cons x m =>
        dsimp only
        rw [Bool.and_eq_true, Bool.or_eq_true, decide_eq_true_eq, decide_eq_true_eq, fits_iff ps m]
        constructor
        · rintro ⟨hq, ss, h1, rfl⟩
          exact ⟨[x] :: ss, ⟨[x], ss, rfl, .inr ⟨hp, x, rfl, hq⟩, h1⟩, rfl⟩
        · rintro ⟨_, ⟨s, rest, rfl, h | ⟨_, y, rfl, hq⟩, h1⟩, e⟩
          · exact absurd h hp
          · injection e with e1 e2
            subst e1
            exact ⟨hq, rest, h1, e2⟩
theorem segs_snoc : ∀ (p : List (List Int)) (q : List Int) (ss : List (List (List Int))), Segs (p ++ [q]) ss ↔ ∃ a s, ss = a ++ [s] ∧ Segs p a ∧ segB q s
  | [], q, ss => by
    show (∃ s rest, ss = s :: rest ∧ segB q s ∧ Segs [] rest) ↔ _
    constructor
    · rintro ⟨s, rest, rfl, h, rfl⟩; exact ⟨[], s, rfl, rfl, h⟩
    · rintro ⟨a, s, rfl, rfl, h⟩; exact ⟨s, [], rfl, h, rfl⟩
  | p :: ps, q, ss => by
    show (∃ s rest, ss = s :: rest ∧ segB p s ∧ Segs (ps ++ [q]) rest) ↔ _
    constructor
    · rintro ⟨s, rest, rfl, h, h1⟩
      obtain ⟨a, t, rfl, h2, h3⟩ := (segs_snoc ps q rest).1 h1
      exact ⟨s :: a, t, rfl, ⟨s, a, rfl, h, h2⟩, h3⟩
    · rintro ⟨_, t, rfl, ⟨s, rest, rfl, h, h1⟩, h3⟩
      exact ⟨s, rest ++ [t], rfl, h, (segs_snoc ps q _).2 ⟨rest, t, rfl, h1, h3⟩⟩
theorem segB_rev {p : List Int} {s : List (List Int)} (h : segB p s) : segB p s.reverse := by
  rcases h with h | ⟨h, x, rfl, hx⟩
  · exact .inl h
  · exact .inr ⟨h, x, rfl, hx⟩
theorem segs_rev : ∀ (p : List (List Int)) (ss : List (List (List Int))), Segs p ss → Segs p.reverse (ss.map List.reverse).reverse
  | [], _, rfl => rfl
  | p :: ps, _, ⟨s, rest, rfl, h, h1⟩ => by
    rw [List.reverse_cons, segs_snoc]
    exact ⟨(rest.map List.reverse).reverse, s.reverse, by simp, segs_rev ps rest h1, segB_rev h⟩
theorem flat_rev : ∀ ss : List (List (List Int)), (ss.map List.reverse).reverse.flatten = ss.flatten.reverse
  | [] => rfl
  | s :: ss => by simp [flat_rev ss]
/-- a pattern fits backward what it fits forward -/
theorem fits_rev (p n : List (List Int)) : fitsN p.reverse n.reverse = fitsN p n := by
  have key : ∀ p n, fitsN p n = true → fitsN p.reverse n.reverse = true := fun p n h => by
    obtain ⟨ss, h1, rfl⟩ := (fits_iff p n).1 h
    exact (fits_iff _ _).2 ⟨_, segs_rev p ss h1, flat_rev ss⟩
  rw [Bool.eq_iff_iff]
  exact ⟨fun h => by have := key _ _ h; rwa [List.reverse_reverse, List.reverse_reverse] at this, key p n⟩
theorem fits_self : ∀ u, fitsN u u = true
  | [] => rfl
  | p :: ps => by
    unfold fitsN
    have := fits_self ps
    by_cases hp : p = [42]
    · rw [if_pos hp, starN_iff]; exact ⟨[p], ps, rfl, this⟩
    · rw [if_neg hp]; simp [this]
theorem fits_star : ∀ (u n : List (List Int)), [42] ∉ u → [63] ∉ u → fitsN (u ++ [[42]]) n = u.isPrefixOf n
  | [], n, _, _ => by
    show fitsN [[42]] n = true
    unfold fitsN
    rw [if_pos rfl, starN_iff]
    exact ⟨n, [], by simp, rfl⟩
  | p :: u, n, h1, h2 => by
    have ih := fun m => fits_star u m (fun h => h1 (by simp [h])) (fun h => h2 (by simp [h]))
    have e1 : p ≠ [42] := fun e => h1 (by simp [e])
    have e2 : p ≠ [63] := fun e => h2 (by simp [e])
    show fitsN (p :: (u ++ [[42]])) n = _
    unfold fitsN
    rw [if_neg e1]
    cases n with
    | nil => rfl
    | cons x m =>
      dsimp only
      rw [ih m, decide_eq_false e2, Bool.false_or]
      simp only [List.isPrefixOf]
      congr 1
      by_cases e : p = x <;> simp [e]
end

end Go.Proofs.YtlkemmdcjnaepaaDoor
