/- Names: what a name is known by: KeyOf, Alike, HashOf on both sides: what they answer. -/
import Derived.Test.YtalpeeaaaapijaaDoorRows
import Derived.Test.YtalpeeaaaapijaaDoorNmO
import Derived.Test.YtalpeeaaaapijaaDoorEnc
import Derived.Test.YtalpeeaaaapijaaDoorIEnc
import Derived.Test.YtalpeeaaaapijaaDoorApt
import Derived.Test.YtalpeeaaaapijaaDoorIApt
import Derived.Test.YtalpeeaaaapijaaDoorIFds
import Derived.Test.YtalpeeaaaapijaaDoorSFd
import Derived.Test.YtalpeeaaaapijaaDoorSAp
import Derived.Test.YtalpeeaaaapijaaDoorCrcS
import Derived.Test.YtalpeeaaaapijaaDoorCrcI
namespace Go.Proofs.YtalpeeaaaapijaaDoor
open Go.RowKit

theorem apart_len (l : List Int) : (apartN l).length ≤ 9 * l.length := by
  have := takes_len l
  unfold apartN srtN
  rw [List.length_reverse, srtR_len]
  simp only [List.length_nil]; omega
theorem nameL_some {s : ByteArray} {l : List Int} (h : nameL s = some l) : decN s = some l ∧ l.length ≤ 24 ∧ l.all knB = true := by
  unfold nameL at h
  split at h
  · rename_i hc
    simp only [Bool.and_eq_true] at hc
    have hb := inB_le hc.1.1
    have hd := decN_len s
    cases hd' : decN s with
    | none => rw [hd'] at h; cases h
    | some m =>
      rw [hd'] at h hd
      cases hk : m.all knB
      · simp [hk] at h
      · simp [hk] at h
        subst h
        refine ⟨rfl, ?_, hk⟩
        simp at hd; omega
  · cases h

/-- what a name is known by -/
def keyN (s : ByteArray) : ByteArray × Bool := match nameL s with
  | some l => (⟨(encN (keyL l)).toArray⟩, true)
  | none => (⟨#[]⟩, false)
theorem keyN_none {s : ByteArray} (h : nameL s = none) : keyN s = (⟨#[]⟩, false) := by unfold keyN; rw [h]
theorem keyN_some {s : ByteArray} {l : List Int} (h : nameL s = some l) : keyN s = (⟨(encN (keyL l)).toArray⟩, true) := by unfold keyN; rw [h]
theorem keyN_is (s : ByteArray) : (keyN s).2 = (nameL s).isSome := by
  cases h : nameL s with
  | none => rw [keyN_none h]; rfl
  | some l => rw [keyN_some h]; rfl
theorem keyN_size (s : ByteArray) : (keyN s).1.size ≤ 1048576 := by
  cases h : nameL s with
  | none => rw [keyN_none h]; show (#[] : Array UInt8).size ≤ _; simp
  | some l =>
    rw [keyN_some h]
    have hl := (nameL_some h).2.1
    show (encN (keyL l)).toArray.size ≤ _
    have h1 := encs_len (keyL l)
    have h2 := apart_len (foldsN (apartN l))
    have h3 := folds_len (apartN l)
    have h4 := apart_len l
    unfold encN
    split
    · simp only [List.size_toArray]
      unfold keyL at h1 ⊢
      omega
    · simp

set_option maxRecDepth 100000 in
set_option maxHeartbeats 1000000 in
theorem iKeyOf (s : ByteArray) (w : World) (hT : Tabs w) (hs : s.size ≤ 1048576) :
    Calls Tryd.prog 19 #[.string s] w fun e w' => e = .returned (.tuple #[.string (keyN s).1, .bool (keyN s).2]) ∧ Below w.heap.size w w' := by
  have HS := nameSigns_any s w hT hs
  cases hn : nameL s with
  | none =>
    rw [keyN_none hn]
    rw [hn] at HS
    go_enter Tryd.func19, Tryd.ntmps19
    go_wp2_with (go_at_call 33; refine HS.mono ?_; rintro e w1 ⟨v, rfl, r1, b1⟩)
    go_ret2
    exact ⟨rfl, b1⟩
  | some l =>
    rw [keyN_some hn]
    rw [hn] at HS
    obtain ⟨_, hl, _⟩ := nameL_some hn
    have h4 := apart_len l
    have h3 := folds_len (apartN l)
    have h2 := apart_len (foldsN (apartN l))
    have A1 := fun v w' h => iApart v l w' h (by omega)
    have F1 := fun v w' h => iFold v (apartN l) w' h (by omega)
    have A2 := fun v w' h => iApart v (foldsN (apartN l)) w' h (by omega)
    have E1 := fun v w' h => iEncode v (keyL l) w' (by unfold keyL; omega) h
    have HK : Hid (apartN (foldsN (apartN l)) = keyL l) := rfl
    rw [HK.out] at A2
    generalize (⟨(encN (keyL l)).toArray⟩ : ByteArray) = key at E1 ⊢
    generalize keyL l = kl at A2 E1
    generalize foldsN (apartN l) = fl at F1 A2
    generalize apartN l = al at A1 F1
    clear h2 h3 h4 HK
    go_enter Tryd.func19, Tryd.ntmps19
    go_wp2_with fail
    refine HS.mono ?_
    rintro e w1 ⟨v1, rfl, r1, b1⟩
    go_wp2_with fail
    refine (A1 v1 w1 r1.at).mono ?_
    rintro e w2 ⟨v2, rfl, r2, b2⟩
    have D2 : Below w.heap.size w w2 := b1.trans (b2.mono b1.size)
    go_wp2_with fail
    refine (F1 v2 w2 r2.at).mono ?_
    rintro e w3 ⟨v3, rfl, r3, b3⟩
    have D3 : Below w.heap.size w w3 := D2.trans (b3.mono D2.size)
    go_wp2_with fail
    refine (A2 v3 w3 r3.at).mono ?_
    rintro e w4 ⟨v4, rfl, r4, b4⟩
    have D4 : Below w.heap.size w w4 := D3.trans (b4.mono D3.size)
    go_wp2_with fail
    refine (E1 v4 w4 r4.at).mono ?_
    rintro e w5 ⟨rfl, b5⟩
    go_wp2
    go_ret2
    exact ⟨rfl, D4.trans (b5.mono D4.size)⟩

set_option maxRecDepth 100000 in
set_option maxHeartbeats 1000000 in
theorem sKeyOf (s : ByteArray) (w : World) (hs : s.size ≤ 1048576) :
    Calls Tryd.prog 21 #[.string s] w fun e w' => e = .returned (.tuple #[.string (keyN s).1, .bool (keyN s).2]) ∧ Below w.heap.size w w' := by
  have HN := sNameOk s w hs
  cases hn : nameL s with
  | none =>
    rw [keyN_none hn]
    rw [hn] at HN
    go_enter Tryd.func21, Tryd.ntmps21
    go_wp2_with (go_at_call 12; refine HN.mono ?_; rintro e w1 ⟨rfl, b1⟩)
    go_ret2
    exact ⟨rfl, b1⟩
  | some l =>
    rw [keyN_some hn]
    rw [hn] at HN
    obtain ⟨hd, hl, _⟩ := nameL_some hn
    have HS := fun w' => sDecode s w' hs
    rw [hd] at HS
    have h4 := apart_len l
    have h3 := folds_len (apartN l)
    have h2 := apart_len (foldsN (apartN l))
    have A1 := fun v w' h => sApart v l w' (by omega) h
    have F1 := fun v w' h => sFold v (apartN l) w' (by omega) h
    have A2 := fun v w' h => sApart v (foldsN (apartN l)) w' (by omega) h
    have E1 := fun v w' h => sEncode v (keyL l) w' (by unfold keyL; omega) h
    have HK : Hid (apartN (foldsN (apartN l)) = keyL l) := rfl
    rw [HK.out] at A2
    generalize (⟨(encN (keyL l)).toArray⟩ : ByteArray) = key at E1 ⊢
    generalize keyL l = kl at A2 E1
    generalize foldsN (apartN l) = fl at F1 A2
    generalize apartN l = al at A1 F1
    clear h2 h3 h4 HK hd
    go_enter Tryd.func21, Tryd.ntmps21
    go_wp2_with fail
    refine HN.mono ?_
    rintro e w0 ⟨rfl, b0⟩
    go_wp2_with fail
    refine (HS _).mono ?_
    rintro e w1 ⟨v1, rfl, r1, b1⟩
    have D1 : Below w.heap.size w w1 := b0.trans (b1.mono b0.size)
    go_wp2_with fail
    refine (A1 v1 w1 r1.at).mono ?_
    rintro e w2 ⟨v2, rfl, r2, b2⟩
    have D2 : Below w.heap.size w w2 := D1.trans (b2.mono D1.size)
    go_wp2_with fail
    refine (F1 v2 w2 r2.at).mono ?_
    rintro e w3 ⟨v3, rfl, r3, b3⟩
    have D3 : Below w.heap.size w w3 := D2.trans (b3.mono D2.size)
    go_wp2_with fail
    refine (A2 v3 w3 r3.at).mono ?_
    rintro e w4 ⟨v4, rfl, r4, b4⟩
    have D4 : Below w.heap.size w w4 := D3.trans (b4.mono D3.size)
    go_wp2_with fail
    refine (E1 v4 w4 r4.at).mono ?_
    rintro e w5 ⟨rfl, b5⟩
    go_wp2
    go_ret2
    exact ⟨rfl, D4.trans (b5.mono D4.size)⟩

/-- are two names one? -/
def alikeB (a b : ByteArray) : Bool := (keyN a).2 && (keyN b).2 && ((keyN a).1.toList == (keyN b).1.toList)

set_option maxRecDepth 100000 in
set_option maxHeartbeats 1000000 in
theorem iAlike (a b : ByteArray) (w : World) (hT : Tabs w) (ha : a.size ≤ 1048576) (hb : b.size ≤ 1048576) :
    Calls Tryd.prog 11 #[.string a, .string b] w fun e w' => e = .returned (.bool (alikeB a b)) ∧ Below w.heap.size w w' := by
  have K1 := iKeyOf a w hT ha
  have K2 : ∀ w', Below w.heap.size w w' → _ := fun w' hb' => iKeyOf b w' (hT.below hb') hb
  have HR : Hid (alikeB a b = ((keyN a).2 && (keyN b).2 && ((keyN a).1.toList == (keyN b).1.toList))) := rfl
  generalize alikeB a b = r at HR ⊢
  generalize (keyN a).2 = p at *
  generalize (keyN b).2 = q at *
  generalize (keyN a).1 = x at *
  generalize (keyN b).1 = y at *
  clear hT
  go_enter Tryd.func11, Tryd.ntmps11
  go_wp2_with fail
  refine K1.mono ?_
  rintro e w1 ⟨rfl, b1⟩
  go_wp2_with fail
  refine (K2 w1 b1).mono ?_
  rintro e w2 ⟨rfl, b2⟩
  have D2 : Below w.heap.size w w2 := b1.trans (b2.mono b1.size)
  cases p
  · go_wp2
    go_ret
    exact ⟨by rw [HR.out]; rfl, D2⟩
  · cases q
    · go_wp2
      go_ret
      exact ⟨by rw [HR.out]; rfl, D2⟩
    · go_wp2
      go_ret
      exact ⟨by rw [HR.out]; rfl, D2⟩

set_option maxRecDepth 100000 in
set_option maxHeartbeats 1000000 in
theorem sAlike (a b : ByteArray) (w : World) (ha : a.size ≤ 1048576) (hb : b.size ≤ 1048576) :
    Calls Tryd.prog 13 #[.string a, .string b] w fun e w' => e = .returned (.bool (alikeB a b)) ∧ Below w.heap.size w w' := by
  have K1 := sKeyOf a w ha
  have K2 := fun w' => sKeyOf b w' hb
  have HR : Hid (alikeB a b = ((keyN a).2 && (keyN b).2 && ((keyN a).1.toList == (keyN b).1.toList))) := rfl
  generalize alikeB a b = r at HR ⊢
  generalize (keyN a).2 = p at *
  generalize (keyN b).2 = q at *
  generalize (keyN a).1 = x at *
  generalize (keyN b).1 = y at *
  go_enter Tryd.func13, Tryd.ntmps13
  go_wp2_with fail
  refine K1.mono ?_
  rintro e w1 ⟨rfl, b1⟩
  go_wp2_with fail
  refine (K2 w1).mono ?_
  rintro e w2 ⟨rfl, b2⟩
  have D2 : Below w.heap.size w w2 := b1.trans (b2.mono b1.size)
  cases p
  · go_wp2
    go_ret
    exact ⟨by rw [HR.out]; rfl, D2⟩
  · cases q
    · go_wp2
      go_ret
      exact ⟨by rw [HR.out]; rfl, D2⟩
    · go_wp2
      go_ret
      exact ⟨by rw [HR.out]; rfl, D2⟩

/-- the table of sums lies as the program's text lays it -/
def CrcTab (w : World) : Prop := ∀ i, i < 16 → w.cell? ⟨0, i, none⟩ = some (.int .u32 (tab16.getD i 0))
theorem CrcTab.below {w w' : World} (h : CrcTab w) (hb : Below w.heap.size w w') : CrcTab w' := fun i hi => (hb.cell (p := ⟨0, i, none⟩) (World.block_lt_of_cell? w _ (h i hi))).trans (h i hi)
theorem CrcTab.pos {w : World} (h : CrcTab w) : 0 < w.heap.size := World.block_lt_of_cell? w _ (h 0 (by decide))

def crcV (s : ByteArray) : Int := 4294967295 - (crcN s s.size : Int)
def hashN (s : ByteArray) : Int := if (keyN s).2 then (crcV (keyN s).1).tmod 16 else -1

set_option maxRecDepth 100000 in
set_option maxHeartbeats 1000000 in
theorem iHashOf (s : ByteArray) (w : World) (hT : Tabs w) (hC : CrcTab w) (hs : s.size ≤ 1048576) :
    Calls Tryd.prog 14 #[.string s] w fun e w' => e = .returned (.int .i64 (hashN s)) ∧ Below w.heap.size w w' := by
  have K := iKeyOf s w hT hs
  have C : ∀ w', Below w.heap.size w w' → Calls Tryd.prog 27 #[.string (keyN s).1] w' fun e w'' => e = .returned (.int .i64 (crcV (keyN s).1)) ∧ Below w'.heap.size w' w'' := fun w' hb => iCrc _ (keyN_size s) w' (hC.below hb) (hC.below hb).pos
  have HR : Hid (hashN s = if (keyN s).2 then (crcV (keyN s).1).tmod 16 else -1) := rfl
  generalize hashN s = r at HR ⊢
  generalize crcV (keyN s).1 = c at *
  generalize (keyN s).1 = x at *
  generalize (keyN s).2 = p at *
  clear hT hC
  cases p
  · go_enter Tryd.func14, Tryd.ntmps14
    go_wp2_with (first | (go_at_call 19; refine K.mono ?_; rintro e w1 ⟨rfl, b1⟩))
    go_ret
    exact ⟨ret_int (by rw [HR.out]; rfl), b1⟩
  · go_enter Tryd.func14, Tryd.ntmps14
    go_wp2_with (first | (go_at_call 19; refine K.mono ?_; rintro e w1 ⟨rfl, b1⟩) | (go_at_call 27; refine (C w1 b1).mono ?_; rintro e w2 ⟨rfl, b2⟩))
    go_ret
    exact ⟨ret_int (by rw [HR.out]; rfl), b1.trans (b2.mono b1.size)⟩

set_option maxRecDepth 100000 in
set_option maxHeartbeats 1000000 in
theorem sHashOf (s : ByteArray) (w : World) (hs : s.size ≤ 1048576) :
    Calls Tryd.prog 22 #[.string s] w fun e w' => e = .returned (.int .i64 (hashN s)) ∧ Below w.heap.size w w' := by
  have K := sKeyOf s w hs
  have C : ∀ w', Calls Tryd.prog 37 #[.string (keyN s).1] w' fun e w'' => e = .returned (.int .i64 (crcV (keyN s).1)) ∧ w' = w'' := fun w' => sCrc _ (keyN_size s) w'
  have HR : Hid (hashN s = if (keyN s).2 then (crcV (keyN s).1).tmod 16 else -1) := rfl
  generalize hashN s = r at HR ⊢
  generalize crcV (keyN s).1 = c at *
  generalize (keyN s).1 = x at *
  generalize (keyN s).2 = p at *
  cases p
  · go_enter Tryd.func22, Tryd.ntmps22
    go_wp2_with (first | (go_at_call 21; refine K.mono ?_; rintro e w1 ⟨rfl, b1⟩))
    go_ret
    exact ⟨ret_int (by rw [HR.out]; rfl), b1⟩
  · go_enter Tryd.func22, Tryd.ntmps22
    go_wp2_with (first | (go_at_call 21; refine K.mono ?_; rintro e w1 ⟨rfl, b1⟩) | (go_at_call 37; refine (C w1).mono ?_; rintro e w2 ⟨rfl, rfl⟩))
    go_ret
    exact ⟨ret_int (by rw [HR.out]; rfl), b1⟩

end Go.Proofs.YtalpeeaaaapijaaDoor
