/- Names: is a text a name? impl.nameSigns, impl.NameOk, spec.NameOk: what they answer. Signs: impl.isSign. Signs: impl.Encode: its contract, over the library's contract of utf8.AppendRune. Signs: spec.l3Row. -/
import Derived.Test.YtlkemmdcjnaepaaDoorRows
import Derived.Test.YtlkemmdcjnaepaaDoorG00
import Derived.Test.YtlkemmdcjnaepaaDoorG01
import Derived.Test.YtlkemmdcjnaepaaDoorG04
import Derived.Test.YtlkemmdcjnaepaaDoorShelf
import Derived.Test.YtlkemmdcjnaepaaDoorG02
import Derived.WalkKit
import Derived.WalkSpells
import Derived.WalkLawsBesides
namespace Go.Proofs.YtlkemmdcjnaepaaDoor

section
open Go.RowKit

/-- the tables that the program reads lie as its text lays them -/
structure Tabs (w : World) : Prop where
  kn : ∀ i, i < 54 → w.cell? ⟨2, i, none⟩ = some (.int .i64 (ikT.getD i 0))
  utf : Lib.Utf8Tabs (Tryd.laysValid_ren.g 3) (Tryd.laysValid_ren.g 4) w
theorem Tabs.below {w w' : World} (h : Tabs w) (hb : Below w.heap.size w w') : Tabs w' :=
  ⟨fun i hi => (hb.cell (p := ⟨2, i, none⟩) (World.block_lt_of_cell? w _ (h.kn i hi))).trans (h.kn i hi),
   ⟨fun c hc => (hb.cell (p := ⟨_, c, none⟩) (World.block_lt_of_cell? w _ (h.utf.1 c hc))).trans (h.utf.1 c hc),
    fun i hi => ⟨(hb.cell (p := ⟨_, 2 * i, none⟩) (World.block_lt_of_cell? w _ (h.utf.2 i hi).1)).trans (h.utf.2 i hi).1, (hb.cell (p := ⟨_, 2 * i + 1, none⟩) (World.block_lt_of_cell? w _ (h.utf.2 i hi).2)).trans (h.utf.2 i hi).2⟩⟩⟩

theorem all_yes (p : Int → Bool) (l : List Int) (h : ∀ t, t < l.length → p (l.getD t 0) = true) : l.all p = true := by
  rw [List.all_eq_true]
  intro c hc
  obtain ⟨t, ht, rfl⟩ := List.mem_iff_getElem.1 hc
  have := h t ht
  simpa [List.getD, ht] using this
theorem all_no (p : Int → Bool) (l : List Int) (t : Nat) (ht : t < l.length) (h : p (l.getD t 0) = false) : l.all p = false := by
  rw [List.all_eq_false]
  refine ⟨l.getD t 0, ?_, by rw [h]; simp⟩
  simp [List.getD, ht]

set_option maxRecDepth 100000 in
set_option maxHeartbeats 1000000 in
theorem allKnown_any (v : Value) (l : List Int) (w : World) (hl : l.length ≤ 1048576) (hv : IntsAt w v l) (hT : Tabs w) :
    Calls Tryd.prog 100 #[v] w fun e w' => e = .returned (.bool (l.all knB)) ∧ Below w.heap.size w w' := by
  obtain ⟨a, ca, rfl, hc⟩ := hv
  have HC : Hid (∀ t, t < l.length → ∃ b off, a = some ⟨b, off, none⟩ ∧ b < w.heap.size ∧ w.cell? ⟨b, off + t, none⟩ = some (.int .i64 (l.getD t 0))) := hc
  have HY := all_yes knB l
  have HNO := all_no knB l
  have HK : Hid (∀ c w', Below w.heap.size w w' → Calls Tryd.prog 109 #[.int .i64 c] w' fun e w'' => e = .returned (.bool (knB c)) ∧ Below w'.heap.size w' w'') := fun c w' hb => iKnown c w' (hT.below hb).kn
  obtain ⟨n, HN⟩ : ∃ n, Hid (n = l.length) := ⟨_, rfl⟩
  rw [← HN.out] at hl HY HNO ⊢
  generalize l.all knB = r at HY HNO ⊢
  clear hc hT
  go_enter Tryd.func100, Tryd.ntmps100
  go_wp2
  go_loopw [7] (fun vi wr => ∃ k : Nat, k ≤ n ∧ vi = .int .i64 k ∧ Hid (∀ t, t < k → knB (l.getD t 0) = true) ∧ Below w.heap.size w wr) (fun vi _ => n - (intOf vi).toNat)
  case atStart => exact ⟨0, Nat.zero_le _, rfl, fun t ht => by omega, Below.refl _ _⟩
  case round =>
    obtain ⟨k, hk, rfl, HP, hbel⟩ := hrel
    by_cases hlt : k < n
    · have hltz : (k : Int) < (n : Int) := by omega
      obtain ⟨b1, o1, rfl, hb1, hc1⟩ := HC.out k (by have := HN.out; omega)
      have hc2 : wr.cell? ⟨b1, o1 + k, none⟩ = some (.int .i64 (l.getD k 0)) := (hbel.cell (p := ⟨b1, o1 + k, none⟩) hb1).trans hc1
      have hKN := HK.out (l.getD k 0) wr hbel
      have hno := HNO k hlt
      have HST : Hid (knB (l.getD k 0) = true → ∀ t, t < k + 1 → knB (l.getD t 0) = true) := fun h t ht => by
        by_cases hq : t = k
        · rw [hq]; exact h
        · exact HP.out t (by omega)
      generalize knB (l.getD k 0) = q at *
      clear hc1
      generalize l.getD k 0 = x at *
      cases q
      · obtain rfl := hno rfl
        go_wp2_with (go_at_call 109; refine hKN.mono ?_; rintro e w1 ⟨rfl, b1⟩)
        go_ret
        exact ⟨rfl, hbel.trans (b1.mono hbel.size)⟩
      · have HP2 : Hid _ := HST.out rfl
        go_wp2_with (go_at_call 109; refine hKN.mono ?_; rintro e w1 ⟨rfl, b1⟩)
        go_roundw
        case rel => exact ⟨k + 1, by omega, by go_num, HP2, hbel.trans (b1.mono hbel.size)⟩
        case measure => simp [intOf]; omega
    · obtain rfl : k = n := by omega
      obtain rfl := HY HP.out
      go_wp2
      go_ret
      exact ⟨rfl, hbel⟩

/-- the signs of a name -/
def nameL (s : ByteArray) : Option (List Int) :=
  if inB (s.size : Int) 1 24 && !(s.toList == [46]) && !(s.toList == [46, 46]) then (match decN s with | some l => if l.all knB then some l else none | none => none) else none
theorem nameL_short {s : ByteArray} (h : inB (s.size : Int) 1 24 = false) : nameL s = none := by unfold nameL; rw [h]; rfl
theorem nameL_one {s : ByteArray} (h : (s.toList == [46]) = true) : nameL s = none := by unfold nameL; rw [h]; simp
theorem nameL_two {s : ByteArray} (h : (s.toList == [46, 46]) = true) : nameL s = none := by unfold nameL; rw [h]; simp
theorem nameL_dec {s : ByteArray} (h1 : inB (s.size : Int) 1 24 = true) (h2 : (s.toList == [46]) = false) (h3 : (s.toList == [46, 46]) = false) : nameL s = (match decN s with | some l => if l.all knB then some l else none | none => none) := by
  unfold nameL; rw [h1, h2, h3]; rfl

set_option maxRecDepth 100000 in
set_option maxHeartbeats 2000000 in
theorem nameSigns_any (s : ByteArray) (w : World) (hT : Tabs w) (hs : s.size ≤ 1048576) :
    Calls Tryd.prog 82 #[.string s] w fun e w' => DecSays w e w' (nameL s) := by
  have nil : ∀ w', Below w.heap.size w w' → DecSays w (.returned (.tuple #[.slice none 0 0, .bool false])) w' none := fun w' hb => ⟨_, rfl, World.ownsRow_nil _ _ _ _, hb⟩
  cases h1 : inB (s.size : Int) 1 24
  · rw [nameL_short h1]
    go_enter Tryd.func82, Tryd.ntmps82
    go_wp2_with (go_at_call 99; refine (btw_any _ _ _ _).mono ?_; rintro e w' ⟨rfl, rfl⟩)
    go_ret2
    exact nil _ (Below.refl _ _)
  · cases h2 : (s.toList == ([46] : List UInt8))
    · cases h3 : (s.toList == ([46, 46] : List UInt8))
      · have HD := iDecode s w hs hT.utf
        have hdl : s.size ≤ 24 := by have := inB_le h1; omega
        rw [nameL_dec h1 h2 h3]
        cases hd : decN s with
        | none =>
          rw [hd] at HD
          go_enter Tryd.func82, Tryd.ntmps82
          go_wp2_with (first | (go_at_call 99; refine (btw_any _ _ _ _).mono ?_; rintro e w' ⟨rfl, rfl⟩) | (go_at_call 64; refine HD.mono ?_; rintro e w1 ⟨v, rfl, r1, b1⟩))
          go_ret2
          exact nil _ b1
        | some l =>
          rw [hd] at HD
          have hll : l.length ≤ 1048576 := by have := decN_len s; rw [hd] at this; simp at this; omega
          have HA := fun v w' (hb : Below w.heap.size w w') h => allKnown_any v l w' hll h (hT.below hb)
          have HF : Hid ((match some l with | some l => if l.all knB then some l else none | none => none) = if l.all knB then some l else none) := rfl
          generalize (match some l with | some l => if l.all knB then some l else none | none => none) = r at HF ⊢
          cases hk : l.all knB
          · rw [hk] at HA HF
            have hr : r = none := HF.out
            subst hr
            go_enter Tryd.func82, Tryd.ntmps82
            go_wp2_with (first | (go_at_call 99; refine (btw_any _ _ _ _).mono ?_; rintro e w' ⟨rfl, rfl⟩) | (go_at_call 64; refine HD.mono ?_; rintro e w1 ⟨v, rfl, r1, b1⟩) | (go_at_call 100; refine (HA v w1 b1 r1.at).mono ?_; rintro e w2 ⟨rfl, b2⟩))
            go_ret2
            exact nil _ (b1.trans (b2.mono b1.size))
          · rw [hk] at HA HF
            have hr : r = some l := HF.out
            subst hr
            go_enter Tryd.func82, Tryd.ntmps82
            go_wp2_with (first | (go_at_call 99; refine (btw_any _ _ _ _).mono ?_; rintro e w' ⟨rfl, rfl⟩) | (go_at_call 64; refine HD.mono ?_; rintro e w1 ⟨v, rfl, r1, b1⟩) | (go_at_call 100; refine (HA v w1 b1 r1.at).mono ?_; rintro e w2 ⟨rfl, b2⟩))
            go_ret2
            exact ⟨v, rfl, r1.below b2, b1.trans (b2.mono b1.size)⟩
      · rw [nameL_two h3]
        go_enter Tryd.func82, Tryd.ntmps82
        go_wp2_with (go_at_call 99; refine (btw_any _ _ _ _).mono ?_; rintro e w' ⟨rfl, rfl⟩)
        go_ret2
        exact nil _ (Below.refl _ _)
    · rw [nameL_one h2]
      go_enter Tryd.func82, Tryd.ntmps82
      go_wp2_with (go_at_call 99; refine (btw_any _ _ _ _).mono ?_; rintro e w' ⟨rfl, rfl⟩)
      go_ret2
      exact nil _ (Below.refl _ _)


set_option maxRecDepth 100000 in
set_option maxHeartbeats 2000000 in
theorem sNameOk (s : ByteArray) (w : World) (hs : s.size ≤ 1048576) :
    Calls Tryd.prog 16 #[.string s] w fun e w' => e = .returned (.bool (nameL s).isSome) ∧ Below w.heap.size w w' := by
  cases h1 : inB (s.size : Int) 1 24
  · rw [nameL_short h1]
    go_enter Tryd.func16, Tryd.ntmps16
    go_wp2_with (go_at_call 40; refine (in_any _ _ _ _).mono ?_; rintro e w' ⟨rfl, rfl⟩)
    go_ret
    exact ⟨rfl, Below.refl _ _⟩
  · cases h2 : (s.toList == ([46] : List UInt8))
    · cases h3 : (s.toList == ([46, 46] : List UInt8))
      · have HD := sDecode s w hs
        have hll : ((decN s).getD []).length ≤ 1048576 := Nat.le_trans (decN_len s) hs
        rw [nameL_dec h1 h2 h3]
        have HR : Hid ((match decN s with | some l => if l.all knB then some l else none | none => none).isSome = ((decN s).isSome && ((decN s).getD []).all knB)) := by
          show _ = _
          cases decN s with
          | none => rfl
          | some l => show (if l.all knB then some l else none).isSome = (true && l.all knB); cases l.all knB <;> rfl
        generalize (match decN s with | some l => if l.all knB then some l else none | none => none).isSome = r at HR ⊢
        have HDS : ∀ e w', DecSays w e w' (decN s) → ∃ v, e = .returned (.tuple #[v, .bool (decN s).isSome]) ∧ IntRow w' w.heap.size v ((decN s).getD []) ∧ Below w.heap.size w w' := fun e w' h => h
        generalize (decN s).isSome = o at HR HDS
        generalize (decN s).getD [] = l at HR HDS hll
        have HST : ∀ k, k < l.length → (o && (l.take (k + 1)).all knB) = ((o && (l.take k).all knB) && knB (l.getD k 0)) := fun k hk => by
          have e : l.take (k + 1) = l.take k ++ [l.getD k 0] := by
            rw [List.take_add_one, List.getElem?_eq_getElem hk]; simp [List.getD, hk]
          rw [e, List.all_append]; simp [Bool.and_assoc]
        obtain ⟨n, HN⟩ : ∃ n, Hid (n = l.length) := ⟨_, rfl⟩
        rw [← HN.out] at hll HST
        go_enter Tryd.func16, Tryd.ntmps16
        go_wp2_with (first | (go_at_call 40; refine (in_any _ _ _ _).mono ?_; rintro e w' ⟨rfl, rfl⟩) | (go_at_call 41; refine HD.mono ?_; intro e w1 hds; obtain ⟨v, rfl, r1, b1⟩ := HDS e w1 hds))
        obtain ⟨a, ca, rfl, hc⟩ := r1.at
        rw [← HN.out] at hc ⊢
        have HC : Hid (∀ t, t < n → ∃ b off, a = some ⟨b, off, none⟩ ∧ b < w1.heap.size ∧ w1.cell? ⟨b, off + t, none⟩ = some (.int .i64 (l.getD t 0))) := hc
        clear hc r1
        go_wp2
        go_loopw [4, 5] (fun vb vi wr => ∃ k : Nat, k ≤ n ∧ vi = .int .i64 k ∧ vb = .bool (o && (l.take k).all knB) ∧ Below w1.heap.size w1 wr) (fun _ vi _ => n - (intOf vi).toNat)
        case atStart => exact ⟨0, Nat.zero_le _, rfl, by simp, Below.refl _ _⟩
        case round =>
          obtain ⟨k, hk, rfl, rfl, hbel⟩ := hrel
          by_cases hlt : k < n
          · have hltz : (k : Int) < (n : Int) := by omega
            obtain ⟨b2, o2, rfl, hb2, hc2⟩ := HC.out k hlt
            have hc3 : wr.cell? ⟨b2, o2 + k, none⟩ = some (.int .i64 (l.getD k 0)) := (hbel.cell (p := ⟨b2, o2 + k, none⟩) hb2).trans hc2
            have HS2 : Hid _ := HST k hlt
            have hKN := sKnown (l.getD k 0) wr
            clear hc2
            generalize knB (l.getD k 0) = q at *
            generalize l.getD k 0 = x at *
            cases hb : (o && (l.take k).all knB)
            · rw [hb] at HS2
              go_wp2
              go_roundw
              case rel => exact ⟨k + 1, by omega, by go_num, by rw [HS2.out]; rfl, hbel⟩
              case measure => simp [intOf]; omega
            · rw [hb] at HS2
              go_wp2_with (go_at_call 42; refine hKN.mono ?_; rintro e w2 ⟨rfl, b2⟩)
              go_roundw
              case rel => exact ⟨k + 1, by omega, by go_num, by rw [HS2.out]; simp, hbel.trans (b2.mono hbel.size)⟩
              case measure => simp [intOf]; omega
          · obtain rfl : k = n := by omega
            have HE : Hid ((o && (l.take k).all knB) = r) := by show _ = _; rw [HR.out, HN.out, List.take_of_length_le (Nat.le_refl _)]
            rw [HE.out]
            go_wp2
            go_ret
            exact ⟨rfl, b1.trans (hbel.mono b1.size)⟩
      · rw [nameL_two h3]
        go_enter Tryd.func16, Tryd.ntmps16
        go_wp2_with (go_at_call 40; refine (in_any _ _ _ _).mono ?_; rintro e w' ⟨rfl, rfl⟩)
        go_ret
        exact ⟨rfl, Below.refl _ _⟩
    · rw [nameL_one h2]
      go_enter Tryd.func16, Tryd.ntmps16
      go_wp2_with (go_at_call 40; refine (in_any _ _ _ _).mono ?_; rintro e w' ⟨rfl, rfl⟩)
      go_ret
      exact ⟨rfl, Below.refl _ _⟩
end

section
open Go.RowKit

theorem isSign_any (c : Int) (w : World) :
    Calls Tryd.prog 91 #[.int .i64 c] w fun e w' => e = .returned (.bool (sgnB c)) ∧ w = w' := by
  have HR : Hid (sgnB c = (inB c 0 1114111 && !inB c 55296 57343)) := rfl
  cases h1 : inB c 0 1114111
  · go_enter Tryd.func91, Tryd.ntmps91
    go_wp2_with (go_at_call 99; refine (btw_any _ _ _ _).mono ?_; rintro e w' ⟨rfl, rfl⟩)
    go_ret
    exact ⟨by rw [HR.out, h1]; rfl, rfl⟩
  · go_enter Tryd.func91, Tryd.ntmps91
    go_wp2_with (go_at_call 99; refine (btw_any _ _ _ _).mono ?_; rintro e w' ⟨rfl, rfl⟩)
    go_ret
    exact ⟨by rw [HR.out, h1]; simp, rfl⟩
end

section
open Go.RowKit

theorem encOne_isB (c : Int) (h0 : 0 ≤ c) (h1 : c ≤ 1114111) : ∀ x ∈ encOne c, isB x := by
  intro x hx
  unfold encOne at hx
  unfold isB
  revert hx
  (repeat' split) <;> simp <;> omega

theorem encodeZ_one (c : Int) (h : sgnB c = true) : Lib.encodeRuneZ c = encOne c := by
  have hb : 0 ≤ c ∧ c ≤ 1114111 ∧ ¬ (55296 ≤ c ∧ c ≤ 57343) := by
    simp [sgnB, inB] at h; omega
  unfold encOne
  split
  · exact Lib.encodeRuneZ_one (by omega) (by omega)
  · split
    · exact Lib.encodeRuneZ_two (by omega) (by omega)
    · split
      · exact Lib.encodeRuneZ_three (by omega)
      · exact Lib.encodeRuneZ_four (by omega) (by omega)

theorem runeCells_one (c : Int) (h : sgnB c = true) : Lib.runeCells c = bytesV (b8s (encOne c)) := by
  have hb := sgnB_le c h
  rw [bytesV_b8s _ (encOne_isB c hb.1 hb.2)]
  unfold Lib.runeCells
  rw [encodeZ_one c h]

theorem appRune_any (B : Nat) (v : Value) (l : List UInt8) (c : Int) (h : sgnB c = true) (w : World) (hown : w.ownsRow B 5 1 v l.length (bytesV l)) (hl : l.length ≤ 4194304) (hB : B ≤ w.heap.size) :
    Calls Tryd.prog 92 #[v, .int .i32 c] w fun e w' => ∃ v', e = .returned v' ∧ w'.ownsRow B 5 1 v' (l ++ b8s (encOne c)).length (bytesV (l ++ b8s (encOne c))) ∧ Below B w w' := by
  have hb := sgnB_le c h
  refine (Tryd.utf8_AppendRune_plain B v l.length (bytesV l) c (by omega) (by omega) w hown (by omega) hB).mono ?_
  rintro e w' ⟨v', rfl, hown', o, hg⟩
  refine ⟨v', rfl, ?_, ?_⟩
  · rw [runeCells_one c h] at hown'
    rw [bytesV_append, List.length_append]
    rwa [bytesV_length] at hown'
  · refine ((Below.refl B w).alloc hB o).grown hg (by simp; omega) ?_
    intro k hk
    exact (World.ownsRow.lt hown k hk).1

set_option maxRecDepth 100000 in
set_option maxHeartbeats 2000000 in
theorem iEncode (v : Value) (l : List Int) (w : World) (hl : l.length ≤ 1048576) (hv : IntsAt w v l) :
    Calls Tryd.prog 66 #[v] w fun e w' => e = .returned (.string ⟨(encN l).toArray⟩) ∧ Below w.heap.size w w' := by
  obtain ⟨a, ca, rfl, hva⟩ := hv
  have HBAD := encN_bad l
  have HALL := encN_all l
  have HST : ∀ k, k < l.length → encs (l.take (k + 1)) = encs (l.take k) ++ b8s (encOne (l.getD k 0)) := fun k hk => by rw [take_succ_getD l k hk, encs_snoc]
  have HLE : ∀ k, k ≤ l.length → (encs (l.take k)).length ≤ 4194304 := fun k hk => by
    have := encs_len (l.take k)
    simp at this; omega
  have HT : encs (l.take l.length) = encs l := by rw [List.take_length]
  have H0 : encs (l.take 0) = [] := by simp [encs]
  generalize encN l = r at HBAD HALL ⊢
  generalize encs l = rr at HALL HT
  obtain ⟨E, HE⟩ : ∃ E : Nat → List UInt8, Hid (E = fun k => encs (l.take k)) := ⟨_, rfl⟩
  have HST' : Hid (∀ k, k < l.length → E (k + 1) = E k ++ b8s (encOne (l.getD k 0))) := by rw [HE.out]; exact HST
  have HLE' : Hid (∀ k, k ≤ l.length → (E k).length ≤ 4194304) := by rw [HE.out]; exact HLE
  have HT' : Hid (E l.length = rr) := by rw [HE.out]; exact HT
  have H0' : Hid (E 0 = []) := by rw [HE.out]; exact H0
  clear HST HLE HT H0 HE
  obtain ⟨n, HN⟩ : ∃ n, Hid (n = l.length) := ⟨_, rfl⟩
  rw [← HN.out] at hva hl HBAD HALL HST' HLE' HT' ⊢
  go_enter Tryd.func66, Tryd.ntmps66
  go_wp2
  go_loopw [3, 8] (fun o i wr => ∃ k : Nat, k ≤ n ∧ i = .int .i64 k ∧ wr.ownsRow w.heap.size 5 1 o (E k).length (bytesV (E k)) ∧ (∀ t, t < k → sgnB (l.getD t 0) = true) ∧ Below w.heap.size w wr) (fun _ i _ => n - (intOf i).toNat)
  case atStart => exact ⟨0, Nat.zero_le _, rfl, by rw [H0'.out]; exact World.ownsRow_nil _ _ _ _, fun t ht => by omega, Below.refl _ _⟩
  case round =>
    obtain ⟨k, hk, rfl, hown, hall, hbel⟩ := hrel
    by_cases hlt : k < n
    · obtain ⟨b1, o1, rfl, hb1, hc1⟩ := hva k hlt
      have hc1' := (hbel.cell (p := ⟨b1, o1 + k, none⟩) hb1).trans hc1
      have HB : Hid (sgnB (l.getD k 0) = false → r = []) := HBAD k hlt
      have HS : Hid (E (k + 1) = E k ++ b8s (encOne (l.getD k 0))) := HST'.out k hlt
      have HL : (E k).length ≤ 4194304 := HLE'.out k hk
      have HA : Hid (sgnB (l.getD k 0) = true → ∀ t, t < k + 1 → sgnB (l.getD t 0) = true) := fun h t ht => by
        by_cases htk : t < k
        · exact hall t htk
        · obtain rfl : t = k := by omega
          exact h
      generalize l.getD k 0 = x at hc1' HB HS HA
      clear HBAD HALL hc1 hva hall
      cases hx : sgnB x
      · have HR := HB.out hx
        subst HR
        go_wp2_with (go_at_call 91; refine (isSign_any _ _).mono ?_; rintro e w' ⟨rfl, rfl⟩)
        go_ret
        exact ⟨rfl, hbel⟩
      · have hb := sgnB_le x hx
        have hb0 := hb.1
        have hb1' := hb.2
        go_wp2_with (first | (go_at_call 91; refine (isSign_any _ _).mono ?_; rintro e w' ⟨rfl, rfl⟩) | (go_at_call 92; refine (appRune_any w.heap.size _ (E k) x hx _ hown HL hbel.size).mono ?_; rintro e w1 ⟨v', rfl, hown1, hbel1⟩))
        go_roundw
        case rel => exact ⟨k + 1, by omega, by go_num, by rw [HS.out]; exact hown1, HA.out hx, hbel.trans hbel1⟩
        case measure => simp [intOf]; omega
    · obtain rfl : k = n := by omega
      have HR : Hid (r = rr) := HALL hall
      rw [HT'.out] at hown
      have hcv := row_string (P := Tryd.prog) (T := 9) Tryd.underlying22 Tryd.underlying5 Tryd.underlying9 hown
      go_wp2
      go_ret
      exact ⟨ret_str (by rw [HR.out]), hbel⟩
end

section
open Go.RowKit

/-- the first of f 0 .. f (n - 1) that is not empty -/
def firstNE (f : Nat → List Int) : Nat → List Int
  | 0 => []
  | n + 1 => if firstNE f n = [] then f n else firstNE f n

theorem firstNE_no (f : Nat → List Int) (n : Nat) (h : ∀ t, t < n → f t = []) : firstNE f n = [] := by
  induction n with
  | zero => rfl
  | succ n ih => unfold firstNE; rw [if_pos (ih fun t ht => h t (by omega))]; exact h n (by omega)
theorem firstNE_yes (f : Nat → List Int) (n k : Nat) (hk : k < n) (h : ∀ t, t < k → f t = []) (hne : f k ≠ []) : firstNE f n = f k := by
  induction n with
  | zero => omega
  | succ n ih =>
    unfold firstNE
    by_cases e : k = n
    · subst e; rw [if_pos (firstNE_no f k h)]
    · rw [ih (by omega), if_neg hne]

def rowF (c : Int) (l : List Int) (s : ByteArray) (m : Int) (t : Nat) : List Int := if l.getD t 0 = c then [((s.data.getD t 0).toNat : Int), m] else []
def rowN (c : Int) (l : List Int) (s : ByteArray) (m : Int) : List Int := firstNE (rowF c l s m) l.length

set_option maxRecDepth 100000 in
set_option maxHeartbeats 400000 in
theorem l3Row_any (c m : Int) (v : Value) (l : List Int) (s : ByteArray) (w : World) (hs : l.length ≤ s.size) (hl : l.length ≤ 1000) (hv : IntsAt w v l) :
    Calls Tryd.prog 114 #[.int .i64 c, v, .string s, .int .i64 m] w fun e w' => ∃ u, e = .returned u ∧ IntRow w' w.heap.size u (rowN c l s m) ∧ Below w.heap.size w w' := by
  obtain ⟨a, ca, rfl, hva⟩ := hv
  have HY := fun k hk h hne => firstNE_yes (rowF c l s m) l.length k hk h hne
  have HN := firstNE_no (rowF c l s m) l.length
  have HR : Hid (rowN c l s m = firstNE (rowF c l s m) l.length) := rfl
  generalize rowN c l s m = r at HR ⊢
  obtain ⟨n, HL⟩ : ∃ n, Hid (n = l.length) := ⟨_, rfl⟩
  rw [← HL.out] at hva hl hs HY HN HR ⊢
  go_enter Tryd.func114, Tryd.ntmps114
  go_wp2
  go_loop [9] (fun i => ∃ k : Nat, k ≤ n ∧ i = .int .i64 k ∧ ∀ t, t < k → rowF c l s m t = []) (fun i => n - (intOf i).toNat)
  case atStart => exact ⟨0, Nat.zero_le _, rfl, fun t ht => by omega⟩
  case round =>
    obtain ⟨k, hk, rfl, hne⟩ := hrel
    by_cases hlt : k < n
    · obtain ⟨b1, o1, rfl, hb1, hc1⟩ := hva k hlt
      have HF : Hid (rowF c l s m k = if l.getD k 0 = c then [((s.data.getD k 0).toNat : Int), m] else []) := rfl
      obtain ⟨x, HX⟩ : ∃ x, Hid (x = l.getD k 0) := ⟨_, rfl⟩
      rw [← HX.out] at hc1 HF
      rcases Bool.eq_false_or_eq_true (x == c) with hx | hx
      · have hks : k < s.size := by omega
        have hbt := s[k].toNat_lt
        have HK : Hid (rowF c l s m k = [(s[k].toNat : Int), m]) := by
          show _ = _
          rw [HF.out, if_pos (by simpa using hx)]
          have h' : k < s.data.size := hks
          rw [Array.getD, dif_pos h']; rfl
        have HE : Hid (r = [(s[k].toNat : Int), m]) := by
          show _ = _
          rw [HR.out, HY k hlt hne (by rw [HK.out]; simp)]; exact HK.out
        go_wp2
        go_ret
        rw [HE.out]
        refine ⟨.slice (some ⟨w.heap.size, 0, none⟩) 2 2, rfl, ret_lit _ w _ _ 2 _ ?_ ?_ ?_ ?_ ?_⟩ <;> first | rfl | decide | exact Below.refl _ _ | simp
      · have HK : Hid (rowF c l s m k = []) := by
          show _ = _
          rw [HF.out, if_neg (by simpa using hx)]
        go_wp2
        go_round
        case rel => exact ⟨k + 1, by omega, by go_num, fun t ht => by
          by_cases htk : t < k
          · exact hne t htk
          · obtain rfl : t = k := by omega
            exact HK.out⟩
        case measure => simp [intOf]; omega
    · obtain rfl : k = n := by omega
      have HE : Hid (r = []) := by show _ = _; rw [HR.out, HN hne]
      go_wp2
      go_ret
      rw [HE.out]
      refine ⟨.slice (some ⟨w.heap.size, 0, none⟩) 0 0, rfl, ret_lit _ w _ _ 0 _ ?_ ?_ ?_ ?_ ?_⟩ <;> first | rfl | decide | exact Below.refl _ _ | simp
end

end Go.Proofs.YtlkemmdcjnaepaaDoor
