/- Names: is a text a name? impl.nameSigns, impl.NameOk, spec.NameOk: what they answer. -/
import Derived.Test.YtkgnlamlmnhleaaDoorRows
import Derived.Test.YtkgnlamlmnhleaaDoorIntS
import Derived.Test.YtkgnlamlmnhleaaDoorKno
import Derived.Test.YtkgnlamlmnhleaaDoorIKno
import Derived.Test.YtkgnlamlmnhleaaDoorIDcd
import Derived.Test.YtkgnlamlmnhleaaDoorDcd
import Derived.Test.YtkgnlamlmnhleaaDoorWDcd
namespace Go.Proofs.YtkgnlamlmnhleaaDoor
open Go.RowKit

/-- the tables that the program reads lie as its text lays them -/
structure Tabs (w : World) : Prop where
  kn : ∀ i, i < 54 → w.cell? ⟨2, i, none⟩ = some (.int .i64 (ikT.getD i 0))
  utf : Lib.Utf8Tabs (Tryd.laysValid_ren.g 3) (Tryd.laysValid_ren.g 4) w
theorem Tabs.below {w w' : World} (h : Tabs w) (hb : Below w.heap.size w w') : Tabs w' :=
  ⟨fun i hi => (hb.cell (p := ⟨2, i, none⟩) (World.block_lt_of_cell? w _ (h.kn i hi))).trans (h.kn i hi),
   ⟨fun c hc => (hb.cell (p := ⟨_, c, none⟩) (World.block_lt_of_cell? w _ (h.utf.1 c hc))).trans (h.utf.1 c hc),
    fun i hi => ⟨(hb.cell (p := ⟨_, 2 * i, none⟩) (World.block_lt_of_cell? w _ (h.utf.2 i hi).1)).trans (h.utf.2 i hi).1, (hb.cell (p := ⟨_, 2 * i + 1, none⟩) (World.block_lt_of_cell? w _ (h.utf.2 i hi).2)).trans (h.utf.2 i hi).2⟩⟩⟩

theorem all_yes (p : Int → Bool) (l : List Int) (h : ∀ t, t < l.length → p (l.getD t 0) = true) : l.all p = true := by
  rw [List.all_eq_true]
  intro c hc
  obtain ⟨t, ht, rfl⟩ := List.mem_iff_getElem.1 hc
  have := h t ht
  simpa [List.getD, ht] using this
theorem all_no (p : Int → Bool) (l : List Int) (t : Nat) (ht : t < l.length) (h : p (l.getD t 0) = false) : l.all p = false := by
  rw [List.all_eq_false]
  refine ⟨l.getD t 0, ?_, by rw [h]; simp⟩
  simp [List.getD, ht]

set_option maxRecDepth 100000 in
set_option maxHeartbeats 1000000 in
theorem allKnown_any (v : Value) (l : List Int) (w : World) (hl : l.length ≤ 1048576) (hv : IntsAt w v l) (hT : Tabs w) :
    Calls Tryd.prog 60 #[v] w fun e w' => e = .returned (.bool (l.all knB)) ∧ Below w.heap.size w w' := by
  obtain ⟨a, ca, rfl, hc⟩ := hv
  have HC : Hid (∀ t, t < l.length → ∃ b off, a = some ⟨b, off, none⟩ ∧ b < w.heap.size ∧ w.cell? ⟨b, off + t, none⟩ = some (.int .i64 (l.getD t 0))) := hc
  have HY := all_yes knB l
  have HNO := all_no knB l
  have HK : Hid (∀ c w', Below w.heap.size w w' → Calls Tryd.prog 68 #[.int .i64 c] w' fun e w'' => e = .returned (.bool (knB c)) ∧ Below w'.heap.size w' w'') := fun c w' hb => iKnown c w' (hT.below hb).kn
  obtain ⟨n, HN⟩ : ∃ n, Hid (n = l.length) := ⟨_, rfl⟩
  rw [← HN.out] at hl HY HNO ⊢
  generalize l.all knB = r at HY HNO ⊢
  clear hc hT
  go_enter Tryd.func60, Tryd.ntmps60
  go_wp2
  go_loopw [7] (fun vi wr => ∃ k : Nat, k ≤ n ∧ vi = .int .i64 k ∧ Hid (∀ t, t < k → knB (l.getD t 0) = true) ∧ Below w.heap.size w wr) (fun vi _ => n - (intOf vi).toNat)
  case atStart => exact ⟨0, Nat.zero_le _, rfl, fun t ht => by omega, Below.refl _ _⟩
  case round =>
    obtain ⟨k, hk, rfl, HP, hbel⟩ := hrel
    by_cases hlt : k < n
    · have hltz : (k : Int) < (n : Int) := by omega
      obtain ⟨b1, o1, rfl, hb1, hc1⟩ := HC.out k (by have := HN.out; omega)
      have hc2 : wr.cell? ⟨b1, o1 + k, none⟩ = some (.int .i64 (l.getD k 0)) := (hbel.cell (p := ⟨b1, o1 + k, none⟩) hb1).trans hc1
      have hKN := HK.out (l.getD k 0) wr hbel
      have hno := HNO k hlt
      have HST : Hid (knB (l.getD k 0) = true → ∀ t, t < k + 1 → knB (l.getD t 0) = true) := fun h t ht => by
        by_cases hq : t = k
        · rw [hq]; exact h
        · exact HP.out t (by omega)
      generalize knB (l.getD k 0) = q at *
      clear hc1
      generalize l.getD k 0 = x at *
      cases q
      · obtain rfl := hno rfl
        go_wp2_with (go_at_call 68; refine hKN.mono ?_; rintro e w1 ⟨rfl, b1⟩)
        go_ret
        exact ⟨rfl, hbel.trans (b1.mono hbel.size)⟩
      · have HP2 : Hid _ := HST.out rfl
        go_wp2_with (go_at_call 68; refine hKN.mono ?_; rintro e w1 ⟨rfl, b1⟩)
        go_roundw
        case rel => exact ⟨k + 1, by omega, by go_num, HP2, hbel.trans (b1.mono hbel.size)⟩
        case measure => simp [intOf]; omega
    · obtain rfl : k = n := by omega
      obtain rfl := HY HP.out
      go_wp2
      go_ret
      exact ⟨rfl, hbel⟩

/-- the signs of a name -/
def nameL (s : ByteArray) : Option (List Int) :=
  if inB (s.size : Int) 1 24 && !(s.toList == [46]) && !(s.toList == [46, 46]) then (match decN s with | some l => if l.all knB then some l else none | none => none) else none
theorem nameL_short {s : ByteArray} (h : inB (s.size : Int) 1 24 = false) : nameL s = none := by unfold nameL; rw [h]; rfl
theorem nameL_one {s : ByteArray} (h : (s.toList == [46]) = true) : nameL s = none := by unfold nameL; rw [h]; simp
theorem nameL_two {s : ByteArray} (h : (s.toList == [46, 46]) = true) : nameL s = none := by unfold nameL; rw [h]; simp
theorem nameL_dec {s : ByteArray} (h1 : inB (s.size : Int) 1 24 = true) (h2 : (s.toList == [46]) = false) (h3 : (s.toList == [46, 46]) = false) : nameL s = (match decN s with | some l => if l.all knB then some l else none | none => none) := by
  unfold nameL; rw [h1, h2, h3]; rfl

set_option maxRecDepth 100000 in
set_option maxHeartbeats 2000000 in
theorem nameSigns_any (s : ByteArray) (w : World) (hT : Tabs w) (hs : s.size ≤ 1048576) :
    Calls Tryd.prog 46 #[.string s] w fun e w' => DecSays w e w' (nameL s) := by
  have nil : ∀ w', Below w.heap.size w w' → DecSays w (.returned (.tuple #[.slice none 0 0, .bool false])) w' none := fun w' hb => ⟨_, rfl, World.ownsRow_nil _ _ _ _, hb⟩
  cases h1 : inB (s.size : Int) 1 24
  · rw [nameL_short h1]
    go_enter Tryd.func46, Tryd.ntmps46
    go_wp2_with (go_at_call 35; refine (btw_any _ _ _ _).mono ?_; rintro e w' ⟨rfl, rfl⟩)
    go_ret2
    exact nil _ (Below.refl _ _)
  · cases h2 : (s.toList == ([46] : List UInt8))
    · cases h3 : (s.toList == ([46, 46] : List UInt8))
      · have HD := iDecode s w hs hT.utf
        have hdl : s.size ≤ 24 := by have := inB_le h1; omega
        rw [nameL_dec h1 h2 h3]
        cases hd : decN s with
        | none =>
          rw [hd] at HD
          go_enter Tryd.func46, Tryd.ntmps46
          go_wp2_with (first | (go_at_call 35; refine (btw_any _ _ _ _).mono ?_; rintro e w' ⟨rfl, rfl⟩) | (go_at_call 59; refine HD.mono ?_; rintro e w1 ⟨v, rfl, r1, b1⟩))
          go_ret2
          exact nil _ b1
        | some l =>
          rw [hd] at HD
          have hll : l.length ≤ 1048576 := by have := decN_len s; rw [hd] at this; simp at this; omega
          have HA := fun v w' (hb : Below w.heap.size w w') h => allKnown_any v l w' hll h (hT.below hb)
          have HF : Hid ((match some l with | some l => if l.all knB then some l else none | none => none) = if l.all knB then some l else none) := rfl
          generalize (match some l with | some l => if l.all knB then some l else none | none => none) = r at HF ⊢
          cases hk : l.all knB
          · rw [hk] at HA HF
            have hr : r = none := HF.out
            subst hr
            go_enter Tryd.func46, Tryd.ntmps46
            go_wp2_with (first | (go_at_call 35; refine (btw_any _ _ _ _).mono ?_; rintro e w' ⟨rfl, rfl⟩) | (go_at_call 59; refine HD.mono ?_; rintro e w1 ⟨v, rfl, r1, b1⟩) | (go_at_call 60; refine (HA v w1 b1 r1.at).mono ?_; rintro e w2 ⟨rfl, b2⟩))
            go_ret2
            exact nil _ (b1.trans (b2.mono b1.size))
          · rw [hk] at HA HF
            have hr : r = some l := HF.out
            subst hr
            go_enter Tryd.func46, Tryd.ntmps46
            go_wp2_with (first | (go_at_call 35; refine (btw_any _ _ _ _).mono ?_; rintro e w' ⟨rfl, rfl⟩) | (go_at_call 59; refine HD.mono ?_; rintro e w1 ⟨v, rfl, r1, b1⟩) | (go_at_call 60; refine (HA v w1 b1 r1.at).mono ?_; rintro e w2 ⟨rfl, b2⟩))
            go_ret2
            exact ⟨v, rfl, r1.below b2, b1.trans (b2.mono b1.size)⟩
      · rw [nameL_two h3]
        go_enter Tryd.func46, Tryd.ntmps46
        go_wp2_with (go_at_call 35; refine (btw_any _ _ _ _).mono ?_; rintro e w' ⟨rfl, rfl⟩)
        go_ret2
        exact nil _ (Below.refl _ _)
    · rw [nameL_one h2]
      go_enter Tryd.func46, Tryd.ntmps46
      go_wp2_with (go_at_call 35; refine (btw_any _ _ _ _).mono ?_; rintro e w' ⟨rfl, rfl⟩)
      go_ret2
      exact nil _ (Below.refl _ _)


set_option maxRecDepth 100000 in
set_option maxHeartbeats 2000000 in
theorem sNameOk (s : ByteArray) (w : World) (hs : s.size ≤ 1048576) :
    Calls Tryd.prog 15 #[.string s] w fun e w' => e = .returned (.bool (nameL s).isSome) ∧ Below w.heap.size w w' := by
  cases h1 : inB (s.size : Int) 1 24
  · rw [nameL_short h1]
    go_enter Tryd.func15, Tryd.ntmps15
    go_wp2_with (go_at_call 29; refine (in_any _ _ _ _).mono ?_; rintro e w' ⟨rfl, rfl⟩)
    go_ret
    exact ⟨rfl, Below.refl _ _⟩
  · cases h2 : (s.toList == ([46] : List UInt8))
    · cases h3 : (s.toList == ([46, 46] : List UInt8))
      · have HD := sDecode s w hs
        have hll : ((decN s).getD []).length ≤ 1048576 := Nat.le_trans (decN_len s) hs
        rw [nameL_dec h1 h2 h3]
        have HR : Hid ((match decN s with | some l => if l.all knB then some l else none | none => none).isSome = ((decN s).isSome && ((decN s).getD []).all knB)) := by
          show _ = _
          cases decN s with
          | none => rfl
          | some l => show (if l.all knB then some l else none).isSome = (true && l.all knB); cases l.all knB <;> rfl
        generalize (match decN s with | some l => if l.all knB then some l else none | none => none).isSome = r at HR ⊢
        have HDS : ∀ e w', DecSays w e w' (decN s) → ∃ v, e = .returned (.tuple #[v, .bool (decN s).isSome]) ∧ IntRow w' w.heap.size v ((decN s).getD []) ∧ Below w.heap.size w w' := fun e w' h => h
        generalize (decN s).isSome = o at HR HDS
        generalize (decN s).getD [] = l at HR HDS hll
        have HST : ∀ k, k < l.length → (o && (l.take (k + 1)).all knB) = ((o && (l.take k).all knB) && knB (l.getD k 0)) := fun k hk => by
          have e : l.take (k + 1) = l.take k ++ [l.getD k 0] := by
            rw [List.take_add_one, List.getElem?_eq_getElem hk]; simp [List.getD, hk]
          rw [e, List.all_append]; simp [Bool.and_assoc]
        obtain ⟨n, HN⟩ : ∃ n, Hid (n = l.length) := ⟨_, rfl⟩
        rw [← HN.out] at hll HST
        go_enter Tryd.func15, Tryd.ntmps15
        go_wp2_with (first | (go_at_call 29; refine (in_any _ _ _ _).mono ?_; rintro e w' ⟨rfl, rfl⟩) | (go_at_call 31; refine HD.mono ?_; intro e w1 hds; obtain ⟨v, rfl, r1, b1⟩ := HDS e w1 hds))
        obtain ⟨a, ca, rfl, hc⟩ := r1.at
        rw [← HN.out] at hc ⊢
        have HC : Hid (∀ t, t < n → ∃ b off, a = some ⟨b, off, none⟩ ∧ b < w1.heap.size ∧ w1.cell? ⟨b, off + t, none⟩ = some (.int .i64 (l.getD t 0))) := hc
        clear hc r1
        go_wp2
        go_loopw [4, 5] (fun vb vi wr => ∃ k : Nat, k ≤ n ∧ vi = .int .i64 k ∧ vb = .bool (o && (l.take k).all knB) ∧ Below w1.heap.size w1 wr) (fun _ vi _ => n - (intOf vi).toNat)
        case atStart => exact ⟨0, Nat.zero_le _, rfl, by simp, Below.refl _ _⟩
        case round =>
          obtain ⟨k, hk, rfl, rfl, hbel⟩ := hrel
          by_cases hlt : k < n
          · have hltz : (k : Int) < (n : Int) := by omega
            obtain ⟨b2, o2, rfl, hb2, hc2⟩ := HC.out k hlt
            have hc3 : wr.cell? ⟨b2, o2 + k, none⟩ = some (.int .i64 (l.getD k 0)) := (hbel.cell (p := ⟨b2, o2 + k, none⟩) hb2).trans hc2
            have HS2 : Hid _ := HST k hlt
            have hKN := sKnown (l.getD k 0) wr
            clear hc2
            generalize knB (l.getD k 0) = q at *
            generalize l.getD k 0 = x at *
            cases hb : (o && (l.take k).all knB)
            · rw [hb] at HS2
              go_wp2
              go_roundw
              case rel => exact ⟨k + 1, by omega, by go_num, by rw [HS2.out]; rfl, hbel⟩
              case measure => simp [intOf]; omega
            · rw [hb] at HS2
              go_wp2_with (go_at_call 32; refine hKN.mono ?_; rintro e w2 ⟨rfl, b2⟩)
              go_roundw
              case rel => exact ⟨k + 1, by omega, by go_num, by rw [HS2.out]; simp, hbel.trans (b2.mono hbel.size)⟩
              case measure => simp [intOf]; omega
          · obtain rfl : k = n := by omega
            have HE : Hid ((o && (l.take k).all knB) = r) := by show _ = _; rw [HR.out, HN.out, List.take_of_length_le (Nat.le_refl _)]
            rw [HE.out]
            go_wp2
            go_ret
            exact ⟨rfl, b1.trans (hbel.mono b1.size)⟩
      · rw [nameL_two h3]
        go_enter Tryd.func15, Tryd.ntmps15
        go_wp2_with (go_at_call 29; refine (in_any _ _ _ _).mono ?_; rintro e w' ⟨rfl, rfl⟩)
        go_ret
        exact ⟨rfl, Below.refl _ _⟩
    · rw [nameL_one h2]
      go_enter Tryd.func15, Tryd.ntmps15
      go_wp2_with (go_at_call 29; refine (in_any _ _ _ _).mono ?_; rintro e w' ⟨rfl, rfl⟩)
      go_ret
      exact ⟨rfl, Below.refl _ _⟩

end Go.Proofs.YtkgnlamlmnhleaaDoor
