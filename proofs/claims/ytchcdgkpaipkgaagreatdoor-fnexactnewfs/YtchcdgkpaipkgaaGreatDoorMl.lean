/- The contracts of the library's functions that the program calls, at this program's own numbers. Signs: impl.Encode: its contract, over the library's contract of utf8.AppendRune. Signs: impl.Decode: its contract, over the library's contract of utf8.ValidString; a range over a text. The walk of an exact law of chapter 3, over whatever contract of the program's function holds in every world that has the old blocks of the first. Signs: impl.Known: the table of ranges, read whole, and its contract. Sums: what eight halvings of a number make, and two look-ups in a table of sixteen. No word of the program. The table of sums; the sum of a text. spec.Crc: its contract. impl.Crc: the running sum behind a pointer, its two look-ups a byte, and its contract. Names: is a text a name? impl.nameSigns, impl.NameOk, spec.NameOk: what they answer. The table of sums, out of the card's condition. -/
import Derived.Test.YtchcdgkpaipkgaaGreatDoorProg
import Derived.Test.YtchcdgkpaipkgaaGreatDoorRows
import Derived.Test.YtchcdgkpaipkgaaGreatDoorMk
import Derived.Test.YtchcdgkpaipkgaaGreatDoorMbt
import Derived.Test.YtchcdgkpaipkgaaGreatDoorMc
import Derived.Test.YtchcdgkpaipkgaaGreatDoorMa
import Derived.Shelf.Unicode.ValidAny
import Derived.Shelf.Utf8.AppendRunePlain
import Derived.Lib.OthersKept
import Derived.WalkKit
import Derived.WalkSpells
import Derived.WalkLawsBesides
import Derived.Laws.Cells
import Derived.Laws.BitsAllLaws
import Derived.Below
import Derived.RegionTactic
import Derived.ChangeAlike
import Derived.Deep.QuietTactic
import Derived.BigQuiet
import Derived.Lib.LaidTab
import Derived.Lib.LaidU8
import Derived.Lib.LaidU8T
namespace Go.Proofs.YtchcdgkpaipkgaaGreatDoor

section
open Go.Shelf
def Tryz.lays278_ren : Go.Shelf.Ren := ⟨fun | 278 => 82 | n => n, fun | 37 => 63 | 21 => 21 | 51 => 111 | 4 => 4 | 46 => 130 | 5 => 5 | n => n, fun | n => n⟩
theorem Tryz.lays278 : Go.Proofs.Lays.n278 Tryz.prog Tryz.lays278_ren := {
  mixed := by kernel_rfl
  f278 := Tryz.func82.trans (congrArg some (by kernel_rfl))
  t4 := Tryz.underlying4
  a4 := Tryz.isAgg4
  z4 := Tryz.sizeOf4
  v4 := Tryz.zeroValue4
  t5 := Tryz.underlying5
  a5 := Tryz.isAgg5
  z5 := Tryz.sizeOf5
  v5 := Tryz.zeroValue5
  t21 := Tryz.underlying21
  a21 := Tryz.isAgg21
  z21 := Tryz.sizeOf21
  v21 := Tryz.zeroValue21
  t37 := Tryz.underlying63
  a37 := Tryz.isAgg63
  z37 := Tryz.sizeOf63
  v37 := Tryz.zeroValue63
  t46 := Tryz.underlying130
  a46 := Tryz.isAgg130
  z46 := Tryz.sizeOf130
  v46 := Tryz.zeroValue130
  t51 := Tryz.underlying111
  a51 := Tryz.isAgg111
  z51 := Tryz.sizeOf111
  v51 := Tryz.zeroValue111 }
open Go.RowKit in
theorem Tryz.utf8_appendRuneNonASCII_plain (B : Nat) (v : Value) (n : Nat) (xs : List Value) (r : Int) (hr0 : -2147483648 ≤ r) (hr1 : r ≤ 2147483647) (hna : r < 0 ∨ 128 ≤ r) (w : World) (hown : w.ownsRow B 5 1 v n xs) (hlen : n + 4 ≤ 140737488355328) (hBw : B ≤ w.heap.size) :
    Calls Tryz.prog 82 #[v, .int .i32 r] w fun e w' => ∃ v', e = .returned v' ∧ w'.ownsRow B 5 1 v' (n + (Lib.runeCells r).length) (xs ++ Lib.runeCells r) ∧ ∃ o, (w.alloc o).grownBy w' v.ownBlock := Any.utf8_appendRuneNonASCII_plain Tryz.lays278 (by kernel_rfl) B v n xs r hr0 hr1 hna w hown hlen hBw
def Tryz.lays242_ren : Go.Shelf.Ren := ⟨fun | 242 => 75 | 278 => 82 | n => n, fun | 37 => 63 | 21 => 21 | 51 => 111 | 4 => 4 | 5 => 5 | 46 => 130 | n => n, fun | n => n⟩
theorem Tryz.lays242 : Go.Proofs.Lays.n242 Tryz.prog Tryz.lays242_ren := {
  mixed := by kernel_rfl
  f242 := Tryz.func75.trans (congrArg some (by kernel_rfl))
  f278 := Tryz.func82.trans (congrArg some (by kernel_rfl))
  t4 := Tryz.underlying4
  a4 := Tryz.isAgg4
  z4 := Tryz.sizeOf4
  v4 := Tryz.zeroValue4
  t5 := Tryz.underlying5
  a5 := Tryz.isAgg5
  z5 := Tryz.sizeOf5
  v5 := Tryz.zeroValue5
  t21 := Tryz.underlying21
  a21 := Tryz.isAgg21
  z21 := Tryz.sizeOf21
  v21 := Tryz.zeroValue21
  t37 := Tryz.underlying63
  a37 := Tryz.isAgg63
  z37 := Tryz.sizeOf63
  v37 := Tryz.zeroValue63
  t46 := Tryz.underlying130
  a46 := Tryz.isAgg130
  z46 := Tryz.sizeOf130
  v46 := Tryz.zeroValue130
  t51 := Tryz.underlying111
  a51 := Tryz.isAgg111
  z51 := Tryz.sizeOf111
  v51 := Tryz.zeroValue111 }
open Go.RowKit in
theorem Tryz.utf8_AppendRune_plain (B : Nat) (v : Value) (n : Nat) (xs : List Value) (r : Int) (hr0 : -2147483648 ≤ r) (hr1 : r ≤ 2147483647) (w : World) (hown : w.ownsRow B 5 1 v n xs) (hlen : n + 4 ≤ 140737488355328) (hBw : B ≤ w.heap.size) :
    Calls Tryz.prog 75 #[v, .int .i32 r] w fun e w' => ∃ v', e = .returned v' ∧ w'.ownsRow B 5 1 v' (n + (Lib.runeCells r).length) (xs ++ Lib.runeCells r) ∧ ∃ o, (w.alloc o).grownBy w' v.ownBlock := Any.utf8_AppendRune_plain Tryz.lays242 (by kernel_rfl) B v n xs r hr0 hr1 w hown hlen hBw
def Tryz.laysValid_ren : Go.Shelf.Ren := ⟨fun | 196 => 80 | 259 => 91 | n => n, fun | 9 => 9 | 4 => 4 | 3 => 3 | 5 => 5 | 12 => 12 | 119 => 126 | 0 => 0 | 46 => 130 | 139 => 129 | 138 => 128 | 53 => 143 | n => n, fun | 3 => 0 | 4 => 1 | n => n⟩
theorem Tryz.laysValid : Go.Proofs.Lays.n196 Tryz.prog Tryz.laysValid_ren := {
  mixed := by kernel_rfl
  f196 := Tryz.func80.trans (congrArg some (by kernel_rfl))
  f259 := Tryz.func91.trans (congrArg some (by kernel_rfl))
  t0 := Tryz.underlying0
  a0 := Tryz.isAgg0
  z0 := Tryz.sizeOf0
  v0 := Tryz.zeroValue0
  t3 := Tryz.underlying3
  a3 := Tryz.isAgg3
  z3 := Tryz.sizeOf3
  v3 := Tryz.zeroValue3
  t4 := Tryz.underlying4
  a4 := Tryz.isAgg4
  z4 := Tryz.sizeOf4
  v4 := Tryz.zeroValue4
  t5 := Tryz.underlying5
  a5 := Tryz.isAgg5
  z5 := Tryz.sizeOf5
  v5 := Tryz.zeroValue5
  t9 := Tryz.underlying9
  a9 := Tryz.isAgg9
  z9 := Tryz.sizeOf9
  v9 := Tryz.zeroValue9
  t12 := Tryz.underlying12
  a12 := Tryz.isAgg12
  z12 := Tryz.sizeOf12
  v12 := Tryz.zeroValue12
  t46 := Tryz.underlying130
  a46 := Tryz.isAgg130
  z46 := Tryz.sizeOf130
  v46 := Tryz.zeroValue130
  t53 := Tryz.underlying143
  a53 := Tryz.isAgg143
  z53 := Tryz.sizeOf143
  v53 := Tryz.zeroValue143
  t119 := Tryz.underlying126
  a119 := Tryz.isAgg126
  z119 := Tryz.sizeOf126
  t138 := Tryz.underlying128
  a138 := Tryz.isAgg128
  z138 := Tryz.sizeOf128
  v138 := Tryz.zeroValue128
  t139 := Tryz.underlying129
  a139 := Tryz.isAgg129
  z139 := Tryz.sizeOf129
  v139 := Tryz.zeroValue129
  g3 := by kernel_rfl
  g4 := by kernel_rfl }
end

section
open Go.RowKit

theorem encOne_isB (c : Int) (h0 : 0 ≤ c) (h1 : c ≤ 1114111) : ∀ x ∈ encOne c, isB x := by
  intro x hx
  unfold encOne at hx
  unfold isB
  revert hx
  (repeat' split) <;> simp <;> omega

theorem encodeZ_one (c : Int) (h : sgnB c = true) : Lib.encodeRuneZ c = encOne c := by
  have hb : 0 ≤ c ∧ c ≤ 1114111 ∧ ¬ (55296 ≤ c ∧ c ≤ 57343) := by
    simp [sgnB, inB] at h; omega
  unfold encOne
  split
  · exact Lib.encodeRuneZ_one (by omega) (by omega)
  · split
    · exact Lib.encodeRuneZ_two (by omega) (by omega)
    · split
      · exact Lib.encodeRuneZ_three (by omega)
      · exact Lib.encodeRuneZ_four (by omega) (by omega)

theorem runeCells_one (c : Int) (h : sgnB c = true) : Lib.runeCells c = bytesV (b8s (encOne c)) := by
  have hb := sgnB_le c h
  rw [bytesV_b8s _ (encOne_isB c hb.1 hb.2)]
  unfold Lib.runeCells
  rw [encodeZ_one c h]

theorem appRune_any (B : Nat) (v : Value) (l : List UInt8) (c : Int) (h : sgnB c = true) (w : World) (hown : w.ownsRow B 5 1 v l.length (bytesV l)) (hl : l.length ≤ 4194304) (hB : B ≤ w.heap.size) :
    Calls Tryz.prog 75 #[v, .int .i32 c] w fun e w' => ∃ v', e = .returned v' ∧ w'.ownsRow B 5 1 v' (l ++ b8s (encOne c)).length (bytesV (l ++ b8s (encOne c))) ∧ Below B w w' := by
  have hb := sgnB_le c h
  refine (Tryz.utf8_AppendRune_plain B v l.length (bytesV l) c (by omega) (by omega) w hown (by omega) hB).mono ?_
  rintro e w' ⟨v', rfl, hown', o, hg⟩
  refine ⟨v', rfl, ?_, ?_⟩
  · rw [runeCells_one c h] at hown'
    rw [bytesV_append, List.length_append]
    rwa [bytesV_length] at hown'
  · refine ((Below.refl B w).alloc hB o).grown hg (by simp; omega) ?_
    intro k hk
    exact (World.ownsRow.lt hown k hk).1

set_option maxRecDepth 100000 in
set_option maxHeartbeats 2000000 in
theorem iEncode (v : Value) (l : List Int) (w : World) (hl : l.length ≤ 1048576) (hv : IntsAt w v l) :
    Calls Tryz.prog 66 #[v] w fun e w' => e = .returned (.string ⟨(encN l).toArray⟩) ∧ Below w.heap.size w w' := by
  obtain ⟨a, ca, rfl, hva⟩ := hv
  have HBAD := encN_bad l
  have HALL := encN_all l
  have HST : ∀ k, k < l.length → encs (l.take (k + 1)) = encs (l.take k) ++ b8s (encOne (l.getD k 0)) := fun k hk => by rw [take_succ_getD l k hk, encs_snoc]
  have HLE : ∀ k, k ≤ l.length → (encs (l.take k)).length ≤ 4194304 := fun k hk => by
    have := encs_len (l.take k)
    simp at this; omega
  have HT : encs (l.take l.length) = encs l := by rw [List.take_length]
  have H0 : encs (l.take 0) = [] := by simp [encs]
  generalize encN l = r at HBAD HALL ⊢
  generalize encs l = rr at HALL HT
  obtain ⟨E, HE⟩ : ∃ E : Nat → List UInt8, Hid (E = fun k => encs (l.take k)) := ⟨_, rfl⟩
  have HST' : Hid (∀ k, k < l.length → E (k + 1) = E k ++ b8s (encOne (l.getD k 0))) := by rw [HE.out]; exact HST
  have HLE' : Hid (∀ k, k ≤ l.length → (E k).length ≤ 4194304) := by rw [HE.out]; exact HLE
  have HT' : Hid (E l.length = rr) := by rw [HE.out]; exact HT
  have H0' : Hid (E 0 = []) := by rw [HE.out]; exact H0
  clear HST HLE HT H0 HE
  obtain ⟨n, HN⟩ : ∃ n, Hid (n = l.length) := ⟨_, rfl⟩
  rw [← HN.out] at hva hl HBAD HALL HST' HLE' HT' ⊢
  go_enter Tryz.func66, Tryz.ntmps66
  go_wp2
  go_loopw [3, 8] (fun o i wr => ∃ k : Nat, k ≤ n ∧ i = .int .i64 k ∧ wr.ownsRow w.heap.size 5 1 o (E k).length (bytesV (E k)) ∧ (∀ t, t < k → sgnB (l.getD t 0) = true) ∧ Below w.heap.size w wr) (fun _ i _ => n - (intOf i).toNat)
  case atStart => exact ⟨0, Nat.zero_le _, rfl, by rw [H0'.out]; exact World.ownsRow_nil _ _ _ _, fun t ht => by omega, Below.refl _ _⟩
  case round =>
    obtain ⟨k, hk, rfl, hown, hall, hbel⟩ := hrel
    by_cases hlt : k < n
    · obtain ⟨b1, o1, rfl, hb1, hc1⟩ := hva k hlt
      have hc1' := (hbel.cell (p := ⟨b1, o1 + k, none⟩) hb1).trans hc1
      have HB : Hid (sgnB (l.getD k 0) = false → r = []) := HBAD k hlt
      have HS : Hid (E (k + 1) = E k ++ b8s (encOne (l.getD k 0))) := HST'.out k hlt
      have HL : (E k).length ≤ 4194304 := HLE'.out k hk
      have HA : Hid (sgnB (l.getD k 0) = true → ∀ t, t < k + 1 → sgnB (l.getD t 0) = true) := fun h t ht => by
        by_cases htk : t < k
        · exact hall t htk
        · obtain rfl : t = k := by omega
          exact h
      generalize l.getD k 0 = x at hc1' HB HS HA
      clear HBAD HALL hc1 hva hall
      cases hx : sgnB x
      · have HR := HB.out hx
        subst HR
        go_wp2_with (go_at_call 74; refine (isSign_any _ _).mono ?_; rintro e w' ⟨rfl, rfl⟩)
        go_ret
        exact ⟨rfl, hbel⟩
      · have hb := sgnB_le x hx
        have hb0 := hb.1
        have hb1' := hb.2
        go_wp2_with (first | (go_at_call 74; refine (isSign_any _ _).mono ?_; rintro e w' ⟨rfl, rfl⟩) | (go_at_call 75; refine (appRune_any w.heap.size _ (E k) x hx _ hown HL hbel.size).mono ?_; rintro e w1 ⟨v', rfl, hown1, hbel1⟩))
        go_roundw
        case rel => exact ⟨k + 1, by omega, by go_num, by rw [HS.out]; exact hown1, HA.out hx, hbel.trans hbel1⟩
        case measure => simp [intOf]; omega
    · obtain rfl : k = n := by omega
      have HR : Hid (r = rr) := HALL hall
      rw [HT'.out] at hown
      have hcv := row_string (P := Tryz.prog) (T := 9) Tryz.underlying63 Tryz.underlying5 Tryz.underlying9 hown
      go_wp2
      go_ret
      exact ⟨ret_str (by rw [HR.out]), hbel⟩
end

section
open Go.RowKit

theorem valid_any (s : ByteArray) (w : World) (hs : s.size ≤ 1048576) (hT : Lib.Utf8Tabs (Tryz.laysValid_ren.g 3) (Tryz.laysValid_ren.g 4) w) :
    Calls Tryz.prog 80 #[.string s] w fun e w' => e = .returned (.bool (decN s).isSome) ∧ Below w.heap.size w w' := by
  rw [← valid_decN]
  exact Any.utf8_ValidString Tryz.laysValid s w (by omega) hT

theorem iterAt_gb (w : World) (g : Nat) (s : ByteArray) (k : Nat) : w.grownBy (w.iterAt g s k) (some g) :=
  ⟨rfl, rfl, rfl, by simp [World.iterAt], fun i _ hn => by
    have : g ≠ i := fun e => hn (by rw [e])
    simp [World.iterAt, this]⟩

theorem row_iterAt {w : World} {g : Nat} {v : Value} {l : List Int} (h : IntRow w (g + 1) v l) (s : ByteArray) (k : Nat) : IntRow (w.iterAt g s k) (g + 1) v l := by
  refine World.ownsRow.kept h (iterAt_gb w g s k) ?_
  cases e : v.ownBlock with
  | none => exact .inl rfl
  | some j =>
    right
    intro e2
    cases e2
    have := (World.ownsRow.lt h _ e).1
    omega

theorem below_iterAt {B : Nat} {w w' : World} (h : Below B w w') {g : Nat} (hg : B ≤ g) (s : ByteArray) (k : Nat) : Below B w (w'.iterAt g s k) :=
  ⟨h.os, h.tape, h.output, by simp [World.iterAt]; exact h.size, fun i hi => by
    have : g ≠ i := by omega
    rw [← h.block i hi]
    simp [World.iterAt, this]⟩

def itLeft (g : Nat) (w : World) : Nat := match w.heap[g]? with | some (.stringIter s k) => s.size - k | _ => 0
theorem itLeft_at {g : Nat} {w : World} {s : ByteArray} {k : Nat} (h : w.heap[g]? = some (.stringIter s k)) : itLeft g w = s.size - k := by
  unfold itLeft; rw [h]

set_option maxRecDepth 100000 in
set_option maxHeartbeats 2000000 in
theorem iDecode (s : ByteArray) (w : World) (hs : s.size ≤ 1048576) (hT : Lib.Utf8Tabs (Tryz.laysValid_ren.g 3) (Tryz.laysValid_ren.g 4) w) :
    Calls Tryz.prog 72 #[.string s] w fun e w' => DecSays w e w' (decN s) := by
  have HV := valid_any s w hs hT
  clear hT
  cases hd : decN s with
  | none =>
    rw [hd] at HV
    go_enter Tryz.func72, Tryz.ntmps72
    go_wp2_with (go_at_call 80; refine HV.mono ?_; rintro e w1 ⟨rfl, hb1⟩)
    go_ret2
    exact ⟨_, rfl, World.ownsRow_nil _ _ _ _, hb1⟩
  | some L =>
    rw [hd] at HV
    have HST : Hid (∀ k l, k < s.size → oneL s k ≠ 0 → decA s (k + oneL s k) (l ++ [oneC s k]) = decA s k l) := fun k l h h0 => decA_step s k l h h0
    have HBD : Hid (∀ k l, k < s.size → oneL s k = 0 → decA s k l = none) := fun k l h h0 => decA_bad s k l h h0
    have HEN : Hid (∀ k l, ¬ k < s.size → decA s k l = some l) := fun k l h => decA_end s k l h
    have H0 : Hid (decA s 0 [] = some L) := by show _ = _; rw [decA_0, hd]
    clear hd
    go_enter Tryz.func72, Tryz.ntmps72
    go_wp2_with (go_at_call 80; refine HV.mono ?_; rintro e w1 ⟨rfl, hb1⟩)
    obtain ⟨g, hg⟩ : ∃ g, w1.heap.size = g := ⟨_, rfl⟩
    rw [hg]
    have hgB : w.heap.size ≤ g := by rw [← hg]; exact hb1.size
    go_loopw [4] (fun v wr => ∃ (k : Nat) (l : List Int), k ≤ s.size ∧ l.length ≤ k ∧ decA s k l = some L ∧ wr.heap[g]? = some (.stringIter s k) ∧ IntRow wr (g + 1) v l ∧ Below w.heap.size w wr ∧ g + 1 ≤ wr.heap.size)
      (fun _ wr => itLeft g wr)
    case atStart =>
      refine ⟨0, [], Nat.zero_le _, Nat.le_refl _, H0.out, ?_, World.ownsRow_nil _ _ _ _, ?_, ?_⟩
      · subst hg; exact World.iter_heap w1 s 0
      · exact hb1.alloc hb1.size _
      · show _ ≤ (w1.alloc _).heap.size; simp; omega
    case round =>
      obtain ⟨k, l, hk, hlk, hA, hit, hrow, hbel, hsz⟩ := hrel
      by_cases hlt : k < s.size
      · rcases decode_one s k hlt with ⟨_, h1, h2, h3, h4, -⟩ | ⟨_, h1, -⟩
        · have hle := oneL_le s k hlt
          have HA : Hid (decA s (k + oneL s k) (l ++ [oneC s k]) = some L) := by show _ = _; rw [HST.out k l hlt h1]; exact hA
          have hnx0 := fun ty => Lib.run_next_any_at (P := Tryz.prog) wr g s k ty hit hlt
          rw [h2] at hnx0
          have hc0 : (((oneC s k).toNat : Nat) : Int) = oneC s k := by omega
          simp only [hc0] at hnx0
          generalize oneL s k = d at h1 hle HA hnx0
          generalize oneC s k = c at h3 h4 HA hnx0
          clear h2 hc0
          have hrow1 := row_iterAt hrow s (k + d)
          have hbel1 := below_iterAt hbel hgB s (k + d)
          have hit1 : (wr.iterAt g s (k + d)).heap[g]? = some (.stringIter s (k + d)) := Lib.iterAt_heap wr g s k (k + d) hit
          have hsz1 : g + 1 ≤ (wr.iterAt g s (k + d)).heap.size := by simp [World.iterAt]; exact hsz
          have hm0 := itLeft_at hit
          generalize wr.iterAt g s (k + d) = w2 at hnx0 hrow1 hbel1 hit1 hsz1
          go_wp2_with (at_builtin; refine append_int w2 rfl (.tmp 15) (.tmp 18) rfl (g + 1) _ l c (by omega) hrow1 rfl rfl hsz1 ?_; intro v' w3 hrow3 hbel3)
          have hit3 : w3.heap[g]? = some (.stringIter s (k + d)) := (hbel3.block g (by omega)).trans hit1
          have hm3 := itLeft_at hit3
          go_roundw
          case rel => exact ⟨k + d, l ++ [c], hle.1, by simp; omega, HA.out, hit3, hrow3, hbel1.trans (hbel3.mono (by omega)), Nat.le_trans hsz1 hbel3.size⟩
          case measure => omega
        · rw [HBD.out k l hlt h1] at hA; cases hA
      · rw [HEN.out k l hlt] at hA
        cases hA
        have hnx := fun ty => Lib.run_next_end_at (P := Tryz.prog) wr g s k ty hit hlt
        go_wp2
        go_ret2
        exact ⟨_, rfl, hrow.mono (by omega), hbel⟩
end

section
open Go.RowKit

theorem decF_len (s : ByteArray) : ∀ (f k : Nat) (l : List Int), decF s f k = some l → l.length ≤ s.size - k := by
  intro f
  induction f with
  | zero => intro k l h; cases h
  | succ f ih =>
    intro k l h
    by_cases hk : k < s.size
    · by_cases h0 : oneL s k = 0
      · rw [decF_bad s f k hk h0] at h; cases h
      · rw [decF_step s f k hk h0] at h
        obtain ⟨m, hm, rfl⟩ := Option.map_eq_some_iff.1 h
        have := ih _ m hm
        simp; omega
    · rw [decF_end s f k hk] at h; cases h; simp
theorem decN_len (s : ByteArray) : ((decN s).getD []).length ≤ s.size := by
  cases h : decN s with
  | none => simp
  | some l => have := decF_len s _ _ l h; simp; omega
end

section
open Go.RowKit

def ikT : List Int := [32, 46, 48, 126, 161, 255, 469, 470, 768, 772, 776, 776, 778, 778, 803, 803, 807, 807, 902, 902, 904, 906, 908, 908, 910, 911, 913, 929, 931, 937, 940, 943, 945, 969, 972, 974, 1040, 1103, 4352, 4370, 4449, 4469, 4520, 4546, 7840, 7841, 7852, 7853, 8486, 8486, 8491, 8491, 44032, 55203]
def ikAny (c : Int) : Bool := (List.range 27).any fun t => inB c (ikT.getD (2 * t) 0) (ikT.getD (2 * t + 1) 0)

theorem ikAny_yes (c : Int) (t : Nat) (ht : t < 27) (h : inB c (ikT.getD (2 * t) 0) (ikT.getD (2 * t + 1) 0) = true) : ikAny c = true :=
  List.any_eq_true.2 ⟨t, List.mem_range.2 ht, h⟩
theorem ikAny_no (c : Int) (h : ∀ t, t < 27 → inB c (ikT.getD (2 * t) 0) (ikT.getD (2 * t + 1) 0) = false) : ikAny c = false := by
  cases e : ikAny c with
  | false => rfl
  | true =>
    obtain ⟨t, ht, h'⟩ := List.any_eq_true.1 e
    rw [h t (List.mem_range.1 ht)] at h'
    exact h'.symm
set_option maxRecDepth 100000 in
theorem ikAny_iff (c : Int) : ikAny c = true ↔ knB c = true := by
  simp [ikAny, knB, knAny, List.range_succ, inB, ikT, knF, knT]
  omega
theorem ikAny_kn (c : Int) : ikAny c = knB c := by
  have := ikAny_iff c
  cases h1 : ikAny c <;> cases h2 : knB c <;> simp_all

theorem ext_two (a : Array Value) (n : Nat) (x y : Value) (h : n + 1 < a.size) (hx : a[n]? = some x) (hy : a[n + 1]? = some y) : a.extract n (n + 2) = #[x, y] := by
  apply Array.ext
  · simp; omega
  · intro i h1 h2
    have hi : i < 2 := by simpa using h2
    match i, hi with
    | 0, _ => simp; rw [Array.getElem?_eq_getElem (by omega)] at hx; exact Option.some.inj hx
    | 1, _ => simp; rw [Array.getElem?_eq_getElem (by omega)] at hy; exact Option.some.inj hy

set_option maxRecDepth 100000 in
/-- the table, read whole -/
theorem ik_open (w : World) (hw : ∀ i, i < 54 → w.cell? ⟨2, i, none⟩ = some (.int .i64 (ikT.getD i 0))) :
    ∃ A : Array Value, ((loadCells ⟨2, 0, none⟩ 54).run Tryz.prog w = .ok A w) ∧
      ∀ k : Nat, k < 27 → ∀ w', (Instr.index 133 (.agg A) (.int .i64 (k : Int))).run Tryz.prog w' = .ok (.agg #[.int .i64 (ikT.getD (2 * k) 0), .int .i64 (ikT.getD (2 * k + 1) 0)]) w' := by
  have hlen : (intsV ikT).length = 54 := by rfl
  have hget : ∀ j, j < 54 → (intsV ikT)[j]? = some (.int .i64 (ikT.getD j 0)) := fun j hj => intsV_get ikT j (by show j < 54; exact hj)
  have h1 : (loadCells ⟨2, 0, none⟩ 54).run Tryz.prog w = .ok (intsV ikT).toArray w := by
    have := run_loadCells_list (P := Tryz.prog) w ⟨2, 0, none⟩ (intsV ikT) (fun j v hv => by
      have hj : j < 54 := by rw [← hlen]; exact (List.getElem?_eq_some_iff.1 hv).1
      rw [hget j hj] at hv
      rw [Addr.add_lit, Nat.zero_add, hw j hj]; exact hv)
    rwa [hlen] at this
  have ha2 : ∀ w : World, (isAgg 132).run Tryz.prog w = .ok true w := fun w => by kernel_rfl
  have hs2 : ∀ w : World, (Go.sizeOf 132).run Tryz.prog w = .ok 2 w := fun w => by kernel_rfl
  obtain ⟨A, hA⟩ : ∃ A, A = (intsV ikT).toArray := ⟨_, rfl⟩
  rw [← hA] at h1
  have hsz : A.size = 54 := by rw [hA]; rfl
  have hgt : ∀ j, j < 54 → A[j]? = some (.int .i64 (ikT.getD j 0)) := fun j hj => by rw [hA]; simpa using hget j hj
  clear hA hget hlen
  refine ⟨A, h1, fun k hk w' => ?_⟩
  · have hu := run_underlying Tryz.underlying133
    have he : A.extract (k * 2) (k * 2 + 2) = #[.int .i64 (ikT.getD (2 * k) 0), .int .i64 (ikT.getD (2 * k + 1) 0)] := by
      refine ext_two _ _ _ _ (by omega) ?_ ?_
      · rw [show k * 2 = 2 * k by omega]; exact hgt (2 * k) (by omega)
      · rw [show k * 2 = 2 * k by omega]; exact hgt (2 * k + 1) (by omega)
    simp [Instr.index, asIntOf, hu, hk, part, ha2, hs2, he]

/-- a load whose run is known -/
theorem wpList_load_at {P : Program} (w : World) {ops : Array Oper} {rest : List Oper} {o : Oper} {a : Act} {Q : Exit → Act → World → Prop} (hg : o.guard = none) (t : TypeId) (x : Operand) (hop : o.op = .load t x)
    (v : Value) (hrun : (Instr.loadAt t (a.eval x)).run P w = .ok v w) (h : wpList P ops Q rest (a.put o.dst v) w) : wpList P ops Q (o :: rest) a w := by
  refine wpList_plain hg fun K' hK' => ?_
  unfold Oper.wp
  simp [execOp, hop, hrun, Result.andThen]
  exact hK' _ _ h

theorem ik_load (w : World) (A : Array Value) (h : (loadCells ⟨2, 0, none⟩ 54).run Tryz.prog w = .ok A w) : (Instr.loadAt 133 (.pointer (some ⟨2, 0, none⟩))).run Tryz.prog w = .ok (.agg A) w := by
  have ha : ∀ w : World, (isAgg 133).run Tryz.prog w = .ok true w := fun w => by kernel_rfl
  have hs : ∀ w : World, (Go.sizeOf 133).run Tryz.prog w = .ok 54 w := fun w => by kernel_rfl
  simp [Instr.loadAt, Instr.sureAddr, loadVar, ha, hs, h]

set_option maxRecDepth 100000 in
set_option maxHeartbeats 1000000 in
theorem iKnown (c : Int) (w : World) (hw : ∀ i, i < 54 → w.cell? ⟨2, i, none⟩ = some (.int .i64 (ikT.getD i 0))) :
    Calls Tryz.prog 81 #[.int .i64 c] w fun e w' => e = .returned (.bool (knB c)) ∧ Below w.heap.size w w' := by
  rw [← ikAny_kn]
  have HY := fun t ht h => ikAny_yes c t ht h
  have HN := ikAny_no c
  generalize ikAny c = r at HY HN ⊢
  obtain ⟨A, hload0, hidx⟩ := ik_open w hw
  have hload : Hid ((Instr.loadAt 133 (.pointer (some ⟨2, 0, none⟩))).run Tryz.prog w = .ok (.agg A) w) := ik_load w A hload0
  have HIX : Hid (∀ k : Nat, k < 27 → ∀ w', (Instr.index 133 (.agg A) (.int .i64 (k : Int))).run Tryz.prog w' = .ok (.agg #[.int .i64 (ikT.getD (2 * k) 0), .int .i64 (ikT.getD (2 * k + 1) 0)]) w') := hidx
  clear hw hload0 hidx
  go_enter Tryz.func81, Tryz.ntmps81
  go_wp2_with (refine wpList_load_at w rfl 133 (.global 2) rfl (.agg A) hload.out ?_)
  go_loopw [6] (fun i wr => ∃ k : Nat, k ≤ 27 ∧ i = .int .i64 k ∧ (∀ t, t < k → inB c (ikT.getD (2 * t) 0) (ikT.getD (2 * t + 1) 0) = false) ∧ Below w.heap.size w wr) (fun i _ => 27 - (intOf i).toNat)
  case atStart => exact ⟨0, Nat.zero_le _, rfl, fun t ht => by omega, Below.refl _ _⟩
  case round =>
    obtain ⟨k, hk, rfl, hne, hbel⟩ := hrel
    by_cases hlt : k < 27
    · have hx := HIX.out k hlt wr
      have HK : Hid (inB c (ikT.getD (2 * k) 0) (ikT.getD (2 * k + 1) 0) = true → r = true) := HY k hlt
      obtain ⟨x, HX⟩ : ∃ x, Hid (x = ikT.getD (2 * k) 0) := ⟨_, rfl⟩
      obtain ⟨y, HY2⟩ : ∃ y, Hid (y = ikT.getD (2 * k + 1) 0) := ⟨_, rfl⟩
      rw [← HX.out, ← HY2.out] at hx HK
      have hkn : (k : Int) < 27 := by omega
      have hk0 : (0 : Int) ≤ (k : Int) := by omega
      cases hin : inB c x y
      · go_wp2_with (go_at_call 54; refine (btw_any _ _ _ _).mono ?_; rintro e w' ⟨rfl, rfl⟩)
        go_roundw
        case rel => exact ⟨k + 1, by omega, by go_num, fun t ht => by
          by_cases htk : t < k
          · exact hne t htk
          · obtain rfl : t = k := by omega
            rw [← HX.out, ← HY2.out]; exact hin, hbel.alloc hbel.size _⟩
        case measure => simp [intOf]; omega
      · obtain rfl := HK.out hin
        go_wp2_with (go_at_call 54; refine (btw_any _ _ _ _).mono ?_; rintro e w' ⟨rfl, rfl⟩)
        go_ret
        exact ⟨rfl, hbel.alloc hbel.size _⟩
    · obtain rfl : k = 27 := by omega
      obtain rfl := HN hne
      go_wp2
      go_ret
      exact ⟨rfl, hbel⟩
end

section
open Go.RowKit

theorem xor_i64 (a b : Nat) (ha : a < 4294967296) (hb : b < 4294967296) : bits .xor .i64 (a : Int) (b : Int) = ((a ^^^ b : Nat) : Int) := by
  have hx : a ^^^ b < 2 ^ 32 := Nat.xor_lt_two_pow (by omega) (by omega)
  have e : ∀ m : Nat, m < 4294967296 → (BitVec.ofInt 64 (m : Int)).toNat = m := fun m hm => by
    rw [BitVec.ofInt_natCast, BitVec.toNat_ofNat]; exact Nat.mod_eq_of_lt (by omega)
  show IntKind.i64.wrap (((BitVec.ofInt 64 (a : Int) ^^^ BitVec.ofInt 64 (b : Int)).toNat : Nat) : Int) = _
  rw [BitVec.toNat_xor, e a ha, e b hb, wraps_i64 _ (by omega) (by omega)]

/-- one halving -/
def hv (c : Nat) : Nat := if c % 2 = 1 then c / 2 ^^^ 2197175160 else c / 2

theorem hv_lt (c : Nat) (h : c < 4294967296) : hv c < 4294967296 := by
  unfold hv
  split
  · have := Nat.xor_lt_two_pow (x := c / 2) (y := 2197175160) (n := 32) (by omega) (by omega)
    omega
  · omega

/-- k halvings -/
def hvN : Nat → Nat → Nat
  | 0, c => c
  | k + 1, c => hv (hvN k c)

theorem hvN_lt (k c : Nat) (h : c < 4294967296) : hvN k c < 4294967296 := by
  induction k with
  | zero => exact h
  | succ k ih => exact hv_lt _ ih

theorem hvN_add (j k c : Nat) : hvN (j + k) c = hvN j (hvN k c) := by
  induction j with
  | zero => rw [Nat.zero_add]; rfl
  | succ j ih => rw [Nat.succ_add]; show hv _ = hv _; rw [ih]

theorem xor_mod2 (a b : Nat) : (a ^^^ b) % 2 = (a % 2 ^^^ b % 2) := by
  have := Nat.xor_mod_two_pow (a := a) (b := b) (n := 1)
  simpa using this

theorem xor_div2 (a b : Nat) : (a ^^^ b) / 2 = (a / 2 ^^^ b / 2) := by
  have := Nat.xor_div_two_pow (a := a) (b := b) (n := 1)
  simpa using this

theorem hv_xor (a b : Nat) : hv (a ^^^ b) = hv a ^^^ hv b := by
  unfold hv
  rw [xor_mod2, xor_div2]
  rcases Nat.mod_two_eq_zero_or_one a with ha | ha <;> rcases Nat.mod_two_eq_zero_or_one b with hb | hb <;> rw [ha, hb]
  · rfl
  · simp [Nat.xor_assoc]
  · have : (a / 2 ^^^ b / 2) ^^^ 2197175160 = (a / 2 ^^^ 2197175160) ^^^ b / 2 := by rw [Nat.xor_assoc, Nat.xor_comm (b / 2), ← Nat.xor_assoc]
    simpa using this
  · have : (a / 2 ^^^ 2197175160 ^^^ (b / 2 ^^^ 2197175160)) = a / 2 ^^^ b / 2 := by
      rw [Nat.xor_comm (b / 2), ← Nat.xor_assoc, Nat.xor_assoc (a / 2), Nat.xor_self, Nat.xor_zero]
    simp [this]

theorem hvN_xor (k a b : Nat) : hvN k (a ^^^ b) = hvN k a ^^^ hvN k b := by
  induction k with
  | zero => rfl
  | succ k ih => show hv _ = hv _ ^^^ hv _; rw [ih, hv_xor]

theorem hv_two (q : Nat) : hv (2 * q) = q := by unfold hv; rw [if_neg (by omega)]; omega

theorem hvN_16 (q : Nat) : hvN 4 (16 * q) = q := by
  show hv (hv (hv (hv (16 * q)))) = q
  rw [show 16 * q = 2 * (2 * (2 * (2 * q))) by omega, hv_two, hv_two, hv_two, hv_two]

theorem split_16 (c : Nat) : c = (16 * (c / 16)) ^^^ (c % 16) := by
  have h1 : (16 * (c / 16) ^^^ c % 16) / 16 = c / 16 := by
    have := Nat.xor_div_two_pow (a := 16 * (c / 16)) (b := c % 16) (n := 4)
    simp only [Nat.reducePow] at this
    rw [this, Nat.mul_div_cancel_left _ (by decide), Nat.div_eq_of_lt (Nat.mod_lt c (by decide : 16 > 0)), Nat.xor_zero]
  have h2 : (16 * (c / 16) ^^^ c % 16) % 16 = c % 16 := by
    have := Nat.xor_mod_two_pow (a := 16 * (c / 16)) (b := c % 16) (n := 4)
    simp only [Nat.reducePow] at this
    rw [this, Nat.mul_mod_right, Nat.zero_xor, Nat.mod_mod]
  have := Nat.div_add_mod (16 * (c / 16) ^^^ c % 16) 16
  rw [h1, h2] at this
  omega

/-- the table of sixteen -/
def tab16 : List Int := [0, 274646895, 549293790, 820201905, 1098587580, 1361435347, 1640403810, 1905808397, 2197175160, 2460548119, 2722870694, 2987750089, 3280807620, 3553878443, 3811616794, 4084100981]

theorem tab16_all : ∀ i, i < 16 → tab16.getD i 0 = ((hvN 4 i : Nat) : Int) := by decide

theorem tab16_len : tab16.length = 16 := rfl

theorem hvN_half (c : Nat) : hvN 4 c = c / 16 ^^^ hvN 4 (c % 16) := by
  conv => lhs; rw [split_16 c]
  rw [hvN_xor, hvN_16]

theorem hvN_byte (c b : Nat) : hvN 8 (c ^^^ b) = hvN 4 (hvN 4 (c ^^^ b)) := hvN_add 4 4 _

/-- the sum over the first n bytes -/
def crcN (s : ByteArray) : Nat → Nat
  | 0 => 4294967295
  | n + 1 => hvN 8 (crcN s n ^^^ (s.data.getD n 0).toNat)

theorem xor_byte_lt (c b : Nat) (h : c < 4294967296) (hb : b < 256) : c ^^^ b < 4294967296 := by
  have := Nat.xor_lt_two_pow (x := c) (y := b) (n := 32) (by omega) (by omega)
  omega

theorem byte_lt (x : UInt8) : x.toNat < 256 := x.toNat_lt

theorem crcN_lt (s : ByteArray) (n : Nat) : crcN s n < 4294967296 := by
  induction n with
  | zero => show 4294967295 < 4294967296; omega
  | succ n ih => exact hvN_lt _ _ (xor_byte_lt _ _ ih (byte_lt _))
end

section
open Go.RowKit

/-- the table of sums lies as the program's text lays it -/
def CrcTab (w : World) : Prop := ∀ i, i < 16 → w.cell? ⟨3, i, none⟩ = some (.int .u32 (tab16.getD i 0))
theorem CrcTab.below {w w' : World} (h : CrcTab w) (hb : Below w.heap.size w w') : CrcTab w' := fun i hi => (hb.cell (p := ⟨3, i, none⟩) (World.block_lt_of_cell? w _ (h i hi))).trans (h i hi)
theorem CrcTab.pos {w : World} (h : CrcTab w) : 3 < w.heap.size := World.block_lt_of_cell? w _ (h 0 (by decide))

def crcV (s : ByteArray) : Int := 4294967295 - (crcN s s.size : Int)
theorem crcV_in (s : ByteArray) : 0 ≤ crcV s ∧ crcV s ≤ 4294967295 := by unfold crcV; have := crcN_lt s s.size; omega
end

section
open Go.RowKit

theorem crcN_succ (s : ByteArray) (k : Nat) (h : k < s.size) : crcN s (k + 1) = hvN 8 (crcN s k ^^^ s[k].toNat) := by
  show hvN 8 (crcN s k ^^^ (s.data.getD k 0).toNat) = _
  have : s.data.getD k 0 = s[k] := by
    have h' : k < s.data.size := h
    rw [Array.getD, dif_pos h']; rfl
  rw [this]
end

section
open Go.RowKit

theorem gb_refl (w : World) (r : Option Nat) : w.grownBy w r := ⟨rfl, rfl, rfl, Nat.le_refl _, fun _ _ _ => rfl⟩
theorem gb_trans {w w1 w2 : World} {r : Option Nat} (a : w.grownBy w1 r) (b : w1.grownBy w2 r) : w.grownBy w2 r :=
  ⟨b.os.trans a.os, b.tape.trans a.tape, b.output.trans a.output, Nat.le_trans a.size b.size, fun k hk hn => (b.block k (Nat.lt_of_lt_of_le hk a.size) hn).trans (a.block k hk hn)⟩
theorem gb_set (w : World) (p j : Nat) (v : Value) : w.grownBy (w.setCell ⟨p, j, none⟩ v) (some p) :=
  ⟨rfl, rfl, rfl, by simp [World.setCell], fun k _ hn => Below.heap_setCell _ _ _ _ (fun e => hn (by rw [e]))⟩
theorem gb_drewN {w w1 : World} {r : Option Nat} (a : w.grownBy w1 r) (n : Nat) : w.grownBy (w1.drewN n) r := ⟨a.os, a.tape, a.output, a.size, a.block⟩

theorem gb_drew {w w1 : World} {r : Option Nat} (a : w.grownBy w1 r) : w.grownBy w1.drew r := ⟨a.os, a.tape, a.output, a.size, a.block⟩
theorem below_gb {w w1 : World} {p B : Nat} (a : w.grownBy w1 (some p)) (hB : B ≤ p) (hp : p < w.heap.size) : Below B w w1 :=
  ⟨a.os, a.tape, a.output, a.size, fun k hk => a.block k (by omega) (fun e => by cases e; omega)⟩

/-- the running sum in block p has come to c; the table lies as it was laid -/
def SumAt (p c : Nat) (w : World) : Prop :=
  w.heap[p]? = some (.cells #[.int .u32 (c : Int)] 121 (0, 0)) ∧ c < 4294967296 ∧ 3 < p ∧
  ∀ i, i < 16 → w.cell? ⟨3, i, none⟩ = some (.int .u32 (tab16.getD i 0))

theorem SumAt.store {p c : Nat} {w : World} (h : SumAt p c w) (d : Nat) (hd : d < 4294967296) : SumAt p d (w.setCell ⟨p, 0, none⟩ (.int .u32 (d : Int))) :=
  ⟨heap_setCell_same w p 0 _ _ _ h.1, hd, h.2.2.1, fun i hi =>
    (((Below.refl p w).setCell (p := ⟨p, 0, none⟩) (Nat.le_refl _) (.int .u32 (d : Int))).cell (p := ⟨3, i, none⟩) h.2.2.1).trans (h.2.2.2 i hi)⟩

theorem SumAt.drewN {p c : Nat} {w : World} (h : SumAt p c w) (n : Nat) : SumAt p c (w.drewN n) := h

set_option maxRecDepth 100000 in
set_option maxHeartbeats 400000 in
theorem addHalf_any (p c : Nat) (w : World) (h : SumAt p c w) :
    Calls Tryz.prog 100 #[.pointer (some ⟨p, 0, none⟩)] w fun e w' => e = .returned (.tuple #[]) ∧ SumAt p (hvN 4 c) w' ∧ w.grownBy w' (some p) := by
  have c0 := cell_of_row w p 0 _ _ (0, 0) h.1
  have f0 := frozen_of_row w p 0 _ _ h.1
  simp at c0
  have hc := h.2.1
  have hT := h.2.2.2 (c % 16) (Nat.mod_lt _ (by decide))
  rw [tab16_all _ (Nat.mod_lt _ (by decide))] at hT
  have ht : hvN 4 (c % 16) < 4294967296 := hvN_lt _ _ (by omega)
  have HH : Hid (hvN 4 c = c / 16 ^^^ hvN 4 (c % 16)) := hvN_half c
  have HL : Hid (hvN 4 c < 4294967296) := hvN_lt _ _ hc
  obtain ⟨t, HT⟩ : ∃ t, Hid (t = hvN 4 (c % 16)) := ⟨_, rfl⟩
  rw [← HT.out] at hT ht HH
  obtain ⟨i, HI⟩ : ∃ i, Hid (i = c % 16) := ⟨_, rfl⟩
  have hi : (c : Int) % 16 = (i : Int) := by have := HI.out; omega
  have hi' : (c : Int).tmod 16 = (i : Int) := by rw [Int.tmod_eq_emod_of_nonneg (by omega)]; exact hi
  have h0i : (0 : Int) ≤ (i : Int) := by omega
  have h1i : (i : Int) < 16 := by have := HI.out; omega
  rw [← HI.out] at hT
  have hi16 : i < 16 := by have := HI.out; omega
  have hx : bits .xor .u32 ((c : Int) / 16) (t : Int) = ((c / 16 ^^^ t : Nat) : Int) := by
    have := u32_xor ((c / 16 : Nat) : Int) (t : Int) (by omega) (by omega) (by omega) (by omega)
    rw [show (((c / 16 : Nat) : Int)).toNat = c / 16 from Int.toNat_natCast _, Int.toNat_natCast] at this
    exact this
  go_enter Tryz.func100, Tryz.ntmps100
  go_wp2
  go_region
  go_end0
  exact ⟨rfl, by rw [HH.out]; exact h.store _ (by rw [← HH.out]; exact HL.out), gb_drew (gb_set _ _ _ _)⟩

set_option maxRecDepth 100000 in
set_option maxHeartbeats 400000 in
theorem add_any (p c b : Nat) (hb : b < 256) (w : World) (h : SumAt p c w) :
    Calls Tryz.prog 89 #[.pointer (some ⟨p, 0, none⟩), .int .u8 (b : Int)] w fun e w' => e = .returned (.tuple #[]) ∧ SumAt p (hvN 8 (c ^^^ b)) w' ∧ w.grownBy w' (some p) := by
  have c0 := cell_of_row w p 0 _ _ (0, 0) h.1
  have f0 := frozen_of_row w p 0 _ _ h.1
  simp at c0
  have hc := h.2.1
  have hx : bits .xor .u32 (c : Int) (b : Int) = ((c ^^^ b : Nat) : Int) := by
    have := u32_xor (c : Int) (b : Int) (by omega) (by omega) (by omega) (by omega)
    rw [Int.toNat_natCast, Int.toNat_natCast] at this
    exact this
  have hd := xor_byte_lt c b hc hb
  have HB : Hid (hvN 8 (c ^^^ b) = hvN 4 (hvN 4 (c ^^^ b))) := hvN_byte c b
  obtain ⟨d, HD⟩ : ∃ d, Hid (d = c ^^^ b) := ⟨_, rfl⟩
  rw [← HD.out] at hx hd HB ⊢
  have h1 := h.store d hd
  go_enter Tryz.func89, Tryz.ntmps89
  go_wp2_with fail
  refine (addHalf_any p d _ h1).mono ?_
  rintro e w1 ⟨rfl, h2, g2⟩
  go_wp2_with fail
  refine (addHalf_any p _ _ h2).mono ?_
  rintro e w2 ⟨rfl, h3, g3⟩
  go_wp2
  go_end0
  exact ⟨rfl, by rw [HB.out]; exact h3, gb_trans (gb_set _ _ _ _) (gb_trans g2 g3)⟩

set_option maxRecDepth 100000 in
theorem total_any (p c : Nat) (w : World) (h : SumAt p c w) :
    Calls Tryz.prog 90 #[.pointer (some ⟨p, 0, none⟩)] w fun e w' => e = .returned (.int .i64 (4294967295 - (c : Int))) ∧ w = w' := by
  have c0 := cell_of_row w p 0 _ _ (0, 0) h.1
  simp at c0
  have hc := h.2.1
  go_enter Tryz.func90, Tryz.ntmps90
  go_wp2
  go_ret
  exact ⟨rfl, rfl⟩

set_option maxRecDepth 100000 in
set_option maxHeartbeats 400000 in
theorem eachByte_any (s : ByteArray) (hs : s.size ≤ 1048576) (p : Nat) (w : World) (h : SumAt p 4294967295 w) :
    Calls Tryz.prog 88 #[.string s, .func (.func 89) #[.pointer (some ⟨p, 0, none⟩)] #[]] w fun e w' => e = .returned (.tuple #[]) ∧ SumAt p (crcN s s.size) w' ∧ w.grownBy w' (some p) := by
  go_enter Tryz.func88, Tryz.ntmps88
  go_wp2
  go_loopw [7] (fun i wr => ∃ k : Nat, k ≤ s.size ∧ i = .int .i64 k ∧ SumAt p (crcN s k) wr ∧ w.grownBy wr (some p)) (fun i _ => s.size - (intOf i).toNat)
  case atStart => exact ⟨0, Nat.zero_le _, rfl, h, gb_refl _ _⟩
  case round =>
    obtain ⟨k, hk, rfl, h1, g1⟩ := hrel
    by_cases hlt : k < s.size
    · have HS : Hid (crcN s (k + 1) = hvN 8 (crcN s k ^^^ s[k].toNat)) := crcN_succ s k hlt
      have hb := s[k].toNat_lt
      generalize hbe : s[k].toNat = b at hb HS
      go_wp2_with fail
      refine (add_any p _ b hb _ h1).mono ?_
      rintro e w1 ⟨rfl, h2, g2⟩
      go_wp2
      go_roundw
      case rel => exact ⟨k + 1, by omega, by go_num, by rw [HS.out]; exact h2, gb_trans g1 g2⟩
      case measure => simp [intOf]; omega
    · obtain rfl : k = s.size := by omega
      go_wp2
      go_end0
      exact ⟨rfl, h1, g1⟩

theorem heap_new (w : World) (o : Obj) : (w.alloc o).heap[w.heap.size]? = some o := by
  show (w.heap.push o)[w.heap.size]? = some o
  rw [Array.getElem?_push_size]

theorem alloc_sum (w : World) (hw : ∀ i, i < 16 → w.cell? ⟨3, i, none⟩ = some (.int .u32 (tab16.getD i 0))) (h0 : 3 < w.heap.size) :
    SumAt w.heap.size 4294967295 (w.alloc (.cells #[.int .u32 4294967295] 121)) :=
  ⟨heap_new _ _, by omega, h0, fun i hi => by
    rw [World.cell?_alloc_lt _ _ _ h0]; exact hw i hi⟩

set_option maxRecDepth 100000 in
set_option maxHeartbeats 400000 in
theorem iCrc (s : ByteArray) (hs : s.size ≤ 1048576) (w : World) (hw : ∀ i, i < 16 → w.cell? ⟨3, i, none⟩ = some (.int .u32 (tab16.getD i 0))) (h0 : 3 < w.heap.size) :
    Calls Tryz.prog 79 #[.string s] w fun e w' => e = .returned (.int .i64 (4294967295 - (crcN s s.size : Int))) ∧ Below w.heap.size w w' := by
  have hmf : ∀ (fn : Fn) (first cap : Array Value) (w : World), (Instr.makeFunc fn first cap).run Tryz.prog w = .ok (.func fn first cap) w := fun _ _ _ _ => rfl
  have hA := alloc_sum w hw h0
  go_enter Tryz.func79, Tryz.ntmps79
  go_wp2_with fail
  refine (eachByte_any s hs _ _ hA).mono ?_
  rintro e w1 ⟨rfl, h1, g1⟩
  go_wp2_with fail
  refine (total_any _ _ _ h1).mono ?_
  rintro e w2 ⟨rfl, rfl⟩
  go_wp2
  go_ret
  exact ⟨rfl, ((Below.refl w.heap.size w).alloc (Nat.le_refl _) _).trans (below_gb g1 (Nat.le_refl _) (by simp))⟩
end

section
open Go.RowKit

/-- the tables that the program reads lie as its text lays them -/
structure Tabs (w : World) : Prop where
  kn : ∀ i, i < 54 → w.cell? ⟨2, i, none⟩ = some (.int .i64 (ikT.getD i 0))
  utf : Lib.Utf8Tabs (Tryz.laysValid_ren.g 3) (Tryz.laysValid_ren.g 4) w
theorem Tabs.below {w w' : World} (h : Tabs w) (hb : Below w.heap.size w w') : Tabs w' :=
  ⟨fun i hi => (hb.cell (p := ⟨2, i, none⟩) (World.block_lt_of_cell? w _ (h.kn i hi))).trans (h.kn i hi),
   ⟨fun c hc => (hb.cell (p := ⟨_, c, none⟩) (World.block_lt_of_cell? w _ (h.utf.1 c hc))).trans (h.utf.1 c hc),
    fun i hi => ⟨(hb.cell (p := ⟨_, 2 * i, none⟩) (World.block_lt_of_cell? w _ (h.utf.2 i hi).1)).trans (h.utf.2 i hi).1, (hb.cell (p := ⟨_, 2 * i + 1, none⟩) (World.block_lt_of_cell? w _ (h.utf.2 i hi).2)).trans (h.utf.2 i hi).2⟩⟩⟩

theorem all_yes (p : Int → Bool) (l : List Int) (h : ∀ t, t < l.length → p (l.getD t 0) = true) : l.all p = true := by
  rw [List.all_eq_true]
  intro c hc
  obtain ⟨t, ht, rfl⟩ := List.mem_iff_getElem.1 hc
  have := h t ht
  simpa [List.getD, ht] using this
theorem all_no (p : Int → Bool) (l : List Int) (t : Nat) (ht : t < l.length) (h : p (l.getD t 0) = false) : l.all p = false := by
  rw [List.all_eq_false]
  refine ⟨l.getD t 0, ?_, by rw [h]; simp⟩
  simp [List.getD, ht]

set_option maxRecDepth 100000 in
set_option maxHeartbeats 1000000 in
theorem allKnown_any (v : Value) (l : List Int) (w : World) (hl : l.length ≤ 1048576) (hv : IntsAt w v l) (hT : Tabs w) :
    Calls Tryz.prog 73 #[v] w fun e w' => e = .returned (.bool (l.all knB)) ∧ Below w.heap.size w w' := by
  obtain ⟨a, ca, rfl, hc⟩ := hv
  have HC : Hid (∀ t, t < l.length → ∃ b off, a = some ⟨b, off, none⟩ ∧ b < w.heap.size ∧ w.cell? ⟨b, off + t, none⟩ = some (.int .i64 (l.getD t 0))) := hc
  have HY := all_yes knB l
  have HNO := all_no knB l
  have HK : Hid (∀ c w', Below w.heap.size w w' → Calls Tryz.prog 81 #[.int .i64 c] w' fun e w'' => e = .returned (.bool (knB c)) ∧ Below w'.heap.size w' w'') := fun c w' hb => iKnown c w' (hT.below hb).kn
  obtain ⟨n, HN⟩ : ∃ n, Hid (n = l.length) := ⟨_, rfl⟩
  rw [← HN.out] at hl HY HNO ⊢
  generalize l.all knB = r at HY HNO ⊢
  clear hc hT
  go_enter Tryz.func73, Tryz.ntmps73
  go_wp2
  go_loopw [7] (fun vi wr => ∃ k : Nat, k ≤ n ∧ vi = .int .i64 k ∧ Hid (∀ t, t < k → knB (l.getD t 0) = true) ∧ Below w.heap.size w wr) (fun vi _ => n - (intOf vi).toNat)
  case atStart => exact ⟨0, Nat.zero_le _, rfl, fun t ht => by omega, Below.refl _ _⟩
  case round =>
    obtain ⟨k, hk, rfl, HP, hbel⟩ := hrel
    by_cases hlt : k < n
    · have hltz : (k : Int) < (n : Int) := by omega
      obtain ⟨b1, o1, rfl, hb1, hc1⟩ := HC.out k (by have := HN.out; omega)
      have hc2 : wr.cell? ⟨b1, o1 + k, none⟩ = some (.int .i64 (l.getD k 0)) := (hbel.cell (p := ⟨b1, o1 + k, none⟩) hb1).trans hc1
      have hKN := HK.out (l.getD k 0) wr hbel
      have hno := HNO k hlt
      have HST : Hid (knB (l.getD k 0) = true → ∀ t, t < k + 1 → knB (l.getD t 0) = true) := fun h t ht => by
        by_cases hq : t = k
        · rw [hq]; exact h
        · exact HP.out t (by omega)
      generalize knB (l.getD k 0) = q at *
      clear hc1
      generalize l.getD k 0 = x at *
      cases q
      · obtain rfl := hno rfl
        go_wp2_with (go_at_call 81; refine hKN.mono ?_; rintro e w1 ⟨rfl, b1⟩)
        go_ret
        exact ⟨rfl, hbel.trans (b1.mono hbel.size)⟩
      · have HP2 : Hid _ := HST.out rfl
        go_wp2_with (go_at_call 81; refine hKN.mono ?_; rintro e w1 ⟨rfl, b1⟩)
        go_roundw
        case rel => exact ⟨k + 1, by omega, by go_num, HP2, hbel.trans (b1.mono hbel.size)⟩
        case measure => simp [intOf]; omega
    · obtain rfl : k = n := by omega
      obtain rfl := HY HP.out
      go_wp2
      go_ret
      exact ⟨rfl, hbel⟩

/-- the signs of a name -/
def nameL (s : ByteArray) : Option (List Int) :=
  if inB (s.size : Int) 1 24 && !(s.toList == [46]) && !(s.toList == [46, 46]) then (match decN s with | some l => if l.all knB then some l else none | none => none) else none
theorem nameL_short {s : ByteArray} (h : inB (s.size : Int) 1 24 = false) : nameL s = none := by unfold nameL; rw [h]; rfl
theorem nameL_one {s : ByteArray} (h : (s.toList == [46]) = true) : nameL s = none := by unfold nameL; rw [h]; simp
theorem nameL_two {s : ByteArray} (h : (s.toList == [46, 46]) = true) : nameL s = none := by unfold nameL; rw [h]; simp
theorem nameL_dec {s : ByteArray} (h1 : inB (s.size : Int) 1 24 = true) (h2 : (s.toList == [46]) = false) (h3 : (s.toList == [46, 46]) = false) : nameL s = (match decN s with | some l => if l.all knB then some l else none | none => none) := by
  unfold nameL; rw [h1, h2, h3]; rfl

set_option maxRecDepth 100000 in
set_option maxHeartbeats 2000000 in
theorem nameSigns_any (s : ByteArray) (w : World) (hT : Tabs w) (hs : s.size ≤ 1048576) :
    Calls Tryz.prog 65 #[.string s] w fun e w' => DecSays w e w' (nameL s) := by
  have nil : ∀ w', Below w.heap.size w w' → DecSays w (.returned (.tuple #[.slice none 0 0, .bool false])) w' none := fun w' hb => ⟨_, rfl, World.ownsRow_nil _ _ _ _, hb⟩
  cases h1 : inB (s.size : Int) 1 24
  · rw [nameL_short h1]
    go_enter Tryz.func65, Tryz.ntmps65
    go_wp2_with (go_at_call 54; refine (btw_any _ _ _ _).mono ?_; rintro e w' ⟨rfl, rfl⟩)
    go_ret2
    exact nil _ (Below.refl _ _)
  · cases h2 : (s.toList == ([46] : List UInt8))
    · cases h3 : (s.toList == ([46, 46] : List UInt8))
      · have HD := iDecode s w hs hT.utf
        have hdl : s.size ≤ 24 := by have := inB_le h1; omega
        rw [nameL_dec h1 h2 h3]
        cases hd : decN s with
        | none =>
          rw [hd] at HD
          go_enter Tryz.func65, Tryz.ntmps65
          go_wp2_with (first | (go_at_call 54; refine (btw_any _ _ _ _).mono ?_; rintro e w' ⟨rfl, rfl⟩) | (go_at_call 72; refine HD.mono ?_; rintro e w1 ⟨v, rfl, r1, b1⟩))
          go_ret2
          exact nil _ b1
        | some l =>
          rw [hd] at HD
          have hll : l.length ≤ 1048576 := by have := decN_len s; rw [hd] at this; simp at this; omega
          have HA := fun v w' (hb : Below w.heap.size w w') h => allKnown_any v l w' hll h (hT.below hb)
          have HF : Hid ((match some l with | some l => if l.all knB then some l else none | none => none) = if l.all knB then some l else none) := rfl
          generalize (match some l with | some l => if l.all knB then some l else none | none => none) = r at HF ⊢
          cases hk : l.all knB
          · rw [hk] at HA HF
            have hr : r = none := HF.out
            subst hr
            go_enter Tryz.func65, Tryz.ntmps65
            go_wp2_with (first | (go_at_call 54; refine (btw_any _ _ _ _).mono ?_; rintro e w' ⟨rfl, rfl⟩) | (go_at_call 72; refine HD.mono ?_; rintro e w1 ⟨v, rfl, r1, b1⟩) | (go_at_call 73; refine (HA v w1 b1 r1.at).mono ?_; rintro e w2 ⟨rfl, b2⟩))
            go_ret2
            exact nil _ (b1.trans (b2.mono b1.size))
          · rw [hk] at HA HF
            have hr : r = some l := HF.out
            subst hr
            go_enter Tryz.func65, Tryz.ntmps65
            go_wp2_with (first | (go_at_call 54; refine (btw_any _ _ _ _).mono ?_; rintro e w' ⟨rfl, rfl⟩) | (go_at_call 72; refine HD.mono ?_; rintro e w1 ⟨v, rfl, r1, b1⟩) | (go_at_call 73; refine (HA v w1 b1 r1.at).mono ?_; rintro e w2 ⟨rfl, b2⟩))
            go_ret2
            exact ⟨v, rfl, r1.below b2, b1.trans (b2.mono b1.size)⟩
      · rw [nameL_two h3]
        go_enter Tryz.func65, Tryz.ntmps65
        go_wp2_with (go_at_call 54; refine (btw_any _ _ _ _).mono ?_; rintro e w' ⟨rfl, rfl⟩)
        go_ret2
        exact nil _ (Below.refl _ _)
    · rw [nameL_one h2]
      go_enter Tryz.func65, Tryz.ntmps65
      go_wp2_with (go_at_call 54; refine (btw_any _ _ _ _).mono ?_; rintro e w' ⟨rfl, rfl⟩)
      go_ret2
      exact nil _ (Below.refl _ _)
end

section
open Go.RowKit

theorem hs_gTab : Tryz.prog.globalNamed "loop.example/g00773/impl.halfSums" = some 3 := by kernel_rfl
theorem hs_tTab : (Tryz.prog.globals[3]?).map (·.type) = some 150 := by kernel_rfl
theorem hs_cellsE : Tryz.prog.cellsOf 111 = 1 := by kernel_rfl
theorem hs_cellsT : Tryz.prog.cellsOf 150 = 16 := by kernel_rfl
theorem hs_datum : Rows.laid_loop_example_g00773_impl_halfSums (H := Unit) = Lib.tabData .u32 tab16 := by rfl
theorem half_of {W : World} (hr : Lib.VarReads Tryz.prog W "loop.example/g00773/impl.halfSums" Rows.laid_loop_example_g00773_impl_halfSums) : CrcTab W := by
  obtain ⟨g, t, cs, fuel, p, hg, hty, hvar, hd⟩ := hr
  obtain rfl := Option.some.inj (hs_gTab.symm.trans hg)
  obtain rfl := Option.some.inj (hs_tTab.symm.trans hty)
  rw [hs_datum] at hd
  have hT : Lib.TabIs Tryz.prog W "loop.example/g00773/impl.halfSums" .u32 tab16 := by
    unfold Lib.TabIs
    rw [hvar, ← Lib.cells_of_tab Tryz.underlying150 Tryz.underlying111 hs_cellsE hs_cellsT hd]
  exact fun i hi => hT.cell hs_gTab i hi
end

end Go.Proofs.YtchcdgkpaipkgaaGreatDoor
