/- Signs: impl.Decode: its contract, over the library's contract of utf8.ValidString; a range over a text. -/
import Derived.Test.YtkgnlamlmnhleaaDoorRows
import Derived.Test.YtkgnlamlmnhleaaDoorShelf
import Derived.Test.YtkgnlamlmnhleaaDoorDcd
import Derived.Test.YtkgnlamlmnhleaaDoorDecU
import Derived.Shelf.Unicode.ValidAny
import Derived.Lib.OthersKept
namespace Go.Proofs.YtkgnlamlmnhleaaDoor
open Go.RowKit

theorem valid_any (s : ByteArray) (w : World) (hs : s.size ≤ 1048576) (hT : Lib.Utf8Tabs (Tryd.laysValid_ren.g 3) (Tryd.laysValid_ren.g 4) w) :
    Calls Tryd.prog 67 #[.string s] w fun e w' => e = .returned (.bool (decN s).isSome) ∧ Below w.heap.size w w' := by
  rw [← valid_decN]
  exact Any.utf8_ValidString Tryd.laysValid s w (by omega) hT

theorem iterAt_gb (w : World) (g : Nat) (s : ByteArray) (k : Nat) : w.grownBy (w.iterAt g s k) (some g) :=
  ⟨rfl, rfl, rfl, by simp [World.iterAt], fun i _ hn => by
    have : g ≠ i := fun e => hn (by rw [e])
    simp [World.iterAt, this]⟩

theorem row_iterAt {w : World} {g : Nat} {v : Value} {l : List Int} (h : IntRow w (g + 1) v l) (s : ByteArray) (k : Nat) : IntRow (w.iterAt g s k) (g + 1) v l := by
  refine World.ownsRow.kept h (iterAt_gb w g s k) ?_
  cases e : v.ownBlock with
  | none => exact .inl rfl
  | some j =>
    right
    intro e2
    cases e2
    have := (World.ownsRow.lt h _ e).1
    omega

theorem below_iterAt {B : Nat} {w w' : World} (h : Below B w w') {g : Nat} (hg : B ≤ g) (s : ByteArray) (k : Nat) : Below B w (w'.iterAt g s k) :=
  ⟨h.os, h.tape, h.output, by simp [World.iterAt]; exact h.size, fun i hi => by
    have : g ≠ i := by omega
    rw [← h.block i hi]
    simp [World.iterAt, this]⟩

def itLeft (g : Nat) (w : World) : Nat := match w.heap[g]? with | some (.stringIter s k) => s.size - k | _ => 0
theorem itLeft_at {g : Nat} {w : World} {s : ByteArray} {k : Nat} (h : w.heap[g]? = some (.stringIter s k)) : itLeft g w = s.size - k := by
  unfold itLeft; rw [h]

set_option maxRecDepth 100000 in
set_option maxHeartbeats 2000000 in
theorem iDecode (s : ByteArray) (w : World) (hs : s.size ≤ 1048576) (hT : Lib.Utf8Tabs (Tryd.laysValid_ren.g 3) (Tryd.laysValid_ren.g 4) w) :
    Calls Tryd.prog 59 #[.string s] w fun e w' => DecSays w e w' (decN s) := by
  have HV := valid_any s w hs hT
  clear hT
  cases hd : decN s with
  | none =>
    rw [hd] at HV
    go_enter Tryd.func59, Tryd.ntmps59
    go_wp2_with (go_at_call 67; refine HV.mono ?_; rintro e w1 ⟨rfl, hb1⟩)
    go_ret2
    exact ⟨_, rfl, World.ownsRow_nil _ _ _ _, hb1⟩
  | some L =>
    rw [hd] at HV
    have HST : Hid (∀ k l, k < s.size → oneL s k ≠ 0 → decA s (k + oneL s k) (l ++ [oneC s k]) = decA s k l) := fun k l h h0 => decA_step s k l h h0
    have HBD : Hid (∀ k l, k < s.size → oneL s k = 0 → decA s k l = none) := fun k l h h0 => decA_bad s k l h h0
    have HEN : Hid (∀ k l, ¬ k < s.size → decA s k l = some l) := fun k l h => decA_end s k l h
    have H0 : Hid (decA s 0 [] = some L) := by show _ = _; rw [decA_0, hd]
    clear hd
    go_enter Tryd.func59, Tryd.ntmps59
    go_wp2_with (go_at_call 67; refine HV.mono ?_; rintro e w1 ⟨rfl, hb1⟩)
    obtain ⟨g, hg⟩ : ∃ g, w1.heap.size = g := ⟨_, rfl⟩
    rw [hg]
    have hgB : w.heap.size ≤ g := by rw [← hg]; exact hb1.size
    go_loopw [4] (fun v wr => ∃ (k : Nat) (l : List Int), k ≤ s.size ∧ l.length ≤ k ∧ decA s k l = some L ∧ wr.heap[g]? = some (.stringIter s k) ∧ IntRow wr (g + 1) v l ∧ Below w.heap.size w wr ∧ g + 1 ≤ wr.heap.size)
      (fun _ wr => itLeft g wr)
    case atStart =>
      refine ⟨0, [], Nat.zero_le _, Nat.le_refl _, H0.out, ?_, World.ownsRow_nil _ _ _ _, ?_, ?_⟩
      · subst hg; exact World.iter_heap w1 s 0
      · exact hb1.alloc hb1.size _
      · show _ ≤ (w1.alloc _).heap.size; simp; omega
    case round =>
      obtain ⟨k, l, hk, hlk, hA, hit, hrow, hbel, hsz⟩ := hrel
      by_cases hlt : k < s.size
      · rcases decode_one s k hlt with ⟨_, h1, h2, h3, h4, -⟩ | ⟨_, h1, -⟩
        · have hle := oneL_le s k hlt
          have HA : Hid (decA s (k + oneL s k) (l ++ [oneC s k]) = some L) := by show _ = _; rw [HST.out k l hlt h1]; exact hA
          have hnx0 := fun ty => Lib.run_next_any_at (P := Tryd.prog) wr g s k ty hit hlt
          rw [h2] at hnx0
          have hc0 : (((oneC s k).toNat : Nat) : Int) = oneC s k := by omega
          simp only [hc0] at hnx0
          generalize oneL s k = d at h1 hle HA hnx0
          generalize oneC s k = c at h3 h4 HA hnx0
          clear h2 hc0
          have hrow1 := row_iterAt hrow s (k + d)
          have hbel1 := below_iterAt hbel hgB s (k + d)
          have hit1 : (wr.iterAt g s (k + d)).heap[g]? = some (.stringIter s (k + d)) := Lib.iterAt_heap wr g s k (k + d) hit
          have hsz1 : g + 1 ≤ (wr.iterAt g s (k + d)).heap.size := by simp [World.iterAt]; exact hsz
          have hm0 := itLeft_at hit
          generalize wr.iterAt g s (k + d) = w2 at hnx0 hrow1 hbel1 hit1 hsz1
          go_wp2_with (at_builtin; refine append_int w2 rfl (.tmp 15) (.tmp 18) rfl (g + 1) _ l c (by omega) hrow1 rfl rfl hsz1 ?_; intro v' w3 hrow3 hbel3)
          have hit3 : w3.heap[g]? = some (.stringIter s (k + d)) := (hbel3.block g (by omega)).trans hit1
          have hm3 := itLeft_at hit3
          go_roundw
          case rel => exact ⟨k + d, l ++ [c], hle.1, by simp; omega, HA.out, hit3, hrow3, hbel1.trans (hbel3.mono (by omega)), Nat.le_trans hsz1 hbel3.size⟩
          case measure => omega
        · rw [HBD.out k l hlt h1] at hA; cases hA
      · rw [HEN.out k l hlt] at hA
        cases hA
        have hnx := fun ty => Lib.run_next_end_at (P := Tryd.prog) wr g s k ty hit hlt
        go_wp2
        go_ret2
        exact ⟨_, rfl, hrow.mono (by omega), hbel⟩

end Go.Proofs.YtkgnlamlmnhleaaDoor
