/- The draws of chapter 3: some sign, a list of signs, a text; each is something, and the cursor stands behind it. -/
import Derived.Test.YtappmenbhddaiaaDoorRows
import Derived.Test.YtappmenbhddaiaaDoorSgn
import Derived.Test.YtappmenbhddaiaaDoorEnc
import Derived.Test.YtappmenbhddaiaaDoorWRow
import Derived.Test.YtappmenbhddaiaaDoorCur
import Derived.Test.YtappmenbhddaiaaDoorDr1
import Derived.Test.YtappmenbhddaiaaDoorDr2
import Derived.Test.YtappmenbhddaiaaDoorDr3
namespace Go.Proofs.YtappmenbhddaiaaDoor
open Go.RowKit

def someList : List Int := [97, 65, 98, 229, 197, 8491, 778, 803, 770, 807, 769, 7853, 7852, 7841, 470, 252, 115, 83, 223, 963, 962, 931, 940, 902, 8486, 1040, 1072, 44032, 44033, 4352, 4449, 4520, 231, 99, 55203, 255]
def oddList : List Int := [-1, 0, 31, 47, 127, 55204, 55296, 57343, 57344, 65535, 65536, 1114111, 1114112, 930, 256]

theorem gb_belowB {w w1 w2 : World} {r : Option Nat} {B : Nat} (a : w.grownBy w1 r) (b : Below B w1 w2) (hB : w.heap.size ≤ B) : w.grownBy w2 r :=
  ⟨b.os.trans a.os, b.tape.trans a.tape, b.output.trans a.output, Nat.le_trans a.size b.size, fun k hk hn => (b.block k (by omega)).trans (a.block k hk hn)⟩

set_option maxRecDepth 100000 in
set_option maxHeartbeats 1000000 in
theorem some_any (S : Src) (ok : S.ok) (p : Nat) (s : Nat × Int) (w : World) (c : At S p s w) :
    Calls Tryd.prog 22 #[.pointer (some ⟨p, 0, none⟩)] w fun e w' => ∃ k s', e = .returned (.int .i64 k) ∧ At S p s' w' ∧ w.grownBy w' (some p) := by
  have hs0 := c.size
  go_enter Tryd.func22, Tryd.ntmps22
  go_wp2_with fail
  refine (pick_any S ok someList 36 rfl w.heap.size 3 p s _ (c.below ((Below.refl _ _).alloc (by omega) _)) (by decide) (by decide) (by omega) (heap_new _ _)).mono ?_
  rintro e w1 ⟨rfl, c1, b1⟩
  have B1 : w.grownBy w1 (some p) := gb_trans (World.grownBy_alloc _ _ _) b1
  clear b1
  generalize bS S someList.length s = s1 at c1
  generalize pX S someList s = k0
  have hs1 := c1.size
  go_wp2_with fail
  refine (once_any S ok 5 p s1 _ c1).mono ?_
  rintro e w2 ⟨rfl, c2, b2⟩
  have B2 := gb_trans B1 b2
  clear b2
  generalize bS S 5 s1 = s2 at c2
  generalize (bX S 5 s1 == 0) = q1
  cases q1
  · go_wp2_with fail
    refine (once_any S ok 12 p s2 _ c2).mono ?_
    rintro e w3 ⟨rfl, c3, b3⟩
    have B3 := gb_trans B2 b3
    clear b3
    generalize bS S 12 s2 = s3 at c3
    generalize (bX S 12 s2 == 0) = q2
    have hs3 := c3.size
    cases q2
    · go_wp2
      go_ret
      exact ⟨_, _, rfl, c3, B3⟩
    · go_wp2_with fail
      refine (pick_any S ok oddList 15 rfl w3.heap.size 3 p s3 _ (c3.below ((Below.refl _ _).alloc (by omega) _)) (by decide) (by decide) (by omega) (heap_new _ _)).mono ?_
      rintro e w4 ⟨rfl, c4, b4⟩
      go_wp2
      go_ret
      exact ⟨_, _, rfl, c4, gb_trans (gb_trans B3 (World.grownBy_alloc _ _ _)) b4⟩
  · have x1 := bX_bd S 224 s2 (by decide)
    go_wp2_with fail
    refine (below_any S ok 224 p s2 _ c2).mono ?_
    rintro e w3 ⟨rfl, c3, b3⟩
    generalize bX S 224 s2 = y at x1
    go_wp2
    go_ret
    exact ⟨_, _, rfl, c3, gb_trans B2 b3⟩

theorem row_gb {w w' : World} {B p : Nat} {v : Value} {l : List Int} (h : IntRow w B v l) (g : w.grownBy w' (some p)) (hp : p < B) : IntRow w' B v l := by
  refine World.ownsRow.kept h g ?_
  cases e : v.ownBlock with
  | none => exact .inl rfl
  | some j =>
    right
    intro e2
    cases e2
    have := (World.ownsRow.lt h _ e).1
    omega

set_option maxRecDepth 100000 in
set_option maxHeartbeats 1000000 in
theorem slist_any (S : Src) (ok : S.ok) (p : Nat) (s : Nat × Int) (w : World) (c : At S p s w) :
    Calls Tryd.prog 13 #[.pointer (some ⟨p, 0, none⟩), .int .i64 6] w fun e w' => ∃ l v s', l.length ≤ 6 ∧ e = .returned v ∧ IntRow w' w.heap.size v l ∧ At S p s' w' ∧ w.grownBy w' (some p) := by
  have hs0 := c.size
  have hx := bX_bd S 7 s (by decide)
  obtain ⟨n0, HN⟩ := Int.eq_ofNat_of_zero_le hx.1
  have hn0 : n0 ≤ 6 := by omega
  have HN' : Hid (bX S 7 s = n0) := HN
  clear HN hx
  go_enter Tryd.func13, Tryd.ntmps13
  go_wp2_with fail
  refine (below_any S ok 7 p s _ (c.below ((Below.refl _ _).alloc (by omega) _))).mono ?_
  rintro e w1 ⟨rfl, c1, b1⟩
  rw [HN'.out]
  generalize bS S 7 s = s1 at c1
  have B1 : w.grownBy w1 (some p) := gb_trans (World.grownBy_alloc _ _ _) b1
  have hrow0 : IntRow w1 w.heap.size (.slice (some ⟨w.heap.size, 0, none⟩) 0 0) [] := row_gb (lit_at w #[] [] 0 rfl rfl (by decide)) b1 hs0
  clear b1
  go_wp2
  go_loopw [5, 6] (fun v i wr => ∃ (n : Nat) (l : List Int) (s' : Nat × Int), i = .int .i64 n ∧ n + l.length ≤ 6 ∧ IntRow wr w.heap.size v l ∧ At S p s' wr ∧ w.grownBy wr (some p)) (fun _ i _ => (intOf i).toNat)
  case atStart => exact ⟨n0, [], s1, rfl, by simp; omega, hrow0, c1, B1⟩
  case round =>
    obtain ⟨n, l, s', rfl, hnl, hrow, ca, hgb⟩ := hrel
    by_cases hn : n = 0
    · subst hn
      go_wp2
      go_ret
      exact ⟨l, _, s', by omega, rfl, hrow, ca, hgb⟩
    · have hn' : (0 : Int) < (n : Int) := by omega
      have hsz := hgb.size
      go_wp2_with (first | (go_at_call 22; refine (some_any S ok p s' _ ca).mono ?_; rintro e w2 ⟨x, s2, rfl, c2, b2⟩; have hrow2 := row_gb hrow b2 hs0; have B2 := gb_trans hgb b2; have hsz2 := B2.size) | (at_builtin; refine append_int w2 rfl (.tmp 16) (.tmp 19) rfl w.heap.size _ l x (by omega) hrow2 rfl rfl hsz2 ?_; intro v' w3 hrow3 hbel3))
      go_roundw
      case rel => exact ⟨n - 1, l ++ [x], s2, by go_num, by simp; omega, hrow3, c2.below (hbel3.mono (by omega)), gb_belowB B2 hbel3 (Nat.le_refl _)⟩
      case measure => simp [intOf]; omega

set_option maxHeartbeats 400000 in
theorem spick_any (S : Src) (ok : S.ok) (L : List ByteArray) (m : Nat) (hm : L.length = m) (g : Nat) (T : TypeId) (p : Nat) (s : Nat × Int) (w : World) (c : At S p s w) (hL : 0 < L.length) (hl : L.length ≤ 1000) (hg : g ≠ p)
    (hc : w.heap[g]? = some (.cells (L.map Value.string).toArray T (0, 0))) :
    Calls Tryd.prog 20 #[.pointer (some ⟨p, 0, none⟩), .slice (some ⟨g, 0, none⟩) m m] w fun e w' => (∃ u ∈ L, e = .returned (.string u)) ∧ w.grownBy w' (some p) := by
  subst hm
  have hb := bX_bd S L.length s (by omega)
  obtain ⟨k, hk⟩ := Int.eq_ofNat_of_zero_le hb.1
  have HB : Hid (bX S L.length s = k) := hk
  have hkl : k < L.length := by omega
  clear hk hb
  go_enter Tryd.func20, Tryd.ntmps20
  go_wp2_with fail
  refine (below_any S ok L.length p s _ c).mono ?_
  rintro e w1 ⟨rfl, c1, b1⟩
  rw [HB.out]
  have hc1 : w1.heap[g]? = some (.cells (L.map Value.string).toArray T (0, 0)) := (b1.block g (lt_of_block hc) (fun e => hg (Option.some.inj e))).trans hc
  obtain ⟨z, hz, hcell⟩ : ∃ z, z ∈ L ∧ w1.cell? ⟨g, k, none⟩ = some (.string z) := ⟨L[k], List.getElem_mem _, by
    rw [cell_of_row w1 g k _ _ (0, 0) hc1]
    simp [hkl]⟩
  clear hc1 hc
  go_wp2
  go_ret
  exact ⟨⟨z, hz, rfl⟩, b1⟩

theorem sdrawEncode_any (S : Src) (ok : S.ok) (w : World) (hl : Lies S w) :
    Calls Tryd.prog 5 #[.slice S.a S.len S.cap] w fun e w' => ∃ l v, l.length ≤ 6 ∧ e = .returned v ∧ IntRow w' w.heap.size v l ∧ Below w.heap.size w w' := by
  go_enter Tryd.func5, Tryd.ntmps5
  go_wp2_with fail
  refine (new_any S ok _ hl).mono ?_
  rintro e w1 ⟨rfl, c1, b1⟩
  go_wp2_with fail
  refine (slist_any S ok _ _ _ c1).mono ?_
  rintro e w2 ⟨l, v, s', hlen, rfl, hrow, c2, g2⟩
  go_wp2
  go_ret
  exact ⟨l, v, hlen, rfl, hrow.mono b1.size, b1.trans (below_gbi g2 (fun k hk => by cases hk; exact Nat.le_refl _) b1.size)⟩

def textList : List ByteArray := [⟨#[192, 128]⟩, ⟨#[237, 160, 128]⟩, ⟨#[244, 144, 128, 128]⟩, ⟨#[244, 143, 191, 191]⟩, ⟨#[224, 128, 175]⟩, ⟨#[128]⟩, ⟨#[255]⟩, ⟨#[97, 195]⟩, ⟨#[248, 136, 128, 128, 128]⟩, ⟨#[195, 40]⟩]
theorem textList_len : ∀ u ∈ textList, u.size ≤ 200 := by decide

set_option maxRecDepth 100000 in
set_option maxHeartbeats 1000000 in
theorem sdrawDecode_any (S : Src) (ok : S.ok) (w : World) (hl : Lies S w) :
    Calls Tryd.prog 10 #[.slice S.a S.len S.cap] w fun e w' => ∃ u : ByteArray, u.size ≤ 200 ∧ e = .returned (.string u) ∧ Below w.heap.size w w' := by
  go_enter Tryd.func10, Tryd.ntmps10
  go_wp2_with fail
  refine (new_any S ok _ hl).mono ?_
  rintro e w1 ⟨rfl, c1, b1⟩
  generalize hp : w.heap.size = p at c1 b1
  have b1' := b1.size
  have hs1 := c1.size
  go_wp2_with fail
  refine (slist_any S ok _ _ _ c1).mono ?_
  rintro e w2 ⟨l, v, s2, hlen, rfl, hrow, c2, g2⟩
  go_wp2_with fail
  refine (sEncode _ l _ (by omega) hrow.at).mono ?_
  rintro e w3 ⟨rfl, b3⟩
  have hu : (⟨(encN l).toArray⟩ : ByteArray).size ≤ 24 := by
    show (encN l).toArray.size ≤ 24
    have := encs_len l
    unfold encN
    split
    · simp; omega
    · simp
  generalize (⟨(encN l).toArray⟩ : ByteArray) = u at hu
  have hs2 := c2.size
  have c3 : At S p s2 w3 := c2.below (b3.mono (by omega))
  have g3 : w1.grownBy w3 (some p) := gb_belowB g2 b3 g2.size
  have hs3 := c3.size
  go_wp2_with fail
  refine (below_any S ok 4 p s2 _ c3).mono ?_
  rintro e w4 ⟨rfl, c4, b4⟩
  have g4 := gb_trans g3 b4
  have fin : ∀ w', w1.grownBy w' (some p) → Below w.heap.size w w' := fun w' g => by rw [hp]; exact b1.trans (below_gbi g (fun k hk => by cases hk; exact Nat.le_refl _) (by omega))
  generalize bS S 4 s2 = s4 at c4
  generalize bX S 4 s2 = x
  have hs4 := c4.size
  by_cases h0 : x = 0
  · subst h0
    obtain ⟨v2, hv2, hsp⟩ := spoil_any S ok u (by omega) s4
    go_wp2_with fail
    refine (hsp p _ c4).mono ?_
    rintro e w5 ⟨rfl, b5⟩
    go_wp2
    go_ret
    exact ⟨v2, hv2, rfl, fin _ (gb_trans g4 b5)⟩
  · have h0' : (x == 0) = false := by simpa using h0
    by_cases h1 : x = 1
    · subst h1
      go_wp2_with fail
      refine (spick_any S ok textList 10 rfl w4.heap.size 9 p s4 _ (c4.below ((Below.refl _ _).alloc (by omega) _)) (by decide) (by decide) (by omega) (heap_new _ _)).mono ?_
      rintro e w5 ⟨⟨u5, hu5, rfl⟩, b5⟩
      go_wp2
      go_ret
      exact ⟨u5, textList_len u5 hu5, rfl, fin _ (gb_trans (gb_trans g4 (World.grownBy_alloc _ _ _)) b5)⟩
    · have h1' : (x == 1) = false := by simpa using h1
      go_wp2
      go_ret
      exact ⟨u, by omega, rfl, fin _ g4⟩

end Go.Proofs.YtappmenbhddaiaaDoor
