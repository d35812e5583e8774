/- The draws of chapter 3: some sign, a list of at most so many signs; each is something, and the cursor stands behind it. -/
import Derived.Test.YtkgnlamlmnhleaaRows
import Derived.Test.YtkgnlamlmnhleaaSgn
import Derived.Test.YtkgnlamlmnhleaaWRow
import Derived.Test.YtkgnlamlmnhleaaCur
import Derived.Test.YtkgnlamlmnhleaaDr1
import Derived.Test.YtkgnlamlmnhleaaDr2
namespace Go.Proofs.Ytkgnlamlmnhleaa
open Go.RowKit

def someList : List Int := [97, 65, 98, 229, 197, 8491, 778, 803, 770, 807, 769, 7853, 7852, 7841, 470, 252, 115, 83, 223, 963, 962, 931, 940, 902, 8486, 1040, 1072, 44032, 44033, 4352, 4449, 4520, 231, 99, 55203, 255]
def oddList : List Int := [-1, 0, 31, 47, 127, 55204, 55296, 57343, 57344, 65535, 65536, 1114111, 1114112, 930, 256]

theorem gb_belowB {w w1 w2 : World} {r : Option Nat} {B : Nat} (a : w.grownBy w1 r) (b : Below B w1 w2) (hB : w.heap.size ≤ B) : w.grownBy w2 r :=
  ⟨b.os.trans a.os, b.tape.trans a.tape, b.output.trans a.output, Nat.le_trans a.size b.size, fun k hk hn => (b.block k (by omega)).trans (a.block k hk hn)⟩

set_option maxRecDepth 100000 in
set_option maxHeartbeats 1000000 in
theorem some_any (S : Src) (ok : S.ok) (p : Nat) (s : Nat × Int) (w : World) (c : At S p s w) :
    Calls Try.prog 35 #[.pointer (some ⟨p, 0, none⟩)] w fun e w' => ∃ k s', e = .returned (.int .i64 k) ∧ At S p s' w' ∧ w.grownBy w' (some p) := by
  have hs0 := c.size
  go_enter Try.func35, Try.ntmps35
  go_wp2_with fail
  refine (pick_any S ok someList 36 rfl w.heap.size 3 p s _ (c.below ((Below.refl _ _).alloc (by omega) _)) (by decide) (by decide) (by omega) (heap_new _ _)).mono ?_
  rintro e w1 ⟨rfl, c1, b1⟩
  have B1 : w.grownBy w1 (some p) := gb_trans (World.grownBy_alloc _ _ _) b1
  clear b1
  generalize bS S someList.length s = s1 at c1
  generalize pX S someList s = k0
  have hs1 := c1.size
  go_wp2_with fail
  refine (once_any S ok 5 p s1 _ c1).mono ?_
  rintro e w2 ⟨rfl, c2, b2⟩
  have B2 := gb_trans B1 b2
  clear b2
  generalize bS S 5 s1 = s2 at c2
  generalize (bX S 5 s1 == 0) = q1
  cases q1
  · go_wp2_with fail
    refine (once_any S ok 12 p s2 _ c2).mono ?_
    rintro e w3 ⟨rfl, c3, b3⟩
    have B3 := gb_trans B2 b3
    clear b3
    generalize bS S 12 s2 = s3 at c3
    generalize (bX S 12 s2 == 0) = q2
    have hs3 := c3.size
    cases q2
    · go_wp2
      go_ret
      exact ⟨_, _, rfl, c3, B3⟩
    · go_wp2_with fail
      refine (pick_any S ok oddList 15 rfl w3.heap.size 3 p s3 _ (c3.below ((Below.refl _ _).alloc (by omega) _)) (by decide) (by decide) (by omega) (heap_new _ _)).mono ?_
      rintro e w4 ⟨rfl, c4, b4⟩
      go_wp2
      go_ret
      exact ⟨_, _, rfl, c4, gb_trans (gb_trans B3 (World.grownBy_alloc _ _ _)) b4⟩
  · have x1 := bX_bd S 224 s2 (by decide)
    go_wp2_with fail
    refine (below_any S ok 224 p s2 _ c2).mono ?_
    rintro e w3 ⟨rfl, c3, b3⟩
    generalize bX S 224 s2 = y at x1
    go_wp2
    go_ret
    exact ⟨_, _, rfl, c3, gb_trans B2 b3⟩

theorem row_gb {w w' : World} {B p : Nat} {v : Value} {l : List Int} (h : IntRow w B v l) (g : w.grownBy w' (some p)) (hp : p < B) : IntRow w' B v l := by
  refine World.ownsRow.kept h g ?_
  cases e : v.ownBlock with
  | none => exact .inl rfl
  | some j =>
    right
    intro e2
    cases e2
    have := (World.ownsRow.lt h _ e).1
    omega

set_option maxRecDepth 100000 in
set_option maxHeartbeats 1000000 in
theorem slistN_any (S : Src) (ok : S.ok) (M : Nat) (hM : M ≤ 100) (p : Nat) (s : Nat × Int) (w : World) (c : At S p s w) :
    Calls Try.prog 25 #[.pointer (some ⟨p, 0, none⟩), .int .i64 M] w fun e w' => ∃ l v s', l.length ≤ M ∧ e = .returned v ∧ IntRow w' w.heap.size v l ∧ At S p s' w' ∧ w.grownBy w' (some p) := by
  have hs0 := c.size
  have hx := bX_bd S ((M + 1 : Nat) : Int) s (by omega)
  have zM : IntKind.i64.wrap ((M : Int) + 1) = ((M + 1 : Nat) : Int) := by rw [IntKind.wrap_i64]; omega
  obtain ⟨M1, HM1⟩ : ∃ x : Nat, Hid (x = M + 1) := ⟨_, rfl⟩
  rw [← HM1.out] at hx zM
  obtain ⟨n0, HN⟩ := Int.eq_ofNat_of_zero_le hx.1
  have hn0 : n0 ≤ M := by have := HM1.out; omega
  have HN' : Hid (bX S (M1 : Int) s = n0) := HN
  clear HN hx
  go_enter Try.func25, Try.ntmps25
  go_wp2_with fail
  refine (below_any S ok (M1 : Int) p s _ (c.below ((Below.refl _ _).alloc (by omega) _))).mono ?_
  rintro e w1 ⟨rfl, c1, b1⟩
  rw [HN'.out]
  generalize bS S (M1 : Int) s = s1 at c1
  have B1 : w.grownBy w1 (some p) := gb_trans (World.grownBy_alloc _ _ _) b1
  have hrow0 : IntRow w1 w.heap.size (.slice (some ⟨w.heap.size, 0, none⟩) 0 0) [] := row_gb (lit_at w #[] [] 0 rfl rfl (by decide)) b1 hs0
  clear b1
  go_wp2
  go_loopw [5, 6] (fun v i wr => ∃ (n : Nat) (l : List Int) (s' : Nat × Int), i = .int .i64 n ∧ n + l.length ≤ M ∧ IntRow wr w.heap.size v l ∧ At S p s' wr ∧ w.grownBy wr (some p)) (fun _ i _ => (intOf i).toNat)
  case atStart => exact ⟨n0, [], s1, rfl, by simp; omega, hrow0, c1, B1⟩
  case round =>
    obtain ⟨n, l, s', rfl, hnl, hrow, ca, hgb⟩ := hrel
    by_cases hn : n = 0
    · subst hn
      go_wp2
      go_ret
      exact ⟨l, _, s', by omega, rfl, hrow, ca, hgb⟩
    · have hn' : (0 : Int) < (n : Int) := by omega
      have hsz := hgb.size
      go_wp2_with (first | (go_at_call 35; refine (some_any S ok p s' _ ca).mono ?_; rintro e w2 ⟨x, s2, rfl, c2, b2⟩; have hrow2 := row_gb hrow b2 hs0; have B2 := gb_trans hgb b2; have hsz2 := B2.size) | (at_builtin; refine append_int w2 rfl (.tmp 16) (.tmp 19) rfl w.heap.size _ l x (by omega) hrow2 rfl rfl hsz2 ?_; intro v' w3 hrow3 hbel3))
      go_roundw
      case rel => exact ⟨n - 1, l ++ [x], s2, by go_num, by simp; omega, hrow3, c2.below (hbel3.mono (by omega)), gb_belowB B2 hbel3 (Nat.le_refl _)⟩
      case measure => simp [intOf]; omega

end Go.Proofs.Ytkgnlamlmnhleaa
