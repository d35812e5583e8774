/- What spec.l1Text draws, and what spec.l1New makes. -/
import Derived.Test.YtfdahfealibbnaaDoorRows
import Derived.Test.YtfdahfealibbnaaDoorDr1
import Derived.WalkKit
import Derived.WalkSpells
import Derived.WalkLawsBesides
namespace Go.Proofs.YtfdahfealibbnaaDoor
open Go.RowKit

/-- a byte in its style -/
def sty (t b : Int) : Int := if t = 1 then b % 2 else if t = 2 then 97 + b % 4 else b

theorem sty_bd (t b : Int) (h : 0 ≤ b ∧ b ≤ 255) : 0 ≤ sty t b ∧ sty t b ≤ 255 := by unfold sty; split <;> (try split) <;> omega

/-- k bytes drawn in a style, and where the cursor stands then -/
def txL (S : Src) (t : Int) : Nat → Nat × Int → List UInt8
  | 0, _ => []
  | k + 1, s => UInt8.ofNat (sty t (dX S s)).toNat :: txL S t k (dS S s)
def txS (S : Src) : Nat → Nat × Int → Nat × Int
  | 0, s => s
  | k + 1, s => txS S k (dS S s)

theorem txL_length (S : Src) (t : Int) : ∀ k s, (txL S t k s).length = k
  | 0, _ => rfl
  | k + 1, s => by simp [txL, txL_length S t k]

/-- what l1Text draws, and where the cursor stands then -/
def tL (S : Src) (n : Int) (s : Nat × Int) : List UInt8 := txL S (bX S 4 s) (bX S (n + 1) (bS S 4 s)).toNat (bS S (n + 1) (bS S 4 s))
def tS (S : Src) (n : Int) (s : Nat × Int) : Nat × Int := txS S (bX S (n + 1) (bS S 4 s)).toNat (bS S (n + 1) (bS S 4 s))

theorem tL_length (S : Src) (n : Int) (s : Nat × Int) (h : 0 ≤ n) : ((tL S n s).length : Int) ≤ n := by
  unfold tL
  rw [txL_length]
  have := bX_bd S (n + 1) (bS S 4 s) (by omega)
  omega

theorem ownsRow_gb {w w' : World} {base : Nat} {e : TypeId} {size : Nat} {v : Value} {n : Nat} {xs : List Value} {p : Nat} (h : w.ownsRow base e size v n xs) (g : w.grownBy w' (some p)) (hp : p < base) : w'.ownsRow base e size v n xs := by
  refine ⟨h.1, ?_⟩
  rcases h.2 with h1 | ⟨b, cap, cur, h1, h2, h3, h4⟩
  · exact Or.inl h1
  · exact Or.inr ⟨b, cap, cur, h1, h2, (g.block b (lt_of_block h3) (fun e => by have := Option.some.inj e; omega)).trans h3, h4⟩

set_option maxRecDepth 100000 in
set_option maxHeartbeats 400000 in
theorem text_any (S : Src) (ok : S.ok) (n : Int) (h0 : 0 ≤ n) (h1 : n ≤ 1000) (p : Nat) (s : Nat × Int) (w : World) (c : At S p s w) :
    Calls Tryd.prog 56 #[.pointer (some ⟨p, 0, none⟩), .int .i64 n] w fun e w' => e = .returned (.string ⟨(tL S n s).toArray⟩) ∧ At S p (tS S n s) w' ∧ w.grownBy w' (some p) := by
  have hp := c.size
  obtain ⟨t, HT⟩ : ∃ t, Hid (t = bX S 4 s) := ⟨_, rfl⟩
  obtain ⟨m, hm⟩ := Int.eq_ofNat_of_zero_le (bX_bd S (n + 1) (bS S 4 s) (by omega)).1
  have HM : Hid (bX S (n + 1) (bS S 4 s) = m) := hm
  have hmn : m ≤ 1000 := by have := bX_bd S (n + 1) (bS S 4 s) (by omega); omega
  obtain ⟨s2, HS⟩ : ∃ s2, Hid (s2 = bS S (n + 1) (bS S 4 s)) := ⟨_, rfl⟩
  have HR : Hid (tL S n s = txL S t m s2 ∧ tS S n s = txS S m s2) := by
    unfold tL tS; rw [← HT.out, HM.out, ← HS.out, Int.toNat_natCast]; exact ⟨rfl, rfl⟩
  clear hm
  go_enter Tryd.func56, Tryd.ntmps56
  go_wp2_with fail
  refine (below_any S ok 4 p s _ (c.below ((Below.refl _ _).alloc (by omega) _))).mono ?_
  rintro e w1 ⟨rfl, c1, b1⟩
  rw [← HT.out]
  have hown1 := ownsRow_gb (empty_row w 5) b1 hp
  have g1 : w.grownBy w1 (some p) := gb_trans (World.grownBy_alloc _ _ _) b1
  clear b1 c
  go_wp2_with fail
  refine (below_any S ok (n + 1) p (bS S 4 s) _ c1).mono ?_
  rintro e w2 ⟨rfl, c2, b2⟩
  rw [HM.out]
  rw [← HS.out] at c2
  have hown2 := ownsRow_gb hown1 b2 hp
  have g2 : w.grownBy w2 (some p) := gb_trans g1 b2
  clear b2 c1 hown1 g1
  go_wp2
  go_loopw [5, 7, 8] (fun v i _ wr => ∃ (r : Nat) (l : List UInt8) (sc : Nat × Int), i = .int .i64 r ∧ r ≤ 1000 ∧ l.length + r = m ∧ l ++ txL S t r sc = txL S t m s2 ∧ txS S r sc = txS S m s2 ∧ At S p sc wr ∧ wr.ownsRow w.heap.size 5 1 v l.length (bytesV l) ∧ w.grownBy wr (some p)) (fun _ i _ _ => (intOf i).toNat)
  case atStart => exact ⟨m, [], s2, rfl, hmn, by simp, rfl, rfl, c2, hown2, g2⟩
  case round =>
    obtain ⟨r, l, sc, rfl, hr, hlr, hl, hs, cc, hown, hg⟩ := hrel
    have HL : Hid (l.length + r = m ∧ l ++ txL S t r sc = txL S t m s2 ∧ txS S r sc = txS S m s2) := ⟨hlr, hl, hs⟩
    have hl1000 : l.length ≤ 1000 := by omega
    clear hlr hl hs
    by_cases hz : 0 < r
    · obtain ⟨q, rfl⟩ : ∃ q, r = q + 1 := ⟨r - 1, by omega⟩
      have hb := dX_bd S sc
      have hsb := sty_bd t _ hb
      obtain ⟨x, HX⟩ : ∃ x, Hid (x = dX S sc) := ⟨_, rfl⟩
      obtain ⟨y, HY⟩ : ∃ y, Hid (y = sty t x) := ⟨_, rfl⟩
      rw [← HX.out, ← HY.out] at hsb
      rw [← HX.out] at hb
      have HN : Hid ((l ++ [UInt8.ofNat y.toNat]).length + q = m ∧ (l ++ [UInt8.ofNat y.toNat]) ++ txL S t q (dS S sc) = txL S t m s2 ∧ txS S q (dS S sc) = txS S m s2) := by
        have h := HL.out
        rw [HY.out, HX.out]
        exact ⟨by rw [List.length_append, List.length_singleton]; omega, by rw [List.append_assoc]; exact h.2.1, h.2.2⟩
      go_wp2_with fail
      refine (byte_any S ok p sc _ cc).mono ?_
      rintro e w3 ⟨rfl, c3, b3⟩
      rw [← HX.out]
      have hown3 := ownsRow_gb hown b3 hp
      have g3 : w.grownBy w3 (some p) := gb_trans hg b3
      clear b3 cc hown hg
      rcases (show t = 1 ∨ (t ≠ 1 ∧ t = 2) ∨ (t ≠ 1 ∧ t ≠ 2) by omega) with ht | ⟨ht1, ht⟩ | ⟨ht1, ht2⟩
      · have hy : x % 2 = y := by rw [HY.out]; unfold sty; rw [if_pos ht]
        have hb1 : (t == 1) = true := by rw [beq_iff_eq]; exact ht
        have hb2 : (t == 2) = false := by rw [beq_eq_false_iff_ne]; omega
        clear ht
        go_wp2_with (at_builtin; refine append_byte w3 rfl (.tmp 31) (.tmp 34) 37 5 rfl w.heap.size Tryd.underlying37 Tryd.infoB _ l y (by omega) (by omega) (by omega) hown3 rfl rfl g3.size ?_; intro v' w4 hown4 hbel4)
        go_roundw
        case rel => exact ⟨q, _, dS S sc, by go_num, by omega, HN.out.1, HN.out.2.1, HN.out.2.2, c3.below (hbel4.mono (by omega)), hown4, gb_below g3 hbel4⟩
        case measure => simp [intOf]
      · have hy : 97 + x % 4 = y := by rw [HY.out]; unfold sty; rw [if_neg ht1, if_pos ht]
        have hb1 : (t == 1) = false := by rw [beq_eq_false_iff_ne]; exact ht1
        have hb2 : (t == 2) = true := by rw [beq_iff_eq]; exact ht
        clear ht ht1
        go_wp2_with (at_builtin; refine append_byte w3 rfl (.tmp 31) (.tmp 34) 37 5 rfl w.heap.size Tryd.underlying37 Tryd.infoB _ l y (by omega) (by omega) (by omega) hown3 rfl rfl g3.size ?_; intro v' w4 hown4 hbel4)
        go_roundw
        case rel => exact ⟨q, _, dS S sc, by go_num, by omega, HN.out.1, HN.out.2.1, HN.out.2.2, c3.below (hbel4.mono (by omega)), hown4, gb_below g3 hbel4⟩
        case measure => simp [intOf]
      · have hy : x = y := by rw [HY.out]; unfold sty; rw [if_neg ht1, if_neg ht2]
        have hb1 : (t == 1) = false := by rw [beq_eq_false_iff_ne]; exact ht1
        have hb2 : (t == 2) = false := by rw [beq_eq_false_iff_ne]; exact ht2
        clear ht1 ht2
        rw [hy]
        clear hy
        go_wp2_with (at_builtin; refine append_byte w3 rfl (.tmp 31) (.tmp 34) 37 5 rfl w.heap.size Tryd.underlying37 Tryd.infoB _ l y (by omega) (by omega) (by omega) hown3 rfl rfl g3.size ?_; intro v' w4 hown4 hbel4)
        go_roundw
        case rel => exact ⟨q, _, dS S sc, by go_num, by omega, HN.out.1, HN.out.2.1, HN.out.2.2, c3.below (hbel4.mono (by omega)), hown4, gb_below g3 hbel4⟩
        case measure => simp [intOf]
    · obtain rfl : r = 0 := by omega
      have HE : Hid (l = txL S t m s2 ∧ sc = txS S m s2) := by
        have h := HL.out
        exact ⟨by have := h.2.1; rwa [txL, List.append_nil] at this, h.2.2⟩
      have hcv := row_string (P := Tryd.prog) (T := 9) Tryd.underlying37 Tryd.underlying5 Tryd.underlying9 hown
      go_wp2
      go_ret
      exact ⟨ret_str (by rw [HR.out.1, HE.out.1]), by rw [HR.out.2, ← HE.out.2]; exact cc, hg⟩

/-- the bytes lie in memory -/
def Lies (S : Src) (w : World) : Prop := ∀ t, t < S.len → ∃ b off, S.a = some ⟨b, off, none⟩ ∧ w.cell? ⟨b, off + t, none⟩ = some (.int .u8 (S.zs.getD t 0))

theorem Lies.below {S : Src} {w w' : World} (h : Lies S w) (b : Below w.heap.size w w') : Lies S w' := fun t ht => by
  obtain ⟨bb, off, h1, h2⟩ := h t ht
  exact ⟨bb, off, h1, (b.cell (p := ⟨bb, off + t, none⟩) (World.block_lt_of_cell? w _ h2)).trans h2⟩

/-- the number that l1New comes to behind k bytes -/
def hK (len : Nat) (zs : List Int) : Nat → Int
  | 0 => 10101 + len
  | k + 1 => bits .and .i64 (hK len zs k * 131 + zs.getD k 0 + 7) 1073741823

theorem hK_bd (len : Nat) (zs : List Int) (hl : len ≤ 1048576) : ∀ k, 0 ≤ hK len zs k ∧ hK len zs k ≤ 1073741823
  | 0 => by unfold hK; omega
  | k + 1 => and_bd _ 1073741823 (by decide)

/-- where the cursor stands at first -/
def s0 (S : Src) : Nat × Int := (0, hK S.len S.zs (min S.len 4000))

set_option maxRecDepth 100000 in
set_option maxHeartbeats 400000 in
theorem new_any (S : Src) (ok : S.ok) (w : World) (hl : Lies S w) :
    Calls Tryd.prog 38 #[.slice S.a S.len S.cap] w fun e w' => e = .returned (.pointer (some ⟨w.heap.size, 0, none⟩)) ∧ At S w.heap.size (s0 S) w' ∧ Below w.heap.size w w' := by
  obtain ⟨a, len, cap, zs⟩ := S
  have hlen : len ≤ 1048576 := ok.1
  have hzs : ∀ t, 0 ≤ zs.getD t 0 ∧ zs.getD t 0 ≤ 255 := ok.2
  have HC : Hid (∀ t, t < len → ∃ b off, a = some ⟨b, off, none⟩ ∧ w.cell? ⟨b, off + t, none⟩ = some (.int .u8 (zs.getD t 0))) := hl
  have HK := hK_bd len zs hlen
  clear ok hl
  show Calls Tryd.prog 38 #[.slice a len cap] w _
  have hform : len = 0 ∨ ∃ b off, a = some ⟨b, off, none⟩ := by
    by_cases h : len = 0
    · exact Or.inl h
    · obtain ⟨b, off, h1, _⟩ := HC.out 0 (by omega)
      exact Or.inr ⟨b, off, h1⟩
  have fin : ∀ k : Nat, k ≤ len → k ≤ 4000 → ¬ (k < len ∧ k < 4000) → At ⟨a, len, cap, zs⟩ w.heap.size (s0 ⟨a, len, cap, zs⟩) (w.alloc (.cells #[.slice a len cap, .int .i64 0, .int .i64 (hK len zs k)] 85)) := by
    intro k h1 h2 h3
    obtain rfl : k = min len 4000 := by omega
    refine ⟨heap_new _ _, Nat.zero_le _, fun t ht => ?_⟩
    obtain ⟨b, off, h4, h5⟩ := HC.out t ht
    have hb := World.block_lt_of_cell? w _ h5
    exact ⟨b, off, h4, hb, ((Below.refl w.heap.size w).alloc (Nat.le_refl _) _).cell (p := ⟨b, off + t, none⟩) hb |>.trans h5⟩
  have FIN : Hid (∀ k : Nat, k ≤ len → k ≤ 4000 → ¬ (k < len ∧ k < 4000) → At ⟨a, len, cap, zs⟩ w.heap.size (s0 ⟨a, len, cap, zs⟩) (w.alloc (.cells #[.slice a len cap, .int .i64 0, .int .i64 (hK len zs k)] 85))) := fin
  clear fin
  go_enter Tryd.func38, Tryd.ntmps38
  go_wp2
  go_loop [3, 4] (fun v i => ∃ k : Nat, k ≤ len ∧ k ≤ 4000 ∧ i = .int .i64 k ∧ v = .int .i64 (hK len zs k)) (fun _ i => 4000 - (intOf i).toNat)
  case atStart => exact ⟨0, by omega, by omega, rfl, rfl⟩
  case round =>
    obtain ⟨k, hk, hk4, rfl, rfl⟩ := hrel
    by_cases hlt : k < len ∧ k < 4000
    · obtain ⟨h1, h2⟩ := hlt
      obtain ⟨b, off, rfl, hcell⟩ := HC.out k h1
      have hb := HK k
      have hz := hzs k
      have HN : Hid (hK len zs (k + 1) = bits .and .i64 (hK len zs k * 131 + zs.getD k 0 + 7) 1073741823) := rfl
      obtain ⟨z, HZ⟩ : ∃ z, Hid (z = zs.getD k 0) := ⟨_, rfl⟩
      rw [← HZ.out] at hcell hz HN
      clear HK hzs hform
      go_wp2
      go_round
      case rel => exact ⟨k + 1, by omega, by omega, by go_num, by rw [HN.out]⟩
      case measure => simp [intOf]; omega
    · have HF := FIN.out k hk hk4 hlt
      have HF2 : Hid (At ⟨a, len, cap, zs⟩ w.heap.size (s0 ⟨a, len, cap, zs⟩) (w.alloc (.cells #[.slice a len cap, .int .i64 0, .int .i64 (hK len zs k)] 85))) := HF
      have hex : ¬ k < len ∨ (k < len ∧ ¬ k < 4000) := by omega
      clear HF hlt HK hzs hform
      rcases hex with hx | ⟨hx, hx2⟩
      all_goals
        go_wp2
        go_ret
        exact ⟨rfl, HF2.out, (Below.refl _ _).alloc (Nat.le_refl _) _⟩

end Go.Proofs.YtfdahfealibbnaaDoor
