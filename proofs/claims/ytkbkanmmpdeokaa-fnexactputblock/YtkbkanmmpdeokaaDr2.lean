/- What spec.l1Text draws, and what spec.l1New makes. -/
import Derived.Test.YtkbkanmmpdeokaaRows
import Derived.Test.YtkbkanmmpdeokaaDr1
import Derived.WalkKit
import Derived.WalkSpells
import Derived.WalkLawsBesides
namespace Go.Proofs.Ytkbkanmmpdeokaa
open Go.RowKit

/-- a byte in its style -/
def sty (t b : Int) : Int := if t = 1 then b % 2 else if t = 2 then 97 + b % 4 else b

theorem sty_bd (t b : Int) (h : 0 ≤ b ∧ b ≤ 255) : 0 ≤ sty t b ∧ sty t b ≤ 255 := by unfold sty; split <;> (try split) <;> omega

/-- k bytes drawn in a style, and where the cursor stands then -/
def txL (S : Src) (t : Int) : Nat → Nat × Int → List UInt8
  | 0, _ => []
  | k + 1, s => UInt8.ofNat (sty t (dX S s)).toNat :: txL S t k (dS S s)
def txS (S : Src) : Nat → Nat × Int → Nat × Int
  | 0, s => s
  | k + 1, s => txS S k (dS S s)

theorem txL_length (S : Src) (t : Int) : ∀ k s, (txL S t k s).length = k
  | 0, _ => rfl
  | k + 1, s => by simp [txL, txL_length S t k]

/-- what l1Text draws, and where the cursor stands then -/
def tL (S : Src) (n : Int) (s : Nat × Int) : List UInt8 := txL S (bX S 4 s) (bX S (n + 1) (bS S 4 s)).toNat (bS S (n + 1) (bS S 4 s))
def tS (S : Src) (n : Int) (s : Nat × Int) : Nat × Int := txS S (bX S (n + 1) (bS S 4 s)).toNat (bS S (n + 1) (bS S 4 s))

theorem tL_length (S : Src) (n : Int) (s : Nat × Int) (h : 0 ≤ n) : ((tL S n s).length : Int) ≤ n := by
  unfold tL
  rw [txL_length]
  have := bX_bd S (n + 1) (bS S 4 s) (by omega)
  omega

theorem ownsRow_gb {w w' : World} {base : Nat} {e : TypeId} {size : Nat} {v : Value} {n : Nat} {xs : List Value} {p : Nat} (h : w.ownsRow base e size v n xs) (g : w.grownBy w' (some p)) (hp : p < base) : w'.ownsRow base e size v n xs := by
  refine ⟨h.1, ?_⟩
  rcases h.2 with h1 | ⟨b, cap, cur, h1, h2, h3, h4⟩
  · exact Or.inl h1
  · exact Or.inr ⟨b, cap, cur, h1, h2, (g.block b (lt_of_block h3) (fun e => by have := Option.some.inj e; omega)).trans h3, h4⟩


/-- the number that l1New comes to behind k bytes -/
def hK (len : Nat) (zs : List Int) : Nat → Int
  | 0 => 10101 + len
  | k + 1 => bits .and .i64 (hK len zs k * 131 + zs.getD k 0 + 7) 1073741823

theorem hK_bd (len : Nat) (zs : List Int) (hl : len ≤ 1048576) : ∀ k, 0 ≤ hK len zs k ∧ hK len zs k ≤ 1073741823
  | 0 => by unfold hK; omega
  | k + 1 => and_bd _ 1073741823 (by decide)

/-- where the cursor stands at first -/
def s0 (S : Src) : Nat × Int := (0, hK S.len S.zs (min S.len 4000))

set_option maxRecDepth 100000 in
set_option maxHeartbeats 400000 in
theorem new_any (S : Src) (ok : S.ok) (w : World) (hl : Lies S w) :
    Calls Try.prog 30 #[.slice S.a S.len S.cap] w fun e w' => e = .returned (.pointer (some ⟨w.heap.size, 0, none⟩)) ∧ At S w.heap.size (s0 S) w' ∧ Below w.heap.size w w' := by
  obtain ⟨a, len, cap, zs⟩ := S
  have hlen : len ≤ 1048576 := ok.1
  have hzs : ∀ t, 0 ≤ zs.getD t 0 ∧ zs.getD t 0 ≤ 255 := ok.2
  have HC : Hid (∀ t, t < len → ∃ b off, a = some ⟨b, off, none⟩ ∧ w.cell? ⟨b, off + t, none⟩ = some (.int .u8 (zs.getD t 0))) := hl
  have HK := hK_bd len zs hlen
  clear ok hl
  show Calls Try.prog 30 #[.slice a len cap] w _
  have hform : len = 0 ∨ ∃ b off, a = some ⟨b, off, none⟩ := by
    by_cases h : len = 0
    · exact Or.inl h
    · obtain ⟨b, off, h1, _⟩ := HC.out 0 (by omega)
      exact Or.inr ⟨b, off, h1⟩
  have fin : ∀ k : Nat, k ≤ len → k ≤ 4000 → ¬ (k < len ∧ k < 4000) → At ⟨a, len, cap, zs⟩ w.heap.size (s0 ⟨a, len, cap, zs⟩) (w.alloc (.cells #[.slice a len cap, .int .i64 0, .int .i64 (hK len zs k)] 73)) := by
    intro k h1 h2 h3
    obtain rfl : k = min len 4000 := by omega
    refine ⟨heap_new _ _, Nat.zero_le _, fun t ht => ?_⟩
    obtain ⟨b, off, h4, h5⟩ := HC.out t ht
    have hb := World.block_lt_of_cell? w _ h5
    exact ⟨b, off, h4, hb, ((Below.refl w.heap.size w).alloc (Nat.le_refl _) _).cell (p := ⟨b, off + t, none⟩) hb |>.trans h5⟩
  have FIN : Hid (∀ k : Nat, k ≤ len → k ≤ 4000 → ¬ (k < len ∧ k < 4000) → At ⟨a, len, cap, zs⟩ w.heap.size (s0 ⟨a, len, cap, zs⟩) (w.alloc (.cells #[.slice a len cap, .int .i64 0, .int .i64 (hK len zs k)] 73))) := fin
  clear fin
  go_enter Try.func30, Try.ntmps30
  go_wp2
  go_loop [3, 4] (fun v i => ∃ k : Nat, k ≤ len ∧ k ≤ 4000 ∧ i = .int .i64 k ∧ v = .int .i64 (hK len zs k)) (fun _ i => 4000 - (intOf i).toNat)
  case atStart => exact ⟨0, by omega, by omega, rfl, rfl⟩
  case round =>
    obtain ⟨k, hk, hk4, rfl, rfl⟩ := hrel
    by_cases hlt : k < len ∧ k < 4000
    · obtain ⟨h1, h2⟩ := hlt
      obtain ⟨b, off, rfl, hcell⟩ := HC.out k h1
      have hb := HK k
      have hz := hzs k
      have HN : Hid (hK len zs (k + 1) = bits .and .i64 (hK len zs k * 131 + zs.getD k 0 + 7) 1073741823) := rfl
      obtain ⟨z, HZ⟩ : ∃ z, Hid (z = zs.getD k 0) := ⟨_, rfl⟩
      rw [← HZ.out] at hcell hz HN
      clear HK hzs hform
      go_wp2
      go_round
      case rel => exact ⟨k + 1, by omega, by omega, by go_num, by rw [HN.out]⟩
      case measure => simp [intOf]; omega
    · have HF := FIN.out k hk hk4 hlt
      have HF2 : Hid (At ⟨a, len, cap, zs⟩ w.heap.size (s0 ⟨a, len, cap, zs⟩) (w.alloc (.cells #[.slice a len cap, .int .i64 0, .int .i64 (hK len zs k)] 73))) := HF
      have hex : ¬ k < len ∨ (k < len ∧ ¬ k < 4000) := by omega
      clear HF hlt HK hzs hform
      rcases hex with hx | ⟨hx, hx2⟩
      all_goals
        go_wp2
        go_ret
        exact ⟨rfl, HF2.out, (Below.refl _ _).alloc (Nat.le_refl _) _⟩

end Go.Proofs.Ytkbkanmmpdeokaa
