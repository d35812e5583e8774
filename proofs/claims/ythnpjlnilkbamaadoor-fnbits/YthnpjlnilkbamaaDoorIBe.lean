/- A bitmap in a word: bits.TrailingZeros32, impl.Runs, FindRun. -/
import Derived.Test.YthnpjlnilkbamaaDoorRows
import Derived.Test.YthnpjlnilkbamaaDoorIBb
import Derived.Shelf.Spec.TrailingZeros
namespace Go.Proofs.YthnpjlnilkbamaaDoor
open Go.RowKit Go.Sort

/-- the library's table lies in its variable -/
def TzTab (w : World) : Prop := ∀ j, j < 32 → w.cell? ⟨0, j, none⟩ = some (.int .u8 (Lib.deBruijn32tab.getD j 0))
theorem TzTab.heap {w : World} (h : TzTab w) : 0 < w.heap.size := by
  have h1 := h 0 (by decide)
  cases hh : w.heap[0]? with
  | none => simp [World.cell?, hh] at h1
  | some o => exact lt_of_block hh
theorem TzTab.below {w w' : World} (h : TzTab w) (b : Below w.heap.size w w') : TzTab w' := fun j hj => (b.cell (p := ⟨0, j, none⟩) h.heap).trans (h j hj)

set_option maxRecDepth 100000 in
set_option maxHeartbeats 1000000 in
theorem tz_core (x k idx : Nat) (w : World) (hx0 : ((x : Int) == 0) = false)
    (key : bits BinOp.and IntKind.u32 (x : Int) (-(x : Int) % 4294967296) * 125613361 % 4294967296 / 134217728 = (idx : Int))
    (hi : idx < 32) (hk : k < 32) (hcell : w.cell? ⟨0, idx, none⟩ = some (.int .u8 k)) :
    Calls Tryd.prog 40 #[.int .u32 x] w fun e w' => e = .returned (.int .i64 k) ∧ w' = w := by
  go_enter Tryd.func40, Tryd.ntmps40
  go_wp2_with (simp only [key])
  go_ret
  exact ⟨rfl, rfl⟩
theorem tz_any (x : Nat) (hx : x < 4294967296) (hx0 : x ≠ 0) (w : World) (hT : TzTab w) :
    Calls Tryd.prog 40 #[.int .u32 x] w fun e w' => e = .returned (.int .i64 (Lib.ctz 32 x : Nat)) ∧ w' = w := by
  obtain ⟨hlow, hk⟩ := Lib.lowest_bit 32 x hx0 hx
  obtain ⟨hi, htab⟩ := Lib.deBruijn32_at _ hk
  have hcell := hT _ hi
  rw [htab] at hcell
  exact tz_core x _ _ w (by simp; omega) (tz32_key x _ hx hx0 hlow) hi hk hcell

theorem not_word (d : Nat) (h : d < 16777216) : bits .xor .u32 IntKind.u32.max (d : Int) = 4294967295 - (d : Int) := by
  have h1 := u32_xor_nat 4294967295 d (by omega) (by omega)
  have h2 : 4294967295 ^^^ d = 4294967295 - d := by
    apply Nat.eq_of_testBit_eq
    intro i
    rw [show 4294967295 - d = 2 ^ 32 - (d + 1) by omega, Nat.testBit_two_pow_sub_succ (by omega), Nat.testBit_xor, show 4294967295 = 2 ^ 32 - 1 from rfl, Nat.testBit_two_pow_sub_one]
    by_cases hi : i < 32
    · rw [decide_eq_true hi]; cases d.testBit i <;> rfl
    · rw [decide_eq_false hi, bit24 h (by omega)]; rfl
  rw [h2] at h1
  refine Eq.trans ?_ (h1.trans (by omega))
  rfl
theorem RuI.len {f k : Nat} {l : List Rn} (h : RuI f k l) : l.length ≤ 24 := by
  rcases rn_len l h.right 0 (fun r hr => (h.right.one r hr).1) (by omega) with h2 | h2
  · omega
  · rw [h2]; simp

set_option maxRecDepth 100000 in
set_option maxHeartbeats 1000000 in
theorem iRunsW (b : List Bool) (hb : b.length = 24) (w : World) (hT : TzTab w) :
    Calls Tryd.prog 31 #[.int .u32 (frN b : Nat)] w fun e w' => ∃ u, e = .returned u ∧ RnRow w' w.heap.size u (runsN b) ∧ Below w.heap.size w w' := by
  have HE : Hid (∀ l, RuI (frN b) 24 l → runsN b = l) := fun l h => h.done hb
  have hf := frN_lt hb
  generalize runsN b = res at HE ⊢
  generalize frN b = f at hf HE ⊢
  have e1 : bits .andNot .u32 (f : Int) ((f : Int) * 2) = (f &&& (4294967295 - f * 2) : Nat) := by
    have := u32_andNot_nat f (f * 2) (by omega) (by omega)
    exact this
  have HB : Hid (∀ k, (f &&& (4294967295 - f * 2)).testBit k = begB f k) := fun k => beg_bit f k hf
  have hg : f &&& (4294967295 - f * 2) ≤ f := Nat.and_le_left
  generalize f &&& (4294967295 - f * 2) = g at e1 HB hg
  have HY : Hid (∀ k l n, RuI f k l → begB f k = true → (∀ i, i < n → f.testBit (k + i) = true) → f.testBit (k + n) = false → RuI f (k + 1) (l ++ [⟨k, n⟩])) := fun k l n h1 h2 h3 h4 => RuI.yes hf h1 h2 h3 h4
  have HN : Hid (∀ k l, RuI f k l → begB f k = false → RuI f (k + 1) l) := fun k l h1 h2 => RuI.no h1 h2
  have h2f : (f : Int) * 2 % 4294967296 = (f : Int) * 2 := by omega
  go_enter Tryd.func31, Tryd.ntmps31
  go_wp2
  go_loopw [3, 10] (fun rv iv wr => ∃ (k : Nat) (l : List Rn), k ≤ 24 ∧ iv = .int .i64 k ∧ Hid (RuI f k l) ∧ RnRow wr w.heap.size rv l ∧ Below w.heap.size w wr) (fun _ iv _ => 24 - (intOf iv).toNat)
  case atStart => exact ⟨0, [], by omega, rfl, RuI.start f, World.ownsRow_nil _ _ _ _, Below.refl _ _⟩
  case round =>
    obtain ⟨k, l, hk, rfl, HR, hrow, hbel⟩ := hrel
    by_cases hlt : k < 24
    · have hs := hbel.size
      have hll := HR.out.len
      have HH := iHas g k (by omega) hlt wr
      rw [HB.out] at HH
      have HY2 : Hid (begB f k = true → ∀ n : Nat, (∀ i, i < n → f.testBit (k + i) = true) → f.testBit (k + n) = false → RuI f (k + 1) (l ++ [⟨k, n⟩])) := fun h n h1 h2 => HY.out k l n HR.out h h1 h2
      have HN2 : Hid (begB f k = false → RuI f (k + 1) l) := fun h => HN.out k l HR.out h
      generalize begB f k = x at HH HY2 HN2
      cases x
      · have HZ : Hid (RuI f (k + 1) l) := HN2.out rfl
        clear HY2 HN2
        go_wp2_with (go_at_call 39; refine HH.mono ?_; rintro e w1 ⟨rfl, rfl⟩)
        go_roundw
        case rel => exact ⟨k + 1, l, by omega, by go_num, HZ, hrow, hbel⟩
        case measure => simp [intOf]; omega
      · have HO : Hid (Lib.ctz 32 (4294967295 - f / 2 ^ k) < 32 ∧ RuI f (k + 1) (l ++ [⟨k, (Lib.ctz 32 (4294967295 - f / 2 ^ k) : Nat)⟩])) := by
          obtain ⟨o1, o2, o3⟩ := ones_from (k := k) hf
          exact ⟨o1, HY2.out rfl _ o2 o3⟩
        have hq : f / 2 ^ k ≤ f := Nat.div_le_self _ _
        have e2 : ((f : Int) / 2 ^ k) = ((f / 2 ^ k : Nat) : Int) := by norm_cast
        have e3 : min k 32 = k := by omega
        generalize f / 2 ^ k = d at HO e2 hq
        have HC := tz_any (4294967295 - d) (by omega) (by omega) wr (hT.below hbel)
        have e4 : ((4294967295 - d : Nat) : Int) = 4294967295 - (d : Int) := by omega
        rw [e4] at HC
        generalize Lib.ctz 32 (4294967295 - d) = c at HC HO
        obtain ⟨o1, HZ⟩ := HO.out
        have HZ : Hid _ := HZ
        have hd : (d : Int) < 16777216 := by omega
        clear HY2 HN2 e4 HO hq
        have E2 : Hid _ := e2
        have E3 : Hid _ := e3
        have HX : Hid _ := not_word d (by omega)
        clear e2 e3 hd
        go_wp2_with fail
        refine HH.mono ?_
        rintro e w1 ⟨rfl, rfl⟩
        have e2 := E2.out
        have e3 := E3.out
        go_wp2_with fail
        rw [HX.out]
        refine HC.mono ?_
        rintro e w1 ⟨rfl, rfl⟩
        go_wp2_with (at_builtin; refine append_Rns _ rfl (.tmp 16) (.tmp 24) rfl w.heap.size _ _ l [⟨k, c⟩] (by simp; omega) (hrow.below (below_lit _ _)) (one_Rn _ ⟨k, c⟩) rfl rfl (Nat.le_trans hs (below_lit _ _).size) ?_; intro v8 w8 row8 b8; have hb8 := (hbel.trans ((below_lit _ _).mono hs)).trans b8)
        go_roundw
        case rel => exact ⟨k + 1, _, by omega, by go_num, HZ, row8, hb8⟩
        case measure => simp [intOf]; omega
    · obtain rfl : k = 24 := by omega
      have hr : Hid (res = l) := HE.out l HR.out
      go_wp2
      go_ret
      exact ⟨_, rfl, by rw [hr.out]; exact hrow, hbel⟩
end Go.Proofs.YthnpjlnilkbamaaDoor
