/- Signs: spec.Decode. -/
import Derived.Test.YtkgnlamlmnhleaaDoorRows
import Derived.Test.YtkgnlamlmnhleaaDoorOne
namespace Go.Proofs.YtkgnlamlmnhleaaDoor
open Go.RowKit

/-- the signs from at_ on -/
def decF (s : ByteArray) : Nat → Nat → Option (List Int)
  | 0, _ => none
  | f + 1, at_ => if at_ < s.size then (if oneL s at_ = 0 then none else (decF s f (at_ + oneL s at_)).map (oneC s at_ :: ·)) else some []
def decN (s : ByteArray) : Option (List Int) := decF s (s.size + 1) 0

theorem oneL_le (s : ByteArray) (k : Nat) : k < s.size → k + oneL s k ≤ s.size ∧ oneL s k ≤ 4 := by
  intro hk
  unfold oneL
  split
  · rename_i h
    simp only [oneOk, Bool.and_eq_true, decide_eq_true_eq] at h
    refine ⟨h.1.1.1.2, ?_⟩
    unfold leadN
    split
    · omega
    · split
      · omega
      · split
        · omega
        · split <;> omega
  · omega

theorem decF_end (s : ByteArray) (f k : Nat) (h : ¬ k < s.size) : decF s (f + 1) k = some [] := by
  unfold decF; rw [if_neg h]
theorem decF_bad (s : ByteArray) (f k : Nat) (h : k < s.size) (h0 : oneL s k = 0) : decF s (f + 1) k = none := by
  unfold decF; rw [if_pos h, if_pos h0]
theorem decF_step (s : ByteArray) (f k : Nat) (h : k < s.size) (h0 : oneL s k ≠ 0) : decF s (f + 1) k = (decF s f (k + oneL s k)).map (oneC s k :: ·) := by
  conv => lhs; unfold decF
  rw [if_pos h, if_neg h0]

/-- more fuel than bytes changes nothing -/
theorem decF_fuel (s : ByteArray) : ∀ (f g k : Nat), s.size - k < f → s.size - k < g → decF s f k = decF s g k := by
  intro f
  induction f with
  | zero => intro g k h; omega
  | succ f ih =>
    intro g k hf hg
    obtain ⟨g, rfl⟩ : ∃ g', g = g' + 1 := ⟨g - 1, by omega⟩
    by_cases hk : k < s.size
    · by_cases h0 : oneL s k = 0
      · rw [decF_bad s f k hk h0, decF_bad s g k hk h0]
      · rw [decF_step s f k hk h0, decF_step s g k hk h0, ih g (k + oneL s k) (by omega) (by omega)]
    · rw [decF_end s f k hk, decF_end s g k hk]

/-- what is read from k on, behind l -/
def decA (s : ByteArray) (k : Nat) (l : List Int) : Option (List Int) := (decF s (s.size + 1) k).map (l ++ ·)
theorem decA_bad (s : ByteArray) (k : Nat) (l : List Int) (h : k < s.size) (h0 : oneL s k = 0) : decA s k l = none := by
  unfold decA; rw [decF_bad s _ k h h0]; rfl
theorem decA_end (s : ByteArray) (k : Nat) (l : List Int) (h : ¬ k < s.size) : decA s k l = some l := by
  unfold decA; rw [decF_end s _ k h]; simp
theorem decA_step (s : ByteArray) (k : Nat) (l : List Int) (h : k < s.size) (h0 : oneL s k ≠ 0) : decA s (k + oneL s k) (l ++ [oneC s k]) = decA s k l := by
  unfold decA
  rw [decF_step s _ k h h0, decF_fuel s (s.size + 1) s.size (k + oneL s k) (by omega) (by omega)]
  cases decF s s.size (k + oneL s k) with
  | none => rfl
  | some m => simp
theorem decA_0 (s : ByteArray) : decA s 0 [] = decN s := by
  unfold decA decN
  cases decF s (s.size + 1) 0 with
  | none => rfl
  | some m => simp

/-- what is answered: a row, and whether there is one -/
def DecSays (w : World) (e : Ending) (w' : World) (r : Option (List Int)) : Prop :=
  ∃ v, e = .returned (.tuple #[v, .bool r.isSome]) ∧ IntRow w' w.heap.size v (r.getD []) ∧ Below w.heap.size w w'

set_option maxRecDepth 100000 in
set_option maxHeartbeats 2000000 in
theorem sDecode (s : ByteArray) (w : World) (hs : s.size ≤ 1048576) :
    Calls Tryd.prog 31 #[.string s] w fun e w' => DecSays w e w' (decN s) := by
  have HB := decA_bad s
  have HE := decA_end s
  have HS := decA_step s
  have H0 : Hid (decA s 0 [] = decN s) := decA_0 s
  generalize decN s = r at H0 ⊢
  go_enter Tryd.func31, Tryd.ntmps31
  go_wp2
  go_loopw [4, 5] (fun o i wr => ∃ (k : Nat) (l : List Int), k ≤ s.size ∧ l.length ≤ k ∧ i = .int .i64 k ∧ IntRow wr w.heap.size o l ∧ decA s k l = r ∧ Below w.heap.size w wr) (fun _ i _ => s.size - (intOf i).toNat)
  case atStart => exact ⟨0, [], Nat.zero_le _, Nat.le_refl _, rfl, (lit_at _ _ [] 0 rfl rfl (by decide)), H0.out, below_lit _ _⟩
  case round =>
    obtain ⟨k, l, hk, hlk, rfl, hrow, hA, hbel⟩ := hrel
    by_cases hlt : k < s.size
    · have hle := oneL_le s k hlt
      have HB' : Hid (oneL s k = 0 → decA s k l = none) := HB k l hlt
      have HS' : Hid (oneL s k ≠ 0 → decA s (k + oneL s k) (l ++ [oneC s k]) = decA s k l) := HS k l hlt
      have hone := fun w => l3One_any s k w hs hlt
      have HV : oneV s k = .tuple #[.int .i64 (oneC s k), .int .i64 (oneL s k : Int)] := rfl
      rw [HV] at hone
      rw [hA] at HB' HS'
      generalize oneC s k = c at hone HS'
      generalize oneL s k = m at hone HS' HB' hle
      clear HB HS HE HV
      cases hm : ((m : Int) == 0)
      · have hm' : m ≠ 0 := by simp at hm; omega
        go_wp2_with (first | (go_at_call 45; refine (hone _).mono ?_; rintro e w1 ⟨rfl, hb1⟩; have hrow1 := hrow.below hb1; have hbel1 := hbel.trans (hb1.mono hbel.size)) | (at_builtin; refine append_int w1 rfl (.tmp 22) (.tmp 24) rfl w.heap.size _ l c (by omega) hrow1 rfl rfl hbel1.size ?_; intro v' w2 hrow2 hbel2))
        go_roundw
        case rel => exact ⟨k + m, l ++ [c], by omega, by simp; omega, by go_num, hrow2, HS'.out hm', hbel1.trans hbel2⟩
        case measure => simp [intOf]; omega
      · have hm' : m = 0 := by simp at hm; omega
        have HR : Hid (r = none) := HB'.out hm'
        clear hm'
        go_wp2_with (go_at_call 45; refine (hone _).mono ?_; rintro e w1 ⟨rfl, hb1⟩; have hbel1 := hbel.trans (hb1.mono hbel.size))
        go_ret2
        rw [HR.out]
        refine ⟨.slice (some ⟨w1.heap.size, 0, none⟩) 0 0, rfl, ret_lit _ w _ _ 0 _ ?_ ?_ ?_ ?_ ?_⟩ <;> first | rfl | decide | exact hbel1 | simp
    · have HR : Hid (r = some l) := by rw [← hA]; exact HE k l hlt
      clear HB HS HE
      go_wp2
      go_ret2
      rw [HR.out]
      exact ⟨_, rfl, hrow, hbel⟩

end Go.Proofs.YtkgnlamlmnhleaaDoor
