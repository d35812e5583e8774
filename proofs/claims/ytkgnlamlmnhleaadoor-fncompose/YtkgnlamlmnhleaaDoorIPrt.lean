/- Signs: impl.Parts at a syllable: its parts by three method values, read one behind the other. -/
import Derived.Test.YtkgnlamlmnhleaaDoorRows
import Derived.Test.YtkgnlamlmnhleaaDoorSgn
import Derived.Test.YtkgnlamlmnhleaaDoorIBtw
import Derived.WalkKit
import Derived.WalkSpells
import Derived.WalkLawsBesides
import Derived.Deep.QuietTactic
import Derived.BigQuiet
namespace Go.Proofs.YtkgnlamlmnhleaaDoor
open Go.RowKit

def leadP (a : Int) : Int := 4352 + a / 588
def vowP (a : Int) : Int := 4449 + a % 588 / 28
def tailP (a : Int) : Int := if a % 28 = 0 then 0 else 4519 + a % 28

set_option maxRecDepth 100000 in
theorem readLead_any (a : Int) (h0 : 0 ≤ a) (h1 : a < 11172) (w : World) :
    Calls Tryd.prog 53 #[.agg #[.int .i64 a]] w fun e w' => e = .returned (.int .i64 (leadP a)) ∧ Below w.heap.size w w' := by
  have HT : a.tdiv 588 = a / 588 := Int.tdiv_eq_ediv_of_nonneg h0
  have HR : Hid (leadP a = 4352 + a / 588) := rfl
  generalize leadP a = r at HR ⊢
  go_enter Tryd.func53, Tryd.ntmps53
  go_wp2
  go_ret
  exact ⟨ret_int (by rw [HR.out]), below_lit _ _⟩

set_option maxRecDepth 100000 in
theorem readVowel_any (a : Int) (h0 : 0 ≤ a) (w : World) :
    Calls Tryd.prog 54 #[.agg #[.int .i64 a]] w fun e w' => e = .returned (.int .i64 (vowP a)) ∧ Below w.heap.size w w' := by
  have HT : a.tmod 588 = a % 588 := Int.tmod_eq_emod_of_nonneg h0
  have HT2 : (a % 588).tdiv 28 = a % 588 / 28 := Int.tdiv_eq_ediv_of_nonneg (by omega)
  have HR : Hid (vowP a = 4449 + a % 588 / 28) := rfl
  generalize vowP a = r at HR ⊢
  go_enter Tryd.func54, Tryd.ntmps54
  go_wp2
  go_ret
  exact ⟨ret_int (by rw [HR.out]), below_lit _ _⟩

set_option maxRecDepth 100000 in
theorem readTail_any (a : Int) (h0 : 0 ≤ a) (w : World) :
    Calls Tryd.prog 50 #[.agg #[.int .i64 a]] w fun e w' => e = .returned (.int .i64 (tailP a)) ∧ Below w.heap.size w w' := by
  have HT : a.tmod 28 = a % 28 := Int.tmod_eq_emod_of_nonneg h0
  have HR : Hid (tailP a = if a % 28 = 0 then 0 else 4519 + a % 28) := rfl
  generalize tailP a = r at HR ⊢
  by_cases h : a % 28 = 0
  · go_enter Tryd.func50, Tryd.ntmps50
    go_wp2
    go_ret
    exact ⟨ret_int (by rw [HR.out, if_pos h]), below_lit _ _⟩
  · go_enter Tryd.func50, Tryd.ntmps50
    go_wp2
    go_ret
    exact ⟨ret_int (by rw [HR.out, if_neg h]), below_lit _ _⟩

def partsOf (l : List Int) : List Int := l.filter fun x => x != 0
theorem partsOf_take (l : List Int) (k : Nat) (h : k < l.length) : partsOf (l.take (k + 1)) = partsOf (l.take k) ++ (if l.getD k 0 = 0 then [] else [l.getD k 0]) := by
  have e : l.take (k + 1) = l.take k ++ [l.getD k 0] := by
    rw [List.take_add_one, List.getElem?_eq_getElem h]; simp [List.getD, h]
  rw [e]; unfold partsOf
  rw [List.filter_append]
  congr 1
  by_cases hz : l.getD k 0 = 0
  · rw [if_pos hz]; rw [hz]; rfl
  · rw [if_neg hz]; simpa using hz
theorem partsOf_len (l : List Int) (k : Nat) : (partsOf (l.take k)).length ≤ l.length := by
  unfold partsOf
  refine Nat.le_trans (List.length_filter_le _ _) ?_
  simp; omega

/-- the three ways to read a syllable lie at g -/
def SylWays (g : Nat) (a : Int) (w : World) : Prop :=
  g < w.heap.size ∧ w.cell? ⟨g, 0, none⟩ = some (.func (.func 53) #[.agg #[.int .i64 a]] #[]) ∧
  w.cell? ⟨g, 1, none⟩ = some (.func (.func 54) #[.agg #[.int .i64 a]] #[]) ∧
  w.cell? ⟨g, 2, none⟩ = some (.func (.func 50) #[.agg #[.int .i64 a]] #[])

theorem SylWays.below {g B : Nat} {a : Int} {w w' : World} (h : SylWays g a w) (hb : Below B w w') (hB : g < B) : SylWays g a w' :=
  ⟨Nat.lt_of_lt_of_le h.1 hb.size, (hb.cell hB).trans h.2.1, (hb.cell hB).trans h.2.2.1, (hb.cell hB).trans h.2.2.2⟩

theorem syl_new (w : World) (g : Nat) (hg : w.heap.size = g) (a : Int) (T : TypeId) :
    SylWays g a (w.alloc (.cells #[.func (.func 53) #[.agg #[.int .i64 a]] #[], .func (.func 54) #[.agg #[.int .i64 a]] #[], .func (.func 50) #[.agg #[.int .i64 a]] #[]] T)) := by
  subst hg
  refine ⟨by simp, ?_, ?_, ?_⟩ <;> (rw [World.cell?_alloc_mark]; rfl)

set_option maxRecDepth 100000 in
set_option maxHeartbeats 2000000 in
theorem readSyl_any (g : Nat) (a : Int) (h0 : 0 ≤ a) (h1 : a < 11172) (w : World) (hw : SylWays g a w) :
    Calls Tryd.prog 52 #[.slice (some ⟨g, 0, none⟩) 3 3] w fun e w' => ∃ v, e = .returned v ∧ IntRow w' w.heap.size v (partsOf [leadP a, vowP a, tailP a]) ∧ Below w.heap.size w w' := by
  have HL := fun w => readLead_any a h0 h1 w
  have HV := fun w => readVowel_any a h0 w
  have HT := fun w => readTail_any a h0 w
  have hp0 : leadP a ≠ 0 := by unfold leadP; omega
  have hp1 : vowP a ≠ 0 := by unfold vowP; omega
  generalize leadP a = p0 at *
  generalize vowP a = p1 at *
  generalize tailP a = p2 at *
  go_enter Tryd.func52, Tryd.ntmps52
  go_wp2
  go_loopw [3, 9] (fun v i wr => ∃ k : Nat, k ≤ 3 ∧ i = .int .i64 k ∧ IntRow wr w.heap.size v (partsOf ([p0, p1, p2].take k)) ∧ Below w.heap.size w wr) (fun _ i _ => 3 - (intOf i).toNat)
  case atStart => exact ⟨0, by omega, rfl, World.ownsRow_nil _ _ _ _, Below.refl _ _⟩
  case round =>
    obtain ⟨k, hk, rfl, hrow, hbel⟩ := hrel
    obtain ⟨hg, c0, c1, c2⟩ := hw.below hbel hw.1
    match k, hk with
    | 0, _ =>
      go_wp2_with (first | (go_at_call 53; refine (HL _).mono ?_; rintro e w1 ⟨rfl, hb1⟩; have hrow1 := hrow.below hb1; have hbel1 := hbel.trans (hb1.mono hbel.size)) | (at_builtin; refine append_int w1 rfl (.tmp 17) (.tmp 19) rfl w.heap.size _ _ p0 (by simp [partsOf]) hrow1 rfl rfl hbel1.size ?_; intro v' w2 hrow2 hbel2))
      go_roundw
      case rel => exact ⟨1, by omega, by go_num, by rw [partsOf_take _ 0 (by simp)]; simpa [hp0] using hrow2, hbel1.trans hbel2⟩
      case measure => simp [intOf]
    | 1, _ =>
      go_wp2_with (first | (go_at_call 54; refine (HV _).mono ?_; rintro e w1 ⟨rfl, hb1⟩; have hrow1 := hrow.below hb1; have hbel1 := hbel.trans (hb1.mono hbel.size)) | (at_builtin; refine append_int w1 rfl (.tmp 17) (.tmp 19) rfl w.heap.size _ _ p1 (by have := partsOf_len [p0, p1, p2] 1; simp at this ⊢; omega) hrow1 rfl rfl hbel1.size ?_; intro v' w2 hrow2 hbel2))
      go_roundw
      case rel => exact ⟨2, by omega, by go_num, by rw [partsOf_take _ 1 (by simp)]; simpa [hp1] using hrow2, hbel1.trans hbel2⟩
      case measure => simp [intOf]
    | 2, _ =>
      by_cases hz : p2 = 0
      · go_wp2_with (first | (go_at_call 50; refine (HT _).mono ?_; rintro e w1 ⟨rfl, hb1⟩; have hrow1 := hrow.below hb1; have hbel1 := hbel.trans (hb1.mono hbel.size)))
        go_roundw
        case rel => exact ⟨3, by omega, by go_num, by rw [partsOf_take _ 2 (by simp)]; simpa [hz] using hrow1, hbel1⟩
        case measure => simp [intOf]
      · go_wp2_with (first | (go_at_call 50; refine (HT _).mono ?_; rintro e w1 ⟨rfl, hb1⟩; have hrow1 := hrow.below hb1; have hbel1 := hbel.trans (hb1.mono hbel.size)) | (at_builtin; refine append_int w1 rfl (.tmp 17) (.tmp 19) rfl w.heap.size _ _ p2 (by have := partsOf_len [p0, p1, p2] 2; simp at this ⊢; omega) hrow1 rfl rfl hbel1.size ?_; intro v' w2 hrow2 hbel2))
        go_roundw
        case rel => exact ⟨3, by omega, by go_num, by rw [partsOf_take _ 2 (by simp)]; simpa [hz] using hrow2, hbel1.trans hbel2⟩
        case measure => simp [intOf]
    | 3, _ =>
      go_wp2
      go_ret
      exact ⟨_, rfl, hrow, hbel⟩


set_option maxRecDepth 100000 in
set_option maxHeartbeats 2000000 in
theorem partsOfH (p : Value) (c : Int) (hc : inB c 44032 55203 = true) (w : World) :
    Calls Tryd.prog 40 #[p, .int .i64 c] w fun e w' => ∃ v, e = .returned v ∧ IntRow w' w.heap.size v (partsOf [leadP (c - 44032), vowP (c - 44032), tailP (c - 44032)]) ∧ Below w.heap.size w w' := by
  have hb := inB_le hc
  have HS := fun g w' h => readSyl_any g (c - 44032) (by omega) (by omega) w' h
  generalize partsOf [leadP (c - 44032), vowP (c - 44032), tailP (c - 44032)] = l at HS ⊢
  have hmf : ∀ (fn : Fn) (first cap : Array Value) (w : World), (Instr.makeFunc fn first cap).run Tryd.prog w = .ok (.func fn first cap) w := fun _ _ _ _ => rfl
  go_enter Tryd.func40, Tryd.ntmps40
  go_wp2_with (go_at_call 35; refine (btw_any _ _ _ _).mono ?_; rintro e w' ⟨rfl, rfl⟩)
  refine (HS (w.heap.size + 1) _ (syl_new _ _ ?_ _ _)).mono ?_
  · rw [hs_alloc]
  rintro e w2 ⟨v, rfl, hrow, hb2⟩
  have hs1 := hb2.size
  rw [hs_alloc, hs_alloc] at hs1
  go_wp2
  go_ret
  exact ⟨v, rfl, hrow.mono (by rw [hs_alloc, hs_alloc]; omega), (((Below.refl w.heap.size w).alloc (Nat.le_refl _) _).alloc (by rw [hs_alloc]; omega) _).trans (hb2.mono (by rw [hs_alloc, hs_alloc]; omega))⟩

end Go.Proofs.YtkgnlamlmnhleaaDoor
