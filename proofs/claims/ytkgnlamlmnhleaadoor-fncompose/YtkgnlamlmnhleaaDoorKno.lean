/- Signs: spec.Known. -/
import Derived.Test.YtkgnlamlmnhleaaDoorRows
import Derived.Test.YtkgnlamlmnhleaaDoorSgn
import Derived.Deep.QuietTactic
import Derived.BigQuiet
namespace Go.Proofs.YtkgnlamlmnhleaaDoor
open Go.RowKit

def knF : List Int := [32, 161, 768, 776, 778, 803, 807, 902, 904, 908, 910, 913, 931, 940, 945, 972, 1040, 469, 7840, 7852, 8486, 8491, 4352, 4449, 4520, 44032]
def knT : List Int := [126, 255, 772, 776, 778, 803, 807, 902, 906, 908, 911, 929, 937, 943, 969, 974, 1103, 470, 7841, 7853, 8486, 8491, 4370, 4469, 4546, 55203]
def knAny (c : Int) : Bool := (List.range 26).any fun t => inB c (knF.getD t 0) (knT.getD t 0)
def knB (c : Int) : Bool := knAny c && c != 47

theorem knAny_yes (c : Int) (t : Nat) (ht : t < 26) (h : inB c (knF.getD t 0) (knT.getD t 0) = true) : knAny c = true :=
  List.any_eq_true.2 ⟨t, List.mem_range.2 ht, h⟩
theorem knAny_no (c : Int) (h : ∀ t, t < 26 → inB c (knF.getD t 0) (knT.getD t 0) = false) : knAny c = false := by
  cases e : knAny c with
  | false => rfl
  | true =>
    obtain ⟨t, ht, h'⟩ := List.any_eq_true.1 e
    rw [h t (List.mem_range.1 ht)] at h'
    exact h'.symm

theorem lits_two (w : World) (cs ds : Array Value) (l m : List Int) (n g : Nat) (hcs : cs.toList = intsV l) (hn : l.length = n) (hds : ds.toList = intsV m) (hm : m.length = n) (hl : n ≤ 1000) (hg : g = w.heap.size + 1) :
    (∀ t, t < n → ((w.alloc (.cells cs 3)).alloc (.cells ds 3)).cell? ⟨w.heap.size, t, none⟩ = some (.int .i64 (l.getD t 0))) ∧
    (∀ t, t < n → ((w.alloc (.cells cs 3)).alloc (.cells ds 3)).cell? ⟨g, t, none⟩ = some (.int .i64 (m.getD t 0))) ∧
    Below w.heap.size w ((w.alloc (.cells cs 3)).alloc (.cells ds 3)) ∧ ((w.alloc (.cells cs 3)).alloc (.cells ds 3)).heap.size = w.heap.size + 2 := by
  have h1 := lit_at w cs l n hcs hn hl
  have h2 := lit_at (w.alloc (.cells cs 3)) ds m n hds hm hl
  have hb := below_lit w (.cells cs 3)
  have hb2 := below_lit (w.alloc (.cells cs 3)) (.cells ds 3)
  have h1' := h1.below hb2
  have e : (w.alloc (.cells cs 3)).heap.size = w.heap.size + 1 := by simp
  rw [e] at h2
  subst hg
  have f1 : ∀ t, t < n → ((w.alloc (.cells cs 3)).alloc (.cells ds 3)).cell? ⟨w.heap.size, t, none⟩ = some (.int .i64 (l.getD t 0)) := fun t ht => by
    unfold IntRow at h1'; rw [hn] at h1'
    rw [World.ownsRow.cellAt h1' t (by omega)]; exact intsV_get l t (by omega)
  have f2 : ∀ t, t < n → ((w.alloc (.cells cs 3)).alloc (.cells ds 3)).cell? ⟨w.heap.size + 1, t, none⟩ = some (.int .i64 (m.getD t 0)) := fun t ht => by
    unfold IntRow at h2; rw [hm] at h2
    rw [World.ownsRow.cellAt h2 t (by omega)]; exact intsV_get m t (by omega)
  exact ⟨f1, f2, hb.trans (hb2.mono (by simp)), by simp⟩

theorem in_val (x l h : Int) (b : Bool) (hb : inB x l h = b) (w : World) :
    Calls Tryd.prog 29 #[.int .i64 x, .int .i64 l, .int .i64 h] w fun e w' => e = .returned (.bool b) ∧ w' = w :=
  (in_any _ _ _ _).mono fun _ _ h => ⟨by rw [h.1, hb], h.2.symm⟩

set_option maxRecDepth 100000 in
set_option maxHeartbeats 1000000 in
theorem sKnown (c : Int) (w : World) :
    Calls Tryd.prog 32 #[.int .i64 c] w fun e w' => e = .returned (.bool (knB c)) ∧ Below w.heap.size w w' := by
  have HY := fun t ht h => knAny_yes c t ht h
  have HN := knAny_no c
  have HR : Hid (knB c = (knAny c && c != 47)) := rfl
  generalize knAny c = r at HY HN HR
  generalize knB c = q at HR ⊢
  go_enter Tryd.func32, Tryd.ntmps32
  go_wp2
  obtain ⟨f1, f2, hb0, hs0⟩ := lits_two w #[.int .i64 32, .int .i64 161, .int .i64 768, .int .i64 776, .int .i64 778, .int .i64 803, .int .i64 807, .int .i64 902, .int .i64 904, .int .i64 908, .int .i64 910, .int .i64 913, .int .i64 931, .int .i64 940, .int .i64 945, .int .i64 972, .int .i64 1040, .int .i64 469, .int .i64 7840, .int .i64 7852, .int .i64 8486, .int .i64 8491, .int .i64 4352, .int .i64 4449, .int .i64 4520, .int .i64 44032]
    #[.int .i64 126, .int .i64 255, .int .i64 772, .int .i64 776, .int .i64 778, .int .i64 803, .int .i64 807, .int .i64 902, .int .i64 906, .int .i64 908, .int .i64 911, .int .i64 929, .int .i64 937, .int .i64 943, .int .i64 969, .int .i64 974, .int .i64 1103, .int .i64 470, .int .i64 7841, .int .i64 7853, .int .i64 8486, .int .i64 8491, .int .i64 4370, .int .i64 4469, .int .i64 4546, .int .i64 55203]
    knF knT 26 _ rfl rfl rfl rfl (by decide) rfl
  generalize (w.alloc (.cells #[.int .i64 32, .int .i64 161, .int .i64 768, .int .i64 776, .int .i64 778, .int .i64 803, .int .i64 807, .int .i64 902, .int .i64 904, .int .i64 908, .int .i64 910, .int .i64 913, .int .i64 931, .int .i64 940, .int .i64 945, .int .i64 972, .int .i64 1040, .int .i64 469, .int .i64 7840, .int .i64 7852, .int .i64 8486, .int .i64 8491, .int .i64 4352, .int .i64 4449, .int .i64 4520, .int .i64 44032] 3)).alloc (.cells #[.int .i64 126, .int .i64 255, .int .i64 772, .int .i64 776, .int .i64 778, .int .i64 803, .int .i64 807, .int .i64 902, .int .i64 906, .int .i64 908, .int .i64 911, .int .i64 929, .int .i64 937, .int .i64 943, .int .i64 969, .int .i64 974, .int .i64 1103, .int .i64 470, .int .i64 7841, .int .i64 7853, .int .i64 8486, .int .i64 8491, .int .i64 4370, .int .i64 4469, .int .i64 4546, .int .i64 55203] 3) = w2 at f1 f2 hb0 hs0 ⊢
  go_loopw [5] (fun i wr => ∃ k : Nat, k ≤ 26 ∧ i = .int .i64 k ∧ (∀ t, t < k → inB c (knF.getD t 0) (knT.getD t 0) = false) ∧ Below w2.heap.size w2 wr) (fun i _ => 26 - (intOf i).toNat)
  case atStart => exact ⟨0, Nat.zero_le _, rfl, fun t ht => by omega, Below.refl _ _⟩
  case round =>
    obtain ⟨k, hk, rfl, hne, hbel⟩ := hrel
    by_cases hlt : k < 26
    · have hc1 := (hbel.cell (p := ⟨w.heap.size, k, none⟩) (by show w.heap.size < _; omega)).trans (f1 k hlt)
      have hc2 := (hbel.cell (p := ⟨w.heap.size + 1, k, none⟩) (by show w.heap.size + 1 < _; omega)).trans (f2 k hlt)
      have HK : Hid (inB c (knF.getD k 0) (knT.getD k 0) = true → r = true) := HY k hlt
      obtain ⟨x, HX⟩ : ∃ x, Hid (x = knF.getD k 0) := ⟨_, rfl⟩
      obtain ⟨y, HY2⟩ : ∃ y, Hid (y = knT.getD k 0) := ⟨_, rfl⟩
      rw [← HX.out] at hc1 HK
      rw [← HY2.out] at hc2 HK
      have hkn : (k : Int) < 26 := by omega
      have hk0 : (0 : Int) ≤ (k : Int) := by omega
      have HB1 : Hid (Below w.heap.size w wr) := hb0.trans (hbel.mono (by omega))
      cases hin : inB c x y
      · go_wp2
        go_quiet ((go_at_call 29; exact Calls.quiet_of_same (in_val c x y _ hin _)))
        go_wp2
        go_roundw
        case rel => exact ⟨k + 1, by omega, by go_num, fun t ht => by
          by_cases htk : t < k
          · exact hne t htk
          · obtain rfl : t = k := by omega
            rw [← HX.out, ← HY2.out]; exact hin, below_drewN hbel _⟩
        case measure => simp [intOf]; omega
      · obtain rfl := HK.out hin
        go_wp2
        go_quiet ((go_at_call 29; exact Calls.quiet_of_same (in_val c x y _ hin _)))
        go_wp2
        go_ret
        exact ⟨by rw [HR.out]; rfl, below_drewN HB1.out _⟩
    · obtain rfl : k = 26 := by omega
      obtain rfl := HN hne
      have HB1 : Hid (Below w.heap.size w wr) := hb0.trans (hbel.mono (by omega))
      go_wp2
      go_ret
      exact ⟨by rw [HR.out]; rfl, HB1.out⟩

end Go.Proofs.YtkgnlamlmnhleaaDoor
