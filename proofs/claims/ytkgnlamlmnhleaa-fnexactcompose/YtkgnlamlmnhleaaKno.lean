/- Signs: spec.Known. -/
import Derived.Test.YtkgnlamlmnhleaaRows
import Derived.Test.YtkgnlamlmnhleaaSgn
import Derived.Deep.QuietTactic
import Derived.BigQuiet
namespace Go.Proofs.Ytkgnlamlmnhleaa
open Go.RowKit

def knF : List Int := [32, 161, 768, 776, 778, 803, 807, 902, 904, 908, 910, 913, 931, 940, 945, 972, 1040, 469, 7840, 7852, 8486, 8491, 4352, 4449, 4520, 44032]
def knT : List Int := [126, 255, 772, 776, 778, 803, 807, 902, 906, 908, 911, 929, 937, 943, 969, 974, 1103, 470, 7841, 7853, 8486, 8491, 4370, 4469, 4546, 55203]
def knAny (c : Int) : Bool := (List.range 26).any fun t => inB c (knF.getD t 0) (knT.getD t 0)
def knB (c : Int) : Bool := knAny c && c != 47

theorem knAny_yes (c : Int) (t : Nat) (ht : t < 26) (h : inB c (knF.getD t 0) (knT.getD t 0) = true) : knAny c = true :=
  List.any_eq_true.2 ⟨t, List.mem_range.2 ht, h⟩
theorem knAny_no (c : Int) (h : ∀ t, t < 26 → inB c (knF.getD t 0) (knT.getD t 0) = false) : knAny c = false := by
  cases e : knAny c with
  | false => rfl
  | true =>
    obtain ⟨t, ht, h'⟩ := List.any_eq_true.1 e
    rw [h t (List.mem_range.1 ht)] at h'
    exact h'.symm

theorem lits_two (w : World) (cs ds : Array Value) (l m : List Int) (n g : Nat) (hcs : cs.toList = intsV l) (hn : l.length = n) (hds : ds.toList = intsV m) (hm : m.length = n) (hl : n ≤ 1000) (hg : g = w.heap.size + 1) :
    (∀ t, t < n → ((w.alloc (.cells cs 3)).alloc (.cells ds 3)).cell? ⟨w.heap.size, t, none⟩ = some (.int .i64 (l.getD t 0))) ∧
    (∀ t, t < n → ((w.alloc (.cells cs 3)).alloc (.cells ds 3)).cell? ⟨g, t, none⟩ = some (.int .i64 (m.getD t 0))) ∧
    Below w.heap.size w ((w.alloc (.cells cs 3)).alloc (.cells ds 3)) ∧ ((w.alloc (.cells cs 3)).alloc (.cells ds 3)).heap.size = w.heap.size + 2 := by
  have h1 := lit_at w cs l n hcs hn hl
  have h2 := lit_at (w.alloc (.cells cs 3)) ds m n hds hm hl
  have hb := below_lit w (.cells cs 3)
  have hb2 := below_lit (w.alloc (.cells cs 3)) (.cells ds 3)
  have h1' := h1.below hb2
  have e : (w.alloc (.cells cs 3)).heap.size = w.heap.size + 1 := by simp
  rw [e] at h2
  subst hg
  have f1 : ∀ t, t < n → ((w.alloc (.cells cs 3)).alloc (.cells ds 3)).cell? ⟨w.heap.size, t, none⟩ = some (.int .i64 (l.getD t 0)) := fun t ht => by
    unfold IntRow at h1'; rw [hn] at h1'
    rw [World.ownsRow.cellAt h1' t (by omega)]; exact intsV_get l t (by omega)
  have f2 : ∀ t, t < n → ((w.alloc (.cells cs 3)).alloc (.cells ds 3)).cell? ⟨w.heap.size + 1, t, none⟩ = some (.int .i64 (m.getD t 0)) := fun t ht => by
    unfold IntRow at h2; rw [hm] at h2
    rw [World.ownsRow.cellAt h2 t (by omega)]; exact intsV_get m t (by omega)
  exact ⟨f1, f2, hb.trans (hb2.mono (by simp)), by simp⟩

theorem in_val (x l h : Int) (b : Bool) (hb : inB x l h = b) (w : World) :
    Calls Try.prog 28 #[.int .i64 x, .int .i64 l, .int .i64 h] w fun e w' => e = .returned (.bool b) ∧ w' = w :=
  (in_any _ _ _ _).mono fun _ _ h => ⟨by rw [h.1, hb], h.2.symm⟩

end Go.Proofs.Ytkgnlamlmnhleaa
