/- Signs: the tables of spec.Parts. -/
import Derived.Test.YtkgnlamlmnhleaaDoorRows
import Derived.Test.YtkgnlamlmnhleaaDoorPrt
namespace Go.Proofs.YtkgnlamlmnhleaaDoor
open Go.RowKit

theorem heap_alloc_if (w : World) (o : Obj) (i : Nat) : (w.alloc o).heap[i]? = if i = w.heap.size then some o else w.heap[i]? := by
  show (w.heap.push o)[i]? = _
  rw [Array.getElem?_push]

theorem heap_size_alloc (w : World) (o : Obj) : (w.alloc o).heap.size = w.heap.size + 1 := by simp

def prR : Nat → List Int
  | 0 => [192, 200, 204, 210, 217, 224, 232, 236, 242, 249]
  | 1 => [193, 201, 205, 211, 218, 221, 225, 233, 237, 243, 250, 253]
  | 2 => [194, 202, 206, 212, 219, 226, 234, 238, 244, 251]
  | 3 => [195, 209, 213, 227, 241, 245]
  | 4 => [196, 203, 207, 214, 220, 228, 235, 239, 246, 252, 255]
  | 5 => [197, 229]
  | 6 => [199, 231]
  | _ => [7840, 7841]
def prS : Nat → ByteArray
  | 0 => ⟨#[65, 69, 73, 79, 85, 97, 101, 105, 111, 117]⟩
  | 1 => ⟨#[65, 69, 73, 79, 85, 89, 97, 101, 105, 111, 117, 121]⟩
  | 2 => ⟨#[65, 69, 73, 79, 85, 97, 101, 105, 111, 117]⟩
  | 3 => ⟨#[65, 78, 79, 97, 110, 111]⟩
  | 4 => ⟨#[65, 69, 73, 79, 85, 97, 101, 105, 111, 117, 121]⟩
  | 5 => ⟨#[65, 97]⟩
  | 6 => ⟨#[67, 99]⟩
  | _ => ⟨#[65, 97]⟩
def prM : List Int := [768, 769, 770, 771, 776, 778, 807, 803]

theorem prR_le : ∀ t, t < 8 → (prR t).length ≤ (prS t).size ∧ (prR t).length ≤ 12 := by decide

/-- the tables lie in the blocks from w's size on -/
def PrtTab (w wr : World) : Prop :=
  w.heap.size + 11 ≤ wr.heap.size ∧ Below w.heap.size w wr ∧ ∀ t, t < 8 →
    wr.cell? ⟨w.heap.size + 8, t, none⟩ = some (.slice (some ⟨w.heap.size + t, 0, none⟩) (prR t).length (prR t).length) ∧
    IntsAt wr (.slice (some ⟨w.heap.size + t, 0, none⟩) (prR t).length (prR t).length) (prR t) ∧
    wr.cell? ⟨w.heap.size + 9, t, none⟩ = some (.string (prS t)) ∧
    wr.cell? ⟨w.heap.size + 10, t, none⟩ = some (.int .i64 (prM.getD t 0))

theorem PrtTab.below {w wr w' : World} (h : PrtTab w wr) (b : Below wr.heap.size wr w') : PrtTab w w' := by
  refine ⟨Nat.le_trans h.1 b.size, h.2.1.trans (b.mono (by have := h.1; omega)), fun t ht => ?_⟩
  obtain ⟨h1, h2, h3, h4⟩ := h.2.2 t ht
  have hs := h.1
  exact ⟨(b.cell (p := ⟨w.heap.size + 8, t, none⟩) (by show w.heap.size + 8 < _; omega)).trans h1, h2.below b,
    (b.cell (p := ⟨w.heap.size + 9, t, none⟩) (by show w.heap.size + 9 < _; omega)).trans h3, (b.cell (p := ⟨w.heap.size + 10, t, none⟩) (by show w.heap.size + 10 < _; omega)).trans h4⟩

/-- a block of integers reads as them -/
theorem ints_of_block {w : World} {g : Nat} {cs : Array Value} {l : List Int} (h : w.heap[g]? = some (.cells cs 3 (0, 0))) (hc : cs.toList = intsV l) : IntsAt w (.slice (some ⟨g, 0, none⟩) l.length l.length) l := by
  refine ⟨some ⟨g, 0, none⟩, l.length, rfl, fun t ht => ⟨g, 0, rfl, lt_of_block h, ?_⟩⟩
  rw [Nat.zero_add, cell_of_row w g t cs 3 (0, 0) h, ← Array.getElem?_toList, hc]
  exact intsV_get l t ht

def prtRows (g : Nat) : Array Value := #[.slice (some ⟨g, 0, none⟩) 10 10, .slice (some ⟨g + 1, 0, none⟩) 12 12, .slice (some ⟨g + 2, 0, none⟩) 10 10, .slice (some ⟨g + 3, 0, none⟩) 6 6, .slice (some ⟨g + 4, 0, none⟩) 11 11, .slice (some ⟨g + 5, 0, none⟩) 2 2, .slice (some ⟨g + 6, 0, none⟩) 2 2, .slice (some ⟨g + 7, 0, none⟩) 2 2]
def prtStrs : Array Value := #[.string (prS 0), .string (prS 1), .string (prS 2), .string (prS 3), .string (prS 4), .string (prS 5), .string (prS 6), .string (prS 7)]

theorem prtRows_get (g t : Nat) (ht : t < 8) : (prtRows g)[t]? = some (.slice (some ⟨g + t, 0, none⟩) (prR t).length (prR t).length) := by
  match t, ht with
  | 0, _ => rfl
  | 1, _ => rfl
  | 2, _ => rfl
  | 3, _ => rfl
  | 4, _ => rfl
  | 5, _ => rfl
  | 6, _ => rfl
  | 7, _ => rfl
theorem prtStrs_get (t : Nat) (ht : t < 8) : prtStrs[t]? = some (.string (prS t)) := by
  match t, ht with
  | 0, _ => rfl
  | 1, _ => rfl
  | 2, _ => rfl
  | 3, _ => rfl
  | 4, _ => rfl
  | 5, _ => rfl
  | 6, _ => rfl
  | 7, _ => rfl

theorem prt_tab (w w' : World) (c0 c1 c2 c3 c4 c5 c6 c7 rs ss ms : Array Value) (TR TS : TypeId)
    (h0 : c0.toList = intsV (prR 0)) (h1 : c1.toList = intsV (prR 1)) (h2 : c2.toList = intsV (prR 2)) (h3 : c3.toList = intsV (prR 3)) (h4 : c4.toList = intsV (prR 4)) (h5 : c5.toList = intsV (prR 5)) (h6 : c6.toList = intsV (prR 6)) (h7 : c7.toList = intsV (prR 7))
    (hr : rs = prtRows w.heap.size) (hs : ss = prtStrs) (hm : ms.toList = intsV prM)
    (hw : w' = ((((((((((w.alloc (.cells c0 3)).alloc (.cells c1 3)).alloc (.cells c2 3)).alloc (.cells c3 3)).alloc (.cells c4 3)).alloc (.cells c5 3)).alloc (.cells c6 3)).alloc (.cells c7 3)).alloc (.cells rs TR)).alloc (.cells ss TS)).alloc (.cells ms 3)) :
    PrtTab w w' := by
  have hsz : w'.heap.size = w.heap.size + 11 := by rw [hw]; simp
  have hB : Below w.heap.size w w' := by
    rw [hw]
    have e := Below.refl w.heap.size w
    exact ((((((((((e.alloc (by simp) _).alloc (by simp) _).alloc (by simp; omega) _).alloc (by simp; omega) _).alloc (by simp; omega) _).alloc (by simp; omega) _).alloc (by simp; omega) _).alloc (by simp; omega) _).alloc (by simp; omega) _).alloc (by simp; omega) _).alloc (by simp; omega) _
  have b8 : w'.heap[w.heap.size + 8]? = some (.cells rs TR) := by rw [hw]; simp only [heap_alloc_if, heap_size_alloc]; repeat (first | rw [if_pos trivial] | rw [if_pos (by omega)] | rw [if_neg (by omega)])
  have b9 : w'.heap[w.heap.size + 9]? = some (.cells ss TS) := by rw [hw]; simp only [heap_alloc_if, heap_size_alloc]; repeat (first | rw [if_pos trivial] | rw [if_pos (by omega)] | rw [if_neg (by omega)])
  have b10 : w'.heap[w.heap.size + 10]? = some (.cells ms 3) := by rw [hw]; simp only [heap_alloc_if, heap_size_alloc]; repeat (first | rw [if_pos trivial] | rw [if_pos (by omega)] | rw [if_neg (by omega)])
  have hI : ∀ t, t < 8 → IntsAt w' (.slice (some ⟨w.heap.size + t, 0, none⟩) (prR t).length (prR t).length) (prR t) := by
    intro t ht
    match t, ht with
    | 0, _ => exact ints_of_block (by rw [hw]; simp only [heap_alloc_if, heap_size_alloc]; repeat (first | rw [if_pos trivial] | rw [if_pos (by omega)] | rw [if_neg (by omega)])) h0
    | 1, _ => exact ints_of_block (by rw [hw]; simp only [heap_alloc_if, heap_size_alloc]; repeat (first | rw [if_pos trivial] | rw [if_pos (by omega)] | rw [if_neg (by omega)])) h1
    | 2, _ => exact ints_of_block (by rw [hw]; simp only [heap_alloc_if, heap_size_alloc]; repeat (first | rw [if_pos trivial] | rw [if_pos (by omega)] | rw [if_neg (by omega)])) h2
    | 3, _ => exact ints_of_block (by rw [hw]; simp only [heap_alloc_if, heap_size_alloc]; repeat (first | rw [if_pos trivial] | rw [if_pos (by omega)] | rw [if_neg (by omega)])) h3
    | 4, _ => exact ints_of_block (by rw [hw]; simp only [heap_alloc_if, heap_size_alloc]; repeat (first | rw [if_pos trivial] | rw [if_pos (by omega)] | rw [if_neg (by omega)])) h4
    | 5, _ => exact ints_of_block (by rw [hw]; simp only [heap_alloc_if, heap_size_alloc]; repeat (first | rw [if_pos trivial] | rw [if_pos (by omega)] | rw [if_neg (by omega)])) h5
    | 6, _ => exact ints_of_block (by rw [hw]; simp only [heap_alloc_if, heap_size_alloc]; repeat (first | rw [if_pos trivial] | rw [if_pos (by omega)] | rw [if_neg (by omega)])) h6
    | 7, _ => exact ints_of_block (by rw [hw]; simp only [heap_alloc_if, heap_size_alloc]; repeat (first | rw [if_pos trivial] | rw [if_pos (by omega)] | rw [if_neg (by omega)])) h7
  refine ⟨by omega, hB, fun t ht => ⟨?_, hI t ht, ?_, ?_⟩⟩
  · rw [cell_of_row w' _ t rs TR (0, 0) b8, hr]; exact prtRows_get _ t ht
  · rw [cell_of_row w' _ t ss TS (0, 0) b9, hs]; exact prtStrs_get t ht
  · rw [cell_of_row w' _ t ms 3 (0, 0) b10, ← Array.getElem?_toList, hm]; exact intsV_get prM t ht

end Go.Proofs.YtkgnlamlmnhleaaDoor
