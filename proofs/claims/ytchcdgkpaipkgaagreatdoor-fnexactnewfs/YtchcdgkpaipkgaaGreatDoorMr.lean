/- Directories: spec.l5Less, l5At, l5Copy: what they answer. Directories: spec.DirOk: what it answers. Directories: spec.Look: what it answers. Directories: spec.Next: what it answers. -/
import Derived.Test.YtchcdgkpaipkgaaGreatDoorRows
import Derived.Test.YtchcdgkpaipkgaaGreatDoorMq
import Derived.Test.YtchcdgkpaipkgaaGreatDoorMp
import Derived.Test.YtchcdgkpaipkgaaGreatDoorMm
import Derived.WalkKit
import Derived.WalkSpells
import Derived.WalkLawsBesides
import Derived.Lib.QuietBelow
import Derived.BigQuiet
import Derived.Laws.ResultCell
namespace Go.Proofs.YtchcdgkpaipkgaaGreatDoor

section
open Go.RowKit

/-- an entry as a value -/
def aggE (e : En) : Value := .agg #[.int .i64 e.hash, .int .i64 e.index, .string e.name, .int .i64 e.id]


def atZ (d : List En) (s : ByteArray) : Int := match atN d s with | some i => (i : Int) | none => -1
theorem atZ_some {d : List En} {s : ByteArray} {i : Nat} (h : atN d s = some i) : atZ d s = (i : Int) := by unfold atZ; rw [h]
theorem atZ_none {d : List En} {s : ByteArray} (h : atN d s = none) : atZ d s = -1 := by unfold atZ; rw [h]

/-- names of entries that are short enough -/
def Shorts (d : List En) : Prop := ∀ e ∈ d, e.name.size ≤ 1048576
theorem Shorts.at {d : List En} (h : Shorts d) {i : Nat} (hi : i < d.length) : d[i]!.name.size ≤ 1048576 := by
  rw [getElem!_pos d i hi]; exact h _ (List.getElem_mem hi)
end

section
open Go.RowKit Go.Sort



theorem inS_any (x a b : Int) (w : World) (d : Nat) (os : Array Obj) :
    Calls Tryz.prog 41 #[.int .i64 x, .int .i64 a, .int .i64 b] (grow (redrawn w d) os) fun e w'' => e = .returned (.bool (inB x a b)) ∧ ∃ p : Regrown, w'' = grow (redrawn w p.d) p.os :=
  Calls.regrown_of ((in_any x a b _).mono fun e w' h => ⟨h.1, by rw [← h.2]; exact Below.refl _ _⟩)


theorem new_cells (w : World) (h i : Int) (s : ByteArray) (d : Int) : CellsE (w.alloc (.cells #[.int .i64 h, .int .i64 i, .string s, .int .i64 d] 66)) w.heap.size 0 ⟨h, i, s, d⟩ := by
  refine ⟨?_, ?_, ?_, ?_⟩ <;> rw [World.cell?_alloc_mark] <;> rfl
theorem entB_in (e : En) : entB e = ((nameL e.name).isSome && decide (e.hash = hashN e.name) && inB e.index 0 12 && inB e.id 1 100000) := rfl

/-- what a right row has at each place -/
theorem dirB_at {d : List En} (h : dirB d = true) {k : Nat} (hk : k < d.length) : entB d[k]! = true ∧ (k = 0 ∨ lessB d[k - 1]! d[k]!.hash d[k]!.index = true) ∧ (∀ t, t < k → alikeB d[t]!.name d[k]!.name = false) :=
  ((right_take hk).1 (right_part (dirB_iff.1 h).toRightP (k + 1))).2
end

section
open Go.RowKit

/-- an entry's block written anew -/
theorem put_cells (w : World) (g : Nat) (T : TypeId) (a0 a1 a2 a3 x0 x1 x2 x3 : Value) (h : w.heap[g]? = some (.cells #[a0, a1, a2, a3] T (0, 0))) :
    ((((w.setCell ⟨g, 0, none⟩ x0).setCell ⟨g, 1, none⟩ x1).setCell ⟨g, 2, none⟩ x2).setCell ⟨g, 3, none⟩ x3).heap[g]? = some (.cells #[x0, x1, x2, x3] T (0, 0)) := by
  have h1 := Go.heap_setCell_same w g 0 _ _ x0 h
  have h2 := Go.heap_setCell_same _ g 1 _ _ x1 h1
  have h3 := Go.heap_setCell_same _ g 2 _ _ x2 h2
  exact Go.heap_setCell_same _ g 3 _ _ x3 h3

theorem results_ent {fn : Func} {p u : Tmp} (h : fn.results = #[.cell p 66, .tmp u]) (tmps : Array Value) (w : World) (g : Nat) (cs : Array Value) (hc : cs.size = 4)
    (hp : tmps.getD p undef = .pointer (some ⟨g, 0, none⟩)) (hg : w.heap[g]? = some (.cells cs 66 (0, 0))) :
    (results fn tmps).run Tryz.prog w = .ok (.tuple #[.agg cs, tmps.getD u undef]) w := by
  have hi : (Tryz.prog.info? 66).map (·.size) = some cs.size := by rw [hc]; kernel_rfl
  have hr := run_loadVar_row (P := Tryz.prog) w g 66 66 cs (0, 0) _ hg Tryz.underlying66 rfl hi
  have hp' : tmps[p]?.getD undef = .pointer (some ⟨g, 0, none⟩) := by simpa using hp
  simp [results, h, hp', asAddr, hr]

/-- a block that holds an entry: its cells, and that they may be written -/
theorem block_cells {w : World} {g : Nat} {T : TypeId} {a0 a1 a2 a3 : Value} (h : w.heap[g]? = some (.cells #[a0, a1, a2, a3] T (0, 0))) :
    ((w.cell? ⟨g, 0, none⟩ = some a0 ∧ w.cell? ⟨g, 1, none⟩ = some a1) ∧ w.cell? ⟨g, 2, none⟩ = some a2 ∧ w.cell? ⟨g, 3, none⟩ = some a3) ∧ (w.frozen? ⟨g, 0, none⟩ = false ∧ w.frozen? ⟨g, 1, none⟩ = false) ∧ w.frozen? ⟨g, 2, none⟩ = false ∧ w.frozen? ⟨g, 3, none⟩ = false := by
  refine ⟨⟨⟨?_, ?_⟩, ?_, ?_⟩, ⟨?_, ?_⟩, ?_, ?_⟩
  · rw [cell_of_row w g 0 _ _ (0, 0) h]; rfl
  · rw [cell_of_row w g 1 _ _ (0, 0) h]; rfl
  · rw [cell_of_row w g 2 _ _ (0, 0) h]; rfl
  · rw [cell_of_row w g 3 _ _ (0, 0) h]; rfl
  · exact frozen_of_row w g 0 _ _ h
  · exact frozen_of_row w g 1 _ _ h
  · exact frozen_of_row w g 2 _ _ h
  · exact frozen_of_row w g 3 _ _ h
theorem below_put {B g : Nat} {w w' : World} (h : Below B w w') (hg : B ≤ g) (x0 x1 x2 x3 : Value) : Below B w ((((w'.setCell ⟨g, 0, none⟩ x0).setCell ⟨g, 1, none⟩ x1).setCell ⟨g, 2, none⟩ x2).setCell ⟨g, 3, none⟩ x3) :=
  (((h.setCell hg _).setCell hg _).setCell hg _).setCell hg _
end

section
open Go.RowKit

theorem nextN_at {d : List En} (hr : Right d) {h k : Int} {i : Nat} (hi : i < d.length) (hb : ∀ t, t < i → behB d[t]! h k = false) (ha : behB d[i]! h k = true) : nextN d h k = (d[i]!, true) := by
  unfold nextN; rw [if_pos (dirB_iff.2 hr), find_at hi hb ha]
theorem nextN_no {d : List En} (hr : Right d) {h k : Int} (hb : ∀ t, t < d.length → behB d[t]! h k = false) : nextN d h k = (default, false) := by
  unfold nextN; rw [if_pos (dirB_iff.2 hr), find_no hb]
end

end Go.Proofs.YtchcdgkpaipkgaaGreatDoor
