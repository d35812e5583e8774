/- Volumes: spec.NewVol, impl.NewVol; the walk of laws.FnExactNewVol. -/
import Derived.Test.YtchcdgkpaipkgaaGreatDoorRows
import Derived.Test.YtchcdgkpaipkgaaGreatDoorNa
namespace Go.Proofs.YtchcdgkpaipkgaaGreatDoor
open Go.RowKit Go.Sort

/-- a boxed pair and all that was there before it -/
theorem box_two {w wr : World} {a u : Value} {T : TypeId} (hb : Below (w.heap.size + 1) (w.alloc (.cells #[a, u] T)) wr) : wr.cell? ⟨w.heap.size, 0, none⟩ = some a ∧ wr.cell? ⟨w.heap.size, 1, none⟩ = some u := by
  have key : ∀ j : Nat, wr.cell? ⟨w.heap.size, j, none⟩ = (w.alloc (.cells #[a, u] T)).cell? ⟨w.heap.size, j, none⟩ := fun j => hb.cell (p := ⟨w.heap.size, j, none⟩) (by show w.heap.size < _; omega)
  constructor <;> rw [key, World.cell?_alloc_mark] <;> rfl
/-- the one inode of a new volume -/
def rootI : Ino := ⟨1, 2, 1, ⟨#[]⟩, []⟩
theorem root_row (w : World) (base : Nat) (hb : base ≤ w.heap.size) : InoRow (w.alloc (.cells #[.int .i64 1, .int .i64 2, .int .i64 1, .string ⟨#[]⟩, .slice none 0 0] 50)) base (.slice (some ⟨w.heap.size, 0, none⟩) 1 1) [(rootI, .slice none 0 0)] := by
  refine ⟨World.ownsRow_lit (base := base) (e := 50) (size := 5) w #[.int .i64 1, .int .i64 2, .int .i64 1, .string ⟨#[]⟩, .slice none 0 0] 1 hb (by unfold maxLen; omega) rfl, fun t ht => ?_, List.pairwise_singleton _ _⟩
  obtain rfl : t = 0 := by simpa using ht
  exact ⟨rfl, .inl ⟨rfl, rfl⟩⟩

set_option maxRecDepth 100000 in
theorem sNewVol (w : World) : Calls Tryz.prog 11 #[] w fun e w' => ∃ g, e = .returned (.agg #[.int .i64 2, .slice (some ⟨g, 0, none⟩) 1 1]) ∧ InoRow w' w.heap.size (.slice (some ⟨g, 0, none⟩) 1 1) [(rootI, .slice none 0 0)] ∧ Below w.heap.size w w' := by
  go_enter Tryz.func11, Tryz.ntmps11
  go_wp2
  refine bodyPost_ret (v := .agg #[.int .i64 2, .slice (some ⟨w.heap.size + 1, 0, none⟩) 1 1]) (by simp [results, Tryz.results11, go_sem]) rfl ⟨w.heap.size + 1, rfl, ?_, ?_⟩
  · have := root_row (w.alloc (.cells #[.int .i64 2, .slice (some ⟨w.heap.size + 1, 0, none⟩) 1 1] 24)) w.heap.size (by simp)
    simpa using this
  · refine (below_lit w _).alloc ?_ _; simp

set_option maxRecDepth 100000 in
theorem iNewVol (w : World) : Calls Tryz.prog 13 #[] w fun e w' => ∃ g, e = .returned (.agg #[.int .i64 2, .slice (some ⟨g, 0, none⟩) 1 1]) ∧ InoRow w' w.heap.size (.slice (some ⟨g, 0, none⟩) 1 1) [(rootI, .slice none 0 0)] ∧ Below w.heap.size w w' := by
  go_enter Tryz.func13, Tryz.ntmps13
  go_wp2
  refine bodyPost_ret (v := .agg #[.int .i64 2, .slice (some ⟨w.heap.size + 1, 0, none⟩) 1 1]) (by simp [results, Tryz.results13, go_sem]) rfl ⟨w.heap.size + 1, rfl, ?_, ?_⟩
  · have := root_row (w.alloc (.cells #[.int .i64 2, .slice (some ⟨w.heap.size + 1, 0, none⟩) 1 1] 24)) w.heap.size (by simp)
    simpa using this
  · refine (below_lit w _).alloc ?_ _; simp

theorem one_short : ∀ y ∈ [rootI], y.ents.length ≤ 1048577 := fun y hy => by rw [List.mem_singleton.1 hy]; decide
theorem num_root : numI 1 [(rootI, .slice none 0 0)] 1 = 5 := rfl
theorem root_top (top : Nat) : ∀ t q, t < [(rootI, Value.slice none 0 0)].length → ([(rootI, Value.slice none 0 0)][t]!).2.ownBlock = some q → q < top := fun t q ht hq => by
  obtain rfl : t = 0 := by simpa using ht
  cases hq
theorem short_root : ∀ t, t < [(rootI, Value.slice none 0 0)].length → ([(rootI, Value.slice none 0 0)][t]!).1.ents.length ≤ 1048577 := fun t ht => by
  obtain rfl : t = 0 := by simpa using ht
  decide

end Go.Proofs.YtchcdgkpaipkgaaGreatDoor
