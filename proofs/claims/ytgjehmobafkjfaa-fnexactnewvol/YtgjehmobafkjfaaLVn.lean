/- Volumes: spec.NewVol, impl.NewVol; the walk of laws.FnExactNewVol. -/
import Derived.Test.YtgjehmobafkjfaaRows
import Derived.Test.YtgjehmobafkjfaaLVm
import Derived.Test.YtgjehmobafkjfaaLVa
namespace Go.Proofs.Ytgjehmobafkjfaa
open Go.RowKit Go.Sort

/-- a boxed pair and all that was there before it -/
theorem box_two {w wr : World} {a u : Value} {T : TypeId} (hb : Below (w.heap.size + 1) (w.alloc (.cells #[a, u] T)) wr) : wr.cell? ⟨w.heap.size, 0, none⟩ = some a ∧ wr.cell? ⟨w.heap.size, 1, none⟩ = some u := by
  have key : ∀ j : Nat, wr.cell? ⟨w.heap.size, j, none⟩ = (w.alloc (.cells #[a, u] T)).cell? ⟨w.heap.size, j, none⟩ := fun j => hb.cell (p := ⟨w.heap.size, j, none⟩) (by show w.heap.size < _; omega)
  constructor <;> rw [key, World.cell?_alloc_mark] <;> rfl
/-- the one inode of a new volume -/
def rootI : Ino := ⟨1, 2, 1, ⟨#[]⟩, []⟩
theorem root_row (w : World) (base : Nat) (hb : base ≤ w.heap.size) : InoRow (w.alloc (.cells #[.int .i64 1, .int .i64 2, .int .i64 1, .string ⟨#[]⟩, .slice none 0 0] 38)) base (.slice (some ⟨w.heap.size, 0, none⟩) 1 1) [(rootI, .slice none 0 0)] := by
  refine ⟨World.ownsRow_lit (base := base) (e := 38) (size := 5) w #[.int .i64 1, .int .i64 2, .int .i64 1, .string ⟨#[]⟩, .slice none 0 0] 1 hb (by unfold maxLen; omega) rfl, fun t ht => ?_, List.pairwise_singleton _ _⟩
  obtain rfl : t = 0 := by simpa using ht
  exact ⟨rfl, .inl ⟨rfl, rfl⟩⟩

set_option maxRecDepth 100000 in
theorem sNewVol (w : World) : Calls Try.prog 5 #[] w fun e w' => ∃ g, e = .returned (.agg #[.int .i64 2, .slice (some ⟨g, 0, none⟩) 1 1]) ∧ InoRow w' w.heap.size (.slice (some ⟨g, 0, none⟩) 1 1) [(rootI, .slice none 0 0)] ∧ Below w.heap.size w w' := by
  go_enter Try.func5, Try.ntmps5
  go_wp2
  refine bodyPost_ret (v := .agg #[.int .i64 2, .slice (some ⟨w.heap.size + 1, 0, none⟩) 1 1]) (by simp [results, Try.results5, go_sem]) rfl ⟨w.heap.size + 1, rfl, ?_, ?_⟩
  · have := root_row (w.alloc (.cells #[.int .i64 2, .slice (some ⟨w.heap.size + 1, 0, none⟩) 1 1] 24)) w.heap.size (by simp)
    simpa using this
  · refine (below_lit w _).alloc ?_ _; simp

set_option maxRecDepth 100000 in
theorem iNewVol (w : World) : Calls Try.prog 6 #[] w fun e w' => ∃ g, e = .returned (.agg #[.int .i64 2, .slice (some ⟨g, 0, none⟩) 1 1]) ∧ InoRow w' w.heap.size (.slice (some ⟨g, 0, none⟩) 1 1) [(rootI, .slice none 0 0)] ∧ Below w.heap.size w w' := by
  go_enter Try.func6, Try.ntmps6
  go_wp2
  refine bodyPost_ret (v := .agg #[.int .i64 2, .slice (some ⟨w.heap.size + 1, 0, none⟩) 1 1]) (by simp [results, Try.results6, go_sem]) rfl ⟨w.heap.size + 1, rfl, ?_, ?_⟩
  · have := root_row (w.alloc (.cells #[.int .i64 2, .slice (some ⟨w.heap.size + 1, 0, none⟩) 1 1] 24)) w.heap.size (by simp)
    simpa using this
  · refine (below_lit w _).alloc ?_ _; simp

theorem one_short : ∀ y ∈ [rootI], y.ents.length ≤ 1048577 := fun y hy => by rw [List.mem_singleton.1 hy]; decide
theorem num_root : numI 1 [(rootI, .slice none 0 0)] 1 = 5 := rfl
theorem root_top (top : Nat) : ∀ t q, t < [(rootI, Value.slice none 0 0)].length → ([(rootI, Value.slice none 0 0)][t]!).2.ownBlock = some q → q < top := fun t q ht hq => by
  obtain rfl : t = 0 := by simpa using ht
  cases hq
theorem short_root : ∀ t, t < [(rootI, Value.slice none 0 0)].length → ([(rootI, Value.slice none 0 0)][t]!).1.ents.length ≤ 1048577 := fun t ht => by
  obtain rfl : t = 0 := by simpa using ht
  decide

set_option maxRecDepth 100000 in
set_option maxHeartbeats 1000000 in
theorem newVol_walk (w : World) : Calls Try.prog 3 #[] w fun e w' => e = .returned (.bool true) ∧ Below w.heap.size w w' := by
  have HEQ : ∀ (g1 g2 : Nat) (w' : World), InosAt w' (.slice (some ⟨g1, 0, none⟩) 1 1) [rootI] → InosAt w' (.slice (some ⟨g2, 0, none⟩) 1 1) [rootI] → Calls Try.prog 7 #[.agg #[.int .i64 2, .slice (some ⟨g1, 0, none⟩) 1 1], .agg #[.int .i64 2, .slice (some ⟨g2, 0, none⟩) 1 1]] w' fun e w'' => e = .returned (.bool true) ∧ Below w'.heap.size w' w'' :=
    fun g1 g2 w' h1 h2 => eqVol_same _ _ ⟨2, [rootI]⟩ w' (by decide) one_short ⟨_, rfl, h1⟩ ⟨_, rfl, h2⟩
  have HMK : ∀ (g base top : Nat) (w' : World), InoRow w' base (.slice (some ⟨g, 0, none⟩) 1 1) [(rootI, .slice none 0 0)] → g < top → Calls Try.prog 8 #[.agg #[.int .i64 2, .slice (some ⟨g, 0, none⟩) 1 1], .int .i64 1] w' fun e w'' => e = .returned (.int .i64 5) ∧ InoRow w'' base (.slice (some ⟨g, 0, none⟩) 1 1) (marksI 1 [(rootI, .slice none 0 0)]) ∧ MidB base top w' w'' :=
    fun g base top w' h1 h2 => markVol_any 2 _ [(rootI, .slice none 0 0)] 1 base top w' h1 (fun q hq => by cases hq; exact h2) (root_top top) (by decide) (by rw [show [(rootI, Value.slice none 0 0)].length = 1 from rfl, num_root]; decide) short_root
  have HHD : ∀ (g : Nat) (w' : World), InosAt w' (.slice (some ⟨g, 0, none⟩) 1 1) ((marksI 1 [(rootI, .slice none 0 0)]).map (·.1)) → Calls Try.prog 9 #[.agg #[.int .i64 2, .slice (some ⟨g, 0, none⟩) 1 1], .int .i64 1] w' fun e w'' => e = .returned (.int .i64 5) ∧ Below w'.heap.size w' w'' :=
    fun g w' h1 => heldVol_marks 2 _ [(rootI, .slice none 0 0)] 1 w' h1 (by decide) (by decide) (by rw [show [(rootI, Value.slice none 0 0)].length = 1 from rfl, num_root]; decide) short_root
  generalize marksI 1 [(rootI, .slice none 0 0)] = mk at HMK HHD
  go_enter Try.func3, Try.ntmps3
  go_wp2_with fail
  refine (sNewVol w).mono ?_
  rintro e w1 ⟨g1, rfl, r1, b1⟩
  have a1 : InosAt w1 (.slice (some ⟨g1, 0, none⟩) 1 1) [rootI] := r1.at
  clear r1
  go_wp2_with fail
  refine (iNewVol _).mono ?_
  rintro e w2 ⟨g2, rfl, r2, b2⟩
  have hs1 : (w1.alloc (.cells #[.int .i64 2, .slice (some ⟨g1, 0, none⟩) 1 1] 24)).heap.size = w1.heap.size + 1 := by simp
  rw [hs1] at b2 r2
  obtain ⟨x0, x1⟩ := box_two b2
  have B2 : Below w1.heap.size w1 w2 := (below_lit w1 _).trans (b2.mono (by omega))
  have hs2 := b2.size
  rw [hs1] at hs2
  have hz2 : w1.heap.size < w2.heap.size := by omega
  go_wp2_with fail
  have S2 := below_lit w2 (.cells #[.int .i64 2, .slice (some ⟨g2, 0, none⟩) 1 1] 24)
  refine (HEQ g2 g1 _ (InosAt.below (l := [rootI]) r2.at S2) ((a1.below B2).below S2)).mono ?_
  rintro e w3 ⟨rfl, b3⟩
  have hs3 : (w2.alloc (.cells #[.int .i64 2, .slice (some ⟨g2, 0, none⟩) 1 1] 24)).heap.size = w2.heap.size + 1 := by simp
  rw [hs3] at b3
  obtain ⟨y0, y1⟩ := box_two b3
  have r3 := (r2.below S2).below (by rw [hs3]; exact b3)
  go_wp2_with fail
  have hg2 : g2 < w2.heap.size := by
    obtain ⟨a, ca, e, -, hc⟩ := r2.at
    obtain ⟨b, off, s, e2, h, -⟩ := hc 0 (by decide)
    cases e; cases e2; exact h
  refine (HMK g2 (w1.heap.size + 1) w2.heap.size w3 r3 hg2).mono ?_
  rintro e w4 ⟨rfl, r4, m4⟩
  have hs3' := b3.size
  rw [hs3] at hs3'
  have y0' := (m4.cell 0 (show w2.heap.size < w3.heap.size by omega) (.inr (Nat.le_refl _))).trans y0
  have y1' := (m4.cell 1 (show w2.heap.size < w3.heap.size by omega) (.inr (Nat.le_refl _))).trans y1
  have b4 := m4.below (show w1.heap.size + 1 ≤ w3.heap.size by omega)
  have B4 : Below (w1.heap.size + 1) (w1.alloc (.cells #[.int .i64 2, .slice (some ⟨g1, 0, none⟩) 1 1] 24)) w4 := (b2.trans ((S2.mono (by omega)).trans (b3.mono (by omega)))).trans b4
  have a4 := a1.below ((below_lit w1 _).trans (B4.mono (by omega)))
  obtain ⟨z0, z1⟩ := box_two B4
  have hs4 := m4.size
  have r4a := r4.at
  go_wp2_with fail
  refine (HHD g2 w4 r4a).mono ?_
  rintro e w5 ⟨rfl, b5⟩
  have c50 := (b5.cell (p := ⟨w2.heap.size, 0, none⟩) (show w2.heap.size < _ by omega)).trans y0'
  have c51 := (b5.cell (p := ⟨w2.heap.size, 1, none⟩) (show w2.heap.size < _ by omega)).trans y1'
  have B5 := B4.trans (b5.mono (by omega))
  have hs5 := b5.size
  go_wp2_with fail
  refine (iNewVol _).mono ?_
  rintro e w6 ⟨g6, rfl, r6, b6⟩
  have B6 := B5.trans (b6.mono (by omega))
  have c60 := (b6.cell (p := ⟨w2.heap.size, 0, none⟩) (show w2.heap.size < _ by omega)).trans c50
  have c61 := (b6.cell (p := ⟨w2.heap.size, 1, none⟩) (show w2.heap.size < _ by omega)).trans c51
  obtain ⟨z0, z1⟩ := box_two B6
  have hs6 := b6.size
  have hz6 : w1.heap.size < w6.heap.size := by omega
  have hz7 : w2.heap.size < w6.heap.size := by omega
  go_wp2_with fail
  have S6 := below_lit w6 (.cells #[.int .i64 2, .slice (some ⟨g6, 0, none⟩) 1 1] 24)
  refine (HEQ g6 g1 _ (InosAt.below (l := [rootI]) r6.at S6) (((a4.below b5).below b6).below S6)).mono ?_
  rintro e w7 ⟨rfl, b7⟩
  have S7 := S6.trans (b7.mono (by simp))
  have c70 := (S7.cell (p := ⟨w2.heap.size, 0, none⟩) (show w2.heap.size < _ by omega)).trans c60
  have c71 := (S7.cell (p := ⟨w2.heap.size, 1, none⟩) (show w2.heap.size < _ by omega)).trans c61
  have a7 := ((r4a.below b5).below b6).below S7
  have B7 := B6.trans (S7.mono (by omega))
  go_wp2_with fail
  refine (HHD g2 w7 a7).mono ?_
  rintro e w8 ⟨rfl, b8⟩
  have hs7 := S7.size
  have B8 := B7.trans (b8.mono (by omega))
  go_wp2
  go_ret
  exact ⟨rfl, (b1.trans ((below_lit w1 _).mono b1.size)).trans (B8.mono (by have := b1.size; omega))⟩

end Go.Proofs.Ytgjehmobafkjfaa
