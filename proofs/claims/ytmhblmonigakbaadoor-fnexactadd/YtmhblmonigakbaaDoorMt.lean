/- Directories: laws.FnExactDirOk: the walk, given what impl.DirOk answers. Directories: laws.FnExactLook: the walk, given what impl.Look answers. Directories: laws.FnExactNext: the walk, given what impl.Next answers. Directories: rows of entries that are kept while another is marked. Directories: laws.FnExactDrop: the walk, given what impl.Drop answers. Directories: laws.FnExactRespell: the walk, given what impl.Respell answers. Directories: laws.FnExactAdd: the walk, given what impl.Add answers. -/
import Derived.Test.YtmhblmonigakbaaDoorRows
import Derived.Test.YtmhblmonigakbaaDoorMq
import Derived.Test.YtmhblmonigakbaaDoorMr
import Derived.Test.YtmhblmonigakbaaDoorMs
namespace Go.Proofs.YtmhblmonigakbaaDoor

section
open Go.RowKit

theorem shorts_of {l : List En} (h : ∀ t, t < l.length → l[t]!.name.size ≤ 1048576) : Shorts l := fun e he => by
  obtain ⟨t, ht, rfl⟩ := List.getElem_of_mem he
  have := h t ht
  rwa [getElem!_pos l t ht] at this

set_option maxRecDepth 100000 in
set_option maxHeartbeats 1000000 in
theorem wDirOk (v : Value) (l : List En) (w : World) (hv : EntsAt w v l) (hl : l.length ≤ 9223372036854775807) (hs : ∀ t, t < l.length → l[t]!.name.size ≤ 9223372036854775807)
    (HI : ∀ u w', Below w.heap.size w w' → EntsAt w' u l → l.length ≤ 1048576 → Shorts l → Calls Tryd.prog 32 #[u] w' fun e w'' => e = .returned (.bool (dirB l)) ∧ Below w'.heap.size w' w'') :
    Calls Tryd.prog 6 #[v] w fun e w' => e = .returned (.bool true) ∧ Below w.heap.size w w' := by
  have HZ := szEntS_any v l w hv hl hs
  have hv' := hv
  obtain ⟨a, ca, rfl, -, -⟩ := hv'
  go_enter Tryd.func6, Tryd.ntmps6
  go_wp2_with fail
  refine HZ.mono ?_
  rintro e w1 ⟨r, rfl, HR, b1⟩
  have HR : Hid _ := HR
  by_cases hr : r < 0
  · go_wp2
    go_ret
    exact ⟨rfl, b1⟩
  · obtain ⟨hl1, hs1⟩ := HR.out (by omega)
    have hsh := shorts_of hs1
    clear HR hs1
    go_wp2_with fail
    refine (toEntS_any _ l w1 hl1 (hv.below b1)).mono ?_
    rintro e w2 ⟨u2, rfl, row2, b2⟩
    have B2 := b1.trans (b2.mono b1.size)
    go_wp2_with fail
    refine (sDirOk u2 l w2 row2.at hsh hl1).mono ?_
    rintro e w3 ⟨rfl, b3⟩
    have B3 := B2.trans (b3.mono B2.size)
    go_wp2_with fail
    refine (toEntS_any _ l w3 hl1 (hv.below B3)).mono ?_
    rintro e w4 ⟨u4, rfl, row4, b4⟩
    have B4 := B3.trans (b4.mono B3.size)
    go_wp2_with fail
    refine (HI u4 w4 B4 row4.at hl1 hsh).mono ?_
    rintro e w5 ⟨rfl, b5⟩
    have B5 := B4.trans (b5.mono B4.size)
    generalize dirB l = q at *
    go_wp2_with fail
    refine (toEntS_any _ l w5 hl1 (hv.below B5)).mono ?_
    rintro e w6 ⟨u6, rfl, row6, b6⟩
    have B6 := B5.trans (b6.mono B5.size)
    go_wp2_with fail
    refine (eqEntS_any u4 u6 l l w6 (by omega) ((row4.at.below b5).below b6) row6.at).mono ?_
    rintro e w7 ⟨rfl, b7⟩
    have B7 := B6.trans (b7.mono B6.size)
    have hd : decide (l = l) = true := by simp
    go_wp2
    go_ret
    exact ⟨rfl, B7⟩
end

section
open Go.RowKit

set_option maxRecDepth 100000 in
set_option maxHeartbeats 1000000 in
theorem wLook (v : Value) (l : List En) (s : ByteArray) (w : World) (hv : EntsAt w v l) (hl : l.length ≤ 9223372036854775807) (hs : ∀ t, t < l.length → l[t]!.name.size ≤ 9223372036854775807) (hss : s.size ≤ 1048576)
    (HI : ∀ u w', Below w.heap.size w w' → EntsAt w' u l → l.length ≤ 1048576 → Shorts l → Calls Tryd.prog 35 #[u, .string s] w' fun e w'' => e = .returned (.tuple #[.agg #[.int .i64 (lookN l s).1.hash, .int .i64 (lookN l s).1.index, .string (lookN l s).1.name, .int .i64 (lookN l s).1.id], .bool (lookN l s).2]) ∧ Below w'.heap.size w' w'') :
    Calls Tryd.prog 7 #[v, .string s] w fun e w' => e = .returned (.bool true) ∧ Below w.heap.size w w' := by
  have HZ := szEntS_any v l w hv hl hs
  have HSP := fun u w' (hu : EntsAt w' u l) (h1 : l.length ≤ 1048576) (h2 : Shorts l) => sLook u l s w' hu h2 hss h1
  generalize lookN l s = M at HI HSP
  obtain ⟨⟨x0, x1, x2, x3⟩, q⟩ := M
  dsimp only at HI HSP
  have hv' := hv
  obtain ⟨a, ca, rfl, -, -⟩ := hv'
  have hsz : ¬ (1048576 < (s.size : Int)) := by omega
  go_enter Tryd.func7, Tryd.ntmps7
  go_wp2_with fail
  refine HZ.mono ?_
  rintro e w1 ⟨r, rfl, HR, b1⟩
  have HR : Hid _ := HR
  by_cases hr : r < 0
  · go_wp2
    go_ret
    exact ⟨rfl, b1⟩
  · obtain ⟨hl1, hs1⟩ := HR.out (by omega)
    have hsh := shorts_of hs1
    clear HR hs1
    go_wp2_with fail
    refine (toEntS_any _ l w1 hl1 (hv.below b1)).mono ?_
    rintro e w2 ⟨u2, rfl, row2, b2⟩
    have B2 := b1.trans (b2.mono b1.size)
    go_wp2_with fail
    refine (HSP u2 w2 row2.at hl1 hsh).mono ?_
    rintro e w3 ⟨rfl, b3⟩
    have B3 := B2.trans (b3.mono B2.size)
    have bA := below_lit w3 (.cells #[.int .i64 x0, .int .i64 x1, .string x2, .int .i64 x3] 41)
    have cA := new_cells w3 x0 x1 x2 x3
    have hA : w3.heap.size < (w3.alloc (.cells #[.int .i64 x0, .int .i64 x1, .string x2, .int .i64 x3] 41)).heap.size := by simp
    obtain ⟨wA, HWA⟩ : ∃ wA, Hid (wA = w3.alloc (.cells #[.int .i64 x0, .int .i64 x1, .string x2, .int .i64 x3] 41)) := ⟨_, rfl⟩
    rw [← HWA.out] at bA cA hA
    have BA := B3.trans (bA.mono B3.size)
    go_wp2_with fail
    rw [← HWA.out]
    refine (toEntS_any _ l wA hl1 (hv.below BA)).mono ?_
    rintro e w4 ⟨u4, rfl, row4, b4⟩
    have B4 := BA.trans (b4.mono BA.size)
    go_wp2_with fail
    refine (HI u4 w4 B4 row4.at hl1 hsh).mono ?_
    rintro e w5 ⟨rfl, b5⟩
    have B5 := B4.trans (b5.mono B4.size)
    have bB := below_lit w5 (.cells #[.int .i64 x0, .int .i64 x1, .string x2, .int .i64 x3] 41)
    have cB := new_cells w5 x0 x1 x2 x3
    obtain ⟨wB, HWB⟩ : ∃ wB, Hid (wB = w5.alloc (.cells #[.int .i64 x0, .int .i64 x1, .string x2, .int .i64 x3] 41)) := ⟨_, rfl⟩
    have cA2 := cA.below hA ((b4.trans (b5.mono b4.size)).trans (bB.mono (Nat.le_trans b4.size b5.size)))
    have d0 := cA2.c0
    have d1 := cA2.c1
    have d2 := cA2.c2
    have d3 := cA2.c3
    have BB := B5.trans (bB.mono B5.size)
    have row5 := (row4.at.below b5).below bB
    dsimp only [Nat.zero_add] at d0 d1 d2 d3
    clear cA cA2 cB
    go_wp2_with fail
    refine (eqEnt_any ⟨x0, x1, x2, x3⟩ ⟨x0, x1, x2, x3⟩ _).mono ?_
    rintro e w6 ⟨rfl, b6⟩
    have B6 := BB.trans (b6.mono BB.size)
    have hd : decide ((⟨x0, x1, x2, x3⟩ : En) = ⟨x0, x1, x2, x3⟩) = true := by simp
    go_wp2_with fail
    refine (toEntS_any _ l w6 hl1 (hv.below B6)).mono ?_
    rintro e w7 ⟨u7, rfl, row7, b7⟩
    have B7 := B6.trans (b7.mono B6.size)
    go_wp2_with fail
    refine (eqEntS_any u4 u7 l l w7 (by omega) ((row5.below b6).below b7) row7.at).mono ?_
    rintro e w8 ⟨rfl, b8⟩
    have hd2 : decide (l = l) = true := by simp
    go_wp2
    go_ret
    exact ⟨rfl, B7.trans (b8.mono B7.size)⟩
end

section
open Go.RowKit

set_option maxRecDepth 100000 in
set_option maxHeartbeats 1000000 in
theorem wNext (v : Value) (l : List En) (h k : Int) (w : World) (hv : EntsAt w v l) (hl : l.length ≤ 9223372036854775807) (hs : ∀ t, t < l.length → l[t]!.name.size ≤ 9223372036854775807)
    (HI : ∀ u w', Below w.heap.size w w' → EntsAt w' u l → l.length ≤ 1048576 → Shorts l → Calls Tryd.prog 25 #[u, .int .i64 h, .int .i64 k] w' fun e w'' => e = .returned (.tuple #[.agg #[.int .i64 (nextN l h k).1.hash, .int .i64 (nextN l h k).1.index, .string (nextN l h k).1.name, .int .i64 (nextN l h k).1.id], .bool (nextN l h k).2]) ∧ Below w'.heap.size w' w'') :
    Calls Tryd.prog 11 #[v, .int .i64 h, .int .i64 k] w fun e w' => e = .returned (.bool true) ∧ Below w.heap.size w w' := by
  have HZ := szEntS_any v l w hv hl hs
  have HSP := fun u w' (hu : EntsAt w' u l) (h1 : l.length ≤ 1048576) (h2 : Shorts l) => sNext u l h k w' hu h2 h1
  generalize nextN l h k = M at HI HSP
  obtain ⟨⟨x0, x1, x2, x3⟩, q⟩ := M
  dsimp only at HI HSP
  have hv' := hv
  obtain ⟨a, ca, rfl, -, -⟩ := hv'
  go_enter Tryd.func11, Tryd.ntmps11
  go_wp2_with fail
  refine HZ.mono ?_
  rintro e w1 ⟨r, rfl, HR, b1⟩
  have HR : Hid _ := HR
  by_cases hr : r < 0
  · go_wp2
    go_ret
    exact ⟨rfl, b1⟩
  · obtain ⟨hl1, hs1⟩ := HR.out (by omega)
    have hsh := shorts_of hs1
    clear HR hs1
    go_wp2_with fail
    refine (toEntS_any _ l w1 hl1 (hv.below b1)).mono ?_
    rintro e w2 ⟨u2, rfl, row2, b2⟩
    have B2 := b1.trans (b2.mono b1.size)
    go_wp2_with fail
    refine (HSP u2 w2 row2.at hl1 hsh).mono ?_
    rintro e w3 ⟨rfl, b3⟩
    have B3 := B2.trans (b3.mono B2.size)
    have bA := below_lit w3 (.cells #[.int .i64 x0, .int .i64 x1, .string x2, .int .i64 x3] 41)
    have cA := new_cells w3 x0 x1 x2 x3
    have hA : w3.heap.size < (w3.alloc (.cells #[.int .i64 x0, .int .i64 x1, .string x2, .int .i64 x3] 41)).heap.size := by simp
    obtain ⟨wA, HWA⟩ : ∃ wA, Hid (wA = w3.alloc (.cells #[.int .i64 x0, .int .i64 x1, .string x2, .int .i64 x3] 41)) := ⟨_, rfl⟩
    rw [← HWA.out] at bA cA hA
    have BA := B3.trans (bA.mono B3.size)
    go_wp2_with fail
    rw [← HWA.out]
    refine (toEntS_any _ l wA hl1 (hv.below BA)).mono ?_
    rintro e w4 ⟨u4, rfl, row4, b4⟩
    have B4 := BA.trans (b4.mono BA.size)
    go_wp2_with fail
    refine (HI u4 w4 B4 row4.at hl1 hsh).mono ?_
    rintro e w5 ⟨rfl, b5⟩
    have B5 := B4.trans (b5.mono B4.size)
    have bB := below_lit w5 (.cells #[.int .i64 x0, .int .i64 x1, .string x2, .int .i64 x3] 41)
    have cB := new_cells w5 x0 x1 x2 x3
    obtain ⟨wB, HWB⟩ : ∃ wB, Hid (wB = w5.alloc (.cells #[.int .i64 x0, .int .i64 x1, .string x2, .int .i64 x3] 41)) := ⟨_, rfl⟩
    have cA2 := cA.below hA ((b4.trans (b5.mono b4.size)).trans (bB.mono (Nat.le_trans b4.size b5.size)))
    have d0 := cA2.c0
    have d1 := cA2.c1
    have d2 := cA2.c2
    have d3 := cA2.c3
    have BB := B5.trans (bB.mono B5.size)
    have row5 := (row4.at.below b5).below bB
    dsimp only [Nat.zero_add] at d0 d1 d2 d3
    clear cA cA2 cB
    go_wp2_with fail
    refine (eqEnt_any ⟨x0, x1, x2, x3⟩ ⟨x0, x1, x2, x3⟩ _).mono ?_
    rintro e w6 ⟨rfl, b6⟩
    have B6 := BB.trans (b6.mono BB.size)
    have hd : decide ((⟨x0, x1, x2, x3⟩ : En) = ⟨x0, x1, x2, x3⟩) = true := by simp
    go_wp2_with fail
    refine (toEntS_any _ l w6 hl1 (hv.below B6)).mono ?_
    rintro e w7 ⟨u7, rfl, row7, b7⟩
    have B7 := B6.trans (b7.mono B6.size)
    go_wp2_with fail
    refine (eqEntS_any u4 u7 l l w7 (by omega) ((row5.below b6).below b7) row7.at).mono ?_
    rintro e w8 ⟨rfl, b8⟩
    have hd2 : decide (l = l) = true := by simp
    go_wp2
    go_ret
    exact ⟨rfl, B7.trans (b8.mono B7.size)⟩
end

section
open Go.RowKit

theorem keptE {w2 w7 w8 : World} {B B1 : Nat} {u v : Value} {l m : List En} (hv : EntRow w2 B v m) (hB : w2.heap.size ≤ B1) (hv7 : EntRow w7 B v m) (hu7 : EntRow w7 B1 u l) (hg : w7.grownBy w8 u.ownBlock) : EntRow w8 B v m := by
  refine World.ownsRow.kept hv7 hg ?_
  cases e : v.ownBlock with
  | none => exact .inl rfl
  | some k =>
    right
    intro e2
    have h1 := (World.ownsRow.lt hv k e).2
    have h2 := (World.ownsRow.lt hu7 k e2.symm).1
    omega
theorem keptE2 {w3 w7 w8 : World} {B0 B1 : Nat} {u v : Value} {l m : List En} (hu : EntRow w3 B0 u l) (hB : w3.heap.size ≤ B1) (hv : EntRow w7 B1 v m) (hg : w7.grownBy w8 u.ownBlock) : EntRow w8 B1 v m := by
  refine World.ownsRow.kept hv hg ?_
  cases e : v.ownBlock with
  | none => exact .inl rfl
  | some k =>
    right
    intro e2
    have h1 := (World.ownsRow.lt hv k e).1
    have h2 := (World.ownsRow.lt hu k e2.symm).2
    omega
theorem below_gbE {w w8 : World} {B : Nat} {o : Option Nat} (hg : w.grownBy w8 o) (ho : ∀ k, o = some k → B ≤ k) (hB : B ≤ w.heap.size) : Below B w w8 :=
  ⟨hg.os, hg.tape, hg.output, hg.size, fun k hk => hg.block k (Nat.lt_of_lt_of_le hk hB) (fun e => by have := ho k e.symm; omega)⟩
end

section
open Go.RowKit

set_option maxRecDepth 100000 in
set_option maxHeartbeats 2000000 in
theorem wDrop (v : Value) (l : List En) (s : ByteArray) (w : World) (hv : EntsAt w v l) (hl : l.length ≤ 9223372036854775807) (hs : ∀ t, t < l.length → l[t]!.name.size ≤ 9223372036854775807) (hss : s.size ≤ 1048576) (hL : l.length ≤ 1048576 → (dropN l s).1.length ≤ 1048577)
    (HI : ∀ u w', Below w.heap.size w w' → EntsAt w' u l → l.length ≤ 1048576 → Shorts l → Calls Tryd.prog 42 #[u, .string s] w' fun e w'' => ∃ x, e = .returned (.tuple #[x, .bool (dropN l s).2]) ∧ EntRow w'' w'.heap.size x (dropN l s).1 ∧ Below w'.heap.size w' w'') :
    Calls Tryd.prog 9 #[v, .string s] w fun e w' => e = .returned (.bool true) ∧ Below w.heap.size w w' := by
  have HZ := szEntS_any v l w hv hl hs
  have HSP := fun u w' (hu : EntsAt w' u l) (h1 : l.length ≤ 1048576) (h2 : Shorts l) => sDrop u l s w' hu h2 hss h1
  generalize dropN l s = MM at HI HSP hL
  obtain ⟨M, q⟩ := MM
  dsimp only at HI HSP hL
  have hsz : ¬ (1048576 < (s.size : Int)) := by omega
  have hv' := hv
  obtain ⟨a, ca, rfl, -, -⟩ := hv'
  go_enter Tryd.func9, Tryd.ntmps9
  go_wp2_with fail
  refine HZ.mono ?_
  rintro e w0 ⟨r, rfl, HR, b0⟩
  have HR : Hid _ := HR
  by_cases hr : r < 0
  · go_wp2
    go_ret
    exact ⟨rfl, b0⟩
  · obtain ⟨hl1, hs1⟩ := HR.out (by omega)
    have hsh := shorts_of hs1
    have hM := hL hl1
    clear HR hs1 hL
    go_wp2_with fail
    refine (toEntS_any _ l w0 hl1 (hv.below b0)).mono ?_
    rintro e w1 ⟨u1, rfl, r1, b1⟩
    have B1 := b0.trans (b1.mono b0.size)
    go_wp2_with fail
    refine (HSP u1 w1 r1.at hl1 hsh).mono ?_
    rintro e w2 ⟨v1, rfl, s2, b2⟩
    have B2 : Below w.heap.size w w2 := B1.trans (b2.mono B1.size)
    go_wp2_with fail
    refine (toEntS_any _ l w2 hl1 (hv.below B2)).mono ?_
    rintro e w3 ⟨u3, rfl, r3, b3⟩
    have B3 : Below w.heap.size w w3 := B2.trans (b3.mono B2.size)
    have s3 := s2.below b3
    go_wp2_with fail
    refine (HI u3 w3 B3 r3.at hl1 hsh).mono ?_
    rintro e w4 ⟨v4, rfl, g4, b4⟩
    have B4 : Below w.heap.size w w4 := B3.trans (b4.mono B3.size)
    have s4 := s3.below b4
    have r4 := r3.below b4
    go_wp2_with fail
    refine (eqEntS_any v4 v1 M M w4 (by omega) g4.at s4.at).mono ?_
    rintro e w5 ⟨rfl, b5⟩
    rw [decide_eq_true rfl]
    have B5 : Below w.heap.size w w5 := B4.trans (b5.mono B4.size)
    have s5 := s4.below b5
    have r5 := r4.below b5
    have g5 := g4.below b5
    go_wp2_with fail
    refine (toEntS_any _ l w5 hl1 (hv.below B5)).mono ?_
    rintro e w6 ⟨u6, rfl, r6, b6⟩
    have B6 : Below w.heap.size w w6 := B5.trans (b6.mono B5.size)
    have s6 := s5.below b6
    have q6 := r5.below b6
    have g6 := g5.below b6
    go_wp2_with fail
    refine (eqEntS_any u3 u6 l l w6 (by omega) q6.at r6.at).mono ?_
    rintro e w7 ⟨rfl, b7⟩
    rw [decide_eq_true rfl]
    have B7 : Below w.heap.size w w7 := B6.trans (b7.mono B6.size)
    have s7 := s6.below b7
    have q7 := q6.below b7
    have g7 := g6.below b7
    go_wp2_with fail
    refine (markEntS_any u3 l 1 w2.heap.size w7 q7 (by omega) (by omega) (by omega)).mono ?_
    rintro e w8 ⟨rfl, m8, k8⟩
    have B8 : Below w.heap.size w w8 := B7.trans (below_gbE k8 (fun k hk => Nat.le_trans B2.size (World.ownsRow.lt q7 k hk).1) B7.size)
    have s8 := keptE s2 (Nat.le_refl _) s7 q7 k8
    have g8 := keptE2 r3 (Nat.le_refl _) g7 k8
    obtain ⟨z1, HZ1⟩ : ∃ z : Nat, Hid (z = 1 + 4 * l.length) := ⟨_, rfl⟩
    rw [← HZ1.out]
    go_wp2_with fail
    refine (eqEntS_any v4 v1 M M w8 (by omega) g8.at s8.at).mono ?_
    rintro e w9 ⟨rfl, b9⟩
    rw [decide_eq_true rfl]
    have B9 : Below w.heap.size w w9 := B8.trans (b9.mono B8.size)
    have s9 := s8.below b9
    have g9 := g8.below b9
    go_wp2_with fail
    refine (markEntS_any v4 M 1 w3.heap.size w9 g9 (by omega) (by omega) (by omega)).mono ?_
    rintro e w10 ⟨rfl, m10, k10⟩
    have B10 : Below w.heap.size w w10 := B9.trans (below_gbE k10 (fun k hk => Nat.le_trans B3.size (World.ownsRow.lt g9 k hk).1) B9.size)
    have s10 := keptE s2 b3.size s9 g9 k10
    have HH := fun w' (h : EntsAt w' v4 (marksE 1 M.length)) => heldEntS_marks v4 M.length 1 w' (by omega) (by omega) (by omega) h
    obtain ⟨z2, HZ2⟩ : ∃ z : Nat, Hid (z = 1 + 4 * M.length) := ⟨_, rfl⟩
    rw [← HZ2.out] at HH ⊢
    go_wp2_with fail
    refine (HH w10 m10.at).mono ?_
    rintro e w11 ⟨rfl, b11⟩
    have B11 : Below w.heap.size w w11 := B10.trans (b11.mono B10.size)
    have s11 := s10.below b11
    have m11 := m10.below b11
    go_wp2_with fail
    refine (toEntS_any _ l w11 hl1 (hv.below B11)).mono ?_
    rintro e w12 ⟨u12, rfl, r12, b12⟩
    have B12 : Below w.heap.size w w12 := B11.trans (b12.mono B11.size)
    have s12 := s11.below b12
    have m12 := m11.below b12
    go_wp2_with fail
    refine (HI u12 w12 B12 r12.at hl1 hsh).mono ?_
    rintro e w13 ⟨v13, rfl, g13, b13⟩
    have B13 : Below w.heap.size w w13 := B12.trans (b13.mono B12.size)
    have s13 := s12.below b13
    have m13 := m12.below b13
    go_wp2_with fail
    refine (eqEntS_any v13 v1 M M w13 (by omega) g13.at s13.at).mono ?_
    rintro e w14 ⟨rfl, b14⟩
    rw [decide_eq_true rfl]
    have B14 : Below w.heap.size w w14 := B13.trans (b14.mono B13.size)
    have m14 := m13.below b14
    go_wp2_with fail
    refine (HH w14 m14.at).mono ?_
    rintro e w15 ⟨rfl, b15⟩
    go_wp2
    go_ret
    exact ⟨rfl, B14.trans (b15.mono B14.size)⟩
end

section
open Go.RowKit

set_option maxRecDepth 100000 in
set_option maxHeartbeats 2000000 in
theorem wRespell (v : Value) (l : List En) (s : ByteArray) (id : Int) (w : World) (hv : EntsAt w v l) (hl : l.length ≤ 9223372036854775807) (hs : ∀ t, t < l.length → l[t]!.name.size ≤ 9223372036854775807) (hss : s.size ≤ 1048576) (hL : l.length ≤ 1048576 → (respN l s id).1.length ≤ 1048577)
    (HI : ∀ u w', Below w.heap.size w w' → EntsAt w' u l → l.length ≤ 1048576 → Shorts l → Calls Tryd.prog 44 #[u, .string s, .int .i64 id] w' fun e w'' => ∃ x, e = .returned (.tuple #[x, .bool (respN l s id).2]) ∧ EntRow w'' w'.heap.size x (respN l s id).1 ∧ Below w'.heap.size w' w'') :
    Calls Tryd.prog 10 #[v, .string s, .int .i64 id] w fun e w' => e = .returned (.bool true) ∧ Below w.heap.size w w' := by
  have HZ := szEntS_any v l w hv hl hs
  have HSP := fun u w' (hu : EntsAt w' u l) (h1 : l.length ≤ 1048576) (h2 : Shorts l) => sRespell u l s id w' hu h2 hss h1
  generalize respN l s id = MM at HI HSP hL
  obtain ⟨M, q⟩ := MM
  dsimp only at HI HSP hL
  have hsz : ¬ (1048576 < (s.size : Int)) := by omega
  have hv' := hv
  obtain ⟨a, ca, rfl, -, -⟩ := hv'
  go_enter Tryd.func10, Tryd.ntmps10
  go_wp2_with fail
  refine HZ.mono ?_
  rintro e w0 ⟨r, rfl, HR, b0⟩
  have HR : Hid _ := HR
  by_cases hr : r < 0
  · go_wp2
    go_ret
    exact ⟨rfl, b0⟩
  · obtain ⟨hl1, hs1⟩ := HR.out (by omega)
    have hsh := shorts_of hs1
    have hM := hL hl1
    clear HR hs1 hL
    go_wp2_with fail
    refine (toEntS_any _ l w0 hl1 (hv.below b0)).mono ?_
    rintro e w1 ⟨u1, rfl, r1, b1⟩
    have B1 := b0.trans (b1.mono b0.size)
    go_wp2_with fail
    refine (HSP u1 w1 r1.at hl1 hsh).mono ?_
    rintro e w2 ⟨v1, rfl, s2, b2⟩
    have B2 : Below w.heap.size w w2 := B1.trans (b2.mono B1.size)
    go_wp2_with fail
    refine (toEntS_any _ l w2 hl1 (hv.below B2)).mono ?_
    rintro e w3 ⟨u3, rfl, r3, b3⟩
    have B3 : Below w.heap.size w w3 := B2.trans (b3.mono B2.size)
    have s3 := s2.below b3
    go_wp2_with fail
    refine (HI u3 w3 B3 r3.at hl1 hsh).mono ?_
    rintro e w4 ⟨v4, rfl, g4, b4⟩
    have B4 : Below w.heap.size w w4 := B3.trans (b4.mono B3.size)
    have s4 := s3.below b4
    have r4 := r3.below b4
    go_wp2_with fail
    refine (eqEntS_any v4 v1 M M w4 (by omega) g4.at s4.at).mono ?_
    rintro e w5 ⟨rfl, b5⟩
    rw [decide_eq_true rfl]
    have B5 : Below w.heap.size w w5 := B4.trans (b5.mono B4.size)
    have s5 := s4.below b5
    have r5 := r4.below b5
    have g5 := g4.below b5
    go_wp2_with fail
    refine (toEntS_any _ l w5 hl1 (hv.below B5)).mono ?_
    rintro e w6 ⟨u6, rfl, r6, b6⟩
    have B6 : Below w.heap.size w w6 := B5.trans (b6.mono B5.size)
    have s6 := s5.below b6
    have q6 := r5.below b6
    have g6 := g5.below b6
    go_wp2_with fail
    refine (eqEntS_any u3 u6 l l w6 (by omega) q6.at r6.at).mono ?_
    rintro e w7 ⟨rfl, b7⟩
    rw [decide_eq_true rfl]
    have B7 : Below w.heap.size w w7 := B6.trans (b7.mono B6.size)
    have s7 := s6.below b7
    have q7 := q6.below b7
    have g7 := g6.below b7
    go_wp2_with fail
    refine (markEntS_any u3 l 1 w2.heap.size w7 q7 (by omega) (by omega) (by omega)).mono ?_
    rintro e w8 ⟨rfl, m8, k8⟩
    have B8 : Below w.heap.size w w8 := B7.trans (below_gbE k8 (fun k hk => Nat.le_trans B2.size (World.ownsRow.lt q7 k hk).1) B7.size)
    have s8 := keptE s2 (Nat.le_refl _) s7 q7 k8
    have g8 := keptE2 r3 (Nat.le_refl _) g7 k8
    obtain ⟨z1, HZ1⟩ : ∃ z : Nat, Hid (z = 1 + 4 * l.length) := ⟨_, rfl⟩
    rw [← HZ1.out]
    go_wp2_with fail
    refine (eqEntS_any v4 v1 M M w8 (by omega) g8.at s8.at).mono ?_
    rintro e w9 ⟨rfl, b9⟩
    rw [decide_eq_true rfl]
    have B9 : Below w.heap.size w w9 := B8.trans (b9.mono B8.size)
    have s9 := s8.below b9
    have g9 := g8.below b9
    go_wp2_with fail
    refine (markEntS_any v4 M 1 w3.heap.size w9 g9 (by omega) (by omega) (by omega)).mono ?_
    rintro e w10 ⟨rfl, m10, k10⟩
    have B10 : Below w.heap.size w w10 := B9.trans (below_gbE k10 (fun k hk => Nat.le_trans B3.size (World.ownsRow.lt g9 k hk).1) B9.size)
    have s10 := keptE s2 b3.size s9 g9 k10
    have HH := fun w' (h : EntsAt w' v4 (marksE 1 M.length)) => heldEntS_marks v4 M.length 1 w' (by omega) (by omega) (by omega) h
    obtain ⟨z2, HZ2⟩ : ∃ z : Nat, Hid (z = 1 + 4 * M.length) := ⟨_, rfl⟩
    rw [← HZ2.out] at HH ⊢
    go_wp2_with fail
    refine (HH w10 m10.at).mono ?_
    rintro e w11 ⟨rfl, b11⟩
    have B11 : Below w.heap.size w w11 := B10.trans (b11.mono B10.size)
    have s11 := s10.below b11
    have m11 := m10.below b11
    go_wp2_with fail
    refine (toEntS_any _ l w11 hl1 (hv.below B11)).mono ?_
    rintro e w12 ⟨u12, rfl, r12, b12⟩
    have B12 : Below w.heap.size w w12 := B11.trans (b12.mono B11.size)
    have s12 := s11.below b12
    have m12 := m11.below b12
    go_wp2_with fail
    refine (HI u12 w12 B12 r12.at hl1 hsh).mono ?_
    rintro e w13 ⟨v13, rfl, g13, b13⟩
    have B13 : Below w.heap.size w w13 := B12.trans (b13.mono B12.size)
    have s13 := s12.below b13
    have m13 := m12.below b13
    go_wp2_with fail
    refine (eqEntS_any v13 v1 M M w13 (by omega) g13.at s13.at).mono ?_
    rintro e w14 ⟨rfl, b14⟩
    rw [decide_eq_true rfl]
    have B14 : Below w.heap.size w w14 := B13.trans (b14.mono B13.size)
    have m14 := m13.below b14
    go_wp2_with fail
    refine (HH w14 m14.at).mono ?_
    rintro e w15 ⟨rfl, b15⟩
    go_wp2
    go_ret
    exact ⟨rfl, B14.trans (b15.mono B14.size)⟩
end

section
open Go.RowKit

set_option maxRecDepth 100000 in
set_option maxHeartbeats 2000000 in
theorem wAdd (v : Value) (l : List En) (s : ByteArray) (id : Int) (w : World) (hv : EntsAt w v l) (hl : l.length ≤ 9223372036854775807) (hs : ∀ t, t < l.length → l[t]!.name.size ≤ 9223372036854775807) (hss : s.size ≤ 1048576) (hL : l.length ≤ 1048576 → (addN l s id).1.length ≤ 1048577)
    (HI : ∀ u w', Below w.heap.size w w' → EntsAt w' u l → l.length ≤ 1048576 → Shorts l → Calls Tryd.prog 38 #[u, .string s, .int .i64 id] w' fun e w'' => ∃ x, e = .returned (.tuple #[x, .bool (addN l s id).2]) ∧ EntRow w'' w'.heap.size x (addN l s id).1 ∧ Below w'.heap.size w' w'') :
    Calls Tryd.prog 8 #[v, .string s, .int .i64 id] w fun e w' => e = .returned (.bool true) ∧ Below w.heap.size w w' := by
  have HZ := szEntS_any v l w hv hl hs
  have HSP := fun u w' (hu : EntsAt w' u l) (h1 : l.length ≤ 1048576) (h2 : Shorts l) => sAdd u l s id w' hu h2 hss h1
  generalize addN l s id = MM at HI HSP hL
  obtain ⟨M, q⟩ := MM
  dsimp only at HI HSP hL
  have hsz : ¬ (1048576 < (s.size : Int)) := by omega
  have hv' := hv
  obtain ⟨a, ca, rfl, -, -⟩ := hv'
  go_enter Tryd.func8, Tryd.ntmps8
  go_wp2_with fail
  refine HZ.mono ?_
  rintro e w0 ⟨r, rfl, HR, b0⟩
  have HR : Hid _ := HR
  by_cases hr : r < 0
  · go_wp2
    go_ret
    exact ⟨rfl, b0⟩
  · obtain ⟨hl1, hs1⟩ := HR.out (by omega)
    have hsh := shorts_of hs1
    have hM := hL hl1
    clear HR hs1 hL
    go_wp2_with fail
    refine (toEntS_any _ l w0 hl1 (hv.below b0)).mono ?_
    rintro e w1 ⟨u1, rfl, r1, b1⟩
    have B1 := b0.trans (b1.mono b0.size)
    go_wp2_with fail
    refine (HSP u1 w1 r1.at hl1 hsh).mono ?_
    rintro e w2 ⟨v1, rfl, s2, b2⟩
    have B2 : Below w.heap.size w w2 := B1.trans (b2.mono B1.size)
    go_wp2_with fail
    refine (toEntS_any _ l w2 hl1 (hv.below B2)).mono ?_
    rintro e w3 ⟨u3, rfl, r3, b3⟩
    have B3 : Below w.heap.size w w3 := B2.trans (b3.mono B2.size)
    have s3 := s2.below b3
    go_wp2_with fail
    refine (HI u3 w3 B3 r3.at hl1 hsh).mono ?_
    rintro e w4 ⟨v4, rfl, g4, b4⟩
    have B4 : Below w.heap.size w w4 := B3.trans (b4.mono B3.size)
    have s4 := s3.below b4
    have r4 := r3.below b4
    go_wp2_with fail
    refine (eqEntS_any v4 v1 M M w4 (by omega) g4.at s4.at).mono ?_
    rintro e w5 ⟨rfl, b5⟩
    rw [decide_eq_true rfl]
    have B5 : Below w.heap.size w w5 := B4.trans (b5.mono B4.size)
    have s5 := s4.below b5
    have r5 := r4.below b5
    have g5 := g4.below b5
    go_wp2_with fail
    refine (toEntS_any _ l w5 hl1 (hv.below B5)).mono ?_
    rintro e w6 ⟨u6, rfl, r6, b6⟩
    have B6 : Below w.heap.size w w6 := B5.trans (b6.mono B5.size)
    have s6 := s5.below b6
    have q6 := r5.below b6
    have g6 := g5.below b6
    go_wp2_with fail
    refine (eqEntS_any u3 u6 l l w6 (by omega) q6.at r6.at).mono ?_
    rintro e w7 ⟨rfl, b7⟩
    rw [decide_eq_true rfl]
    have B7 : Below w.heap.size w w7 := B6.trans (b7.mono B6.size)
    have s7 := s6.below b7
    have q7 := q6.below b7
    have g7 := g6.below b7
    go_wp2_with fail
    refine (markEntS_any u3 l 1 w2.heap.size w7 q7 (by omega) (by omega) (by omega)).mono ?_
    rintro e w8 ⟨rfl, m8, k8⟩
    have B8 : Below w.heap.size w w8 := B7.trans (below_gbE k8 (fun k hk => Nat.le_trans B2.size (World.ownsRow.lt q7 k hk).1) B7.size)
    have s8 := keptE s2 (Nat.le_refl _) s7 q7 k8
    have g8 := keptE2 r3 (Nat.le_refl _) g7 k8
    obtain ⟨z1, HZ1⟩ : ∃ z : Nat, Hid (z = 1 + 4 * l.length) := ⟨_, rfl⟩
    rw [← HZ1.out]
    go_wp2_with fail
    refine (eqEntS_any v4 v1 M M w8 (by omega) g8.at s8.at).mono ?_
    rintro e w9 ⟨rfl, b9⟩
    rw [decide_eq_true rfl]
    have B9 : Below w.heap.size w w9 := B8.trans (b9.mono B8.size)
    have s9 := s8.below b9
    have g9 := g8.below b9
    go_wp2_with fail
    refine (markEntS_any v4 M 1 w3.heap.size w9 g9 (by omega) (by omega) (by omega)).mono ?_
    rintro e w10 ⟨rfl, m10, k10⟩
    have B10 : Below w.heap.size w w10 := B9.trans (below_gbE k10 (fun k hk => Nat.le_trans B3.size (World.ownsRow.lt g9 k hk).1) B9.size)
    have s10 := keptE s2 b3.size s9 g9 k10
    have HH := fun w' (h : EntsAt w' v4 (marksE 1 M.length)) => heldEntS_marks v4 M.length 1 w' (by omega) (by omega) (by omega) h
    obtain ⟨z2, HZ2⟩ : ∃ z : Nat, Hid (z = 1 + 4 * M.length) := ⟨_, rfl⟩
    rw [← HZ2.out] at HH ⊢
    go_wp2_with fail
    refine (HH w10 m10.at).mono ?_
    rintro e w11 ⟨rfl, b11⟩
    have B11 : Below w.heap.size w w11 := B10.trans (b11.mono B10.size)
    have s11 := s10.below b11
    have m11 := m10.below b11
    go_wp2_with fail
    refine (toEntS_any _ l w11 hl1 (hv.below B11)).mono ?_
    rintro e w12 ⟨u12, rfl, r12, b12⟩
    have B12 : Below w.heap.size w w12 := B11.trans (b12.mono B11.size)
    have s12 := s11.below b12
    have m12 := m11.below b12
    go_wp2_with fail
    refine (HI u12 w12 B12 r12.at hl1 hsh).mono ?_
    rintro e w13 ⟨v13, rfl, g13, b13⟩
    have B13 : Below w.heap.size w w13 := B12.trans (b13.mono B12.size)
    have s13 := s12.below b13
    have m13 := m12.below b13
    go_wp2_with fail
    refine (eqEntS_any v13 v1 M M w13 (by omega) g13.at s13.at).mono ?_
    rintro e w14 ⟨rfl, b14⟩
    rw [decide_eq_true rfl]
    have B14 : Below w.heap.size w w14 := B13.trans (b14.mono B13.size)
    have m14 := m13.below b14
    go_wp2_with fail
    refine (HH w14 m14.at).mono ?_
    rintro e w15 ⟨rfl, b15⟩
    go_wp2
    go_ret
    exact ⟨rfl, B14.trans (b15.mono B14.size)⟩
end

end Go.Proofs.YtmhblmonigakbaaDoor
