/- Devices, impl: Flush, Crash, NewDev; spec.NewDev. -/
import Derived.Test.YtpmdhoiodbjojaaRows
import Derived.Test.YtpmdhoiodbjojaaIDs
namespace Go.Proofs.Ytpmdhoiodbjojaa
open Go.RowKit

set_option maxRecDepth 100000 in
set_option maxHeartbeats 1000000 in
theorem iFlush (v : Value) (d : Dv) (w : World) (hl : d.blocks.length ≤ 9223372036854775807) (hl2 : d.pend.length ≤ 9223372036854775807) (hv : DevAt w v d) :
    Calls Try.prog 13 #[v] w fun e w' => ∃ a b, e = .returned (.agg #[a, b]) ∧ DevRow w' w.heap.size a b (keptN (bitB 1099511627775) d) ∧ Below w.heap.size w w' := by
  have hmf : ∀ (fn : Fn) (first cap : Array Value) (w : World), (Instr.makeFunc fn first cap).run Try.prog w = .ok (.func fn first cap) w := fun _ _ _ _ => rfl
  obtain ⟨a0, b0, hvv, ha0, hb0⟩ := id hv
  have S := FlSt.start w a0 b0
  have hs0 : ((w.alloc (.cells #[a0, b0] 27)).alloc (.cells #[.slice none 0 0, .slice none 0 0] 27)).heap.size = w.heap.size + 1 + 1 := by simp
  subst hvv
  have H1 := settled_any (.agg #[a0, b0]) d 1099511627775 _ hl hl2 (hv.below S.bel)
  rw [hs0] at H1
  have HST : Hid (∀ w1, Below (w.heap.size + 1 + 1) ((w.alloc (.cells #[a0, b0] 27)).alloc (.cells #[.slice none 0 0, .slice none 0 0] 27)) w1 → FlSt w a0 b0 w1) := fun w1 b1 => S.below (by rw [hs0]; exact b1)
  clear S hv
  generalize keptN (bitB 1099511627775) d = ku at *
  go_enter Try.func13, Try.ntmps13
  go_wp2_with (go_at_call 37; refine H1.mono ?_; rintro e w1 ⟨a, b, rfl, r1, b1⟩; have st1 := HST.out w1 b1; obtain ⟨p0, p1, r0, rr1, rf, B1⟩ := st1.out; obtain ⟨a1, c1, hu1, -, -⟩ := r1.t.at; generalize ku.blocks.length = m1 at hu1; subst hu1; obtain ⟨a2, c2, hu2, -, -⟩ := r1.p.at; generalize ku.pend.length = m2 at hu2; subst hu2)
  exact bodyPost_ret (results_dev Try.results13 _ _ (w.heap.size + 1) _ rfl rfl (put2d _ _ B1.out.1)) rfl ⟨_, _, rfl, ((r1.low (by omega) _ _).low (by omega) _ _).mono (by omega), fl_below B1.out.2⟩

set_option maxRecDepth 100000 in
set_option maxHeartbeats 1000000 in
theorem iCrash (v : Value) (d : Dv) (c : Int) (w : World) (hl : d.blocks.length ≤ 9223372036854775807) (hl2 : d.pend.length ≤ 9223372036854775807) (hv : DevAt w v d) :
    Calls Try.prog 11 #[v, .int .i64 c] w fun e w' => ∃ a b, e = .returned (.agg #[a, b]) ∧ DevRow w' w.heap.size a b (keptN (bitB c) d) ∧ Below w.heap.size w w' := by
  have hmf : ∀ (fn : Fn) (first cap : Array Value) (w : World), (Instr.makeFunc fn first cap).run Try.prog w = .ok (.func fn first cap) w := fun _ _ _ _ => rfl
  obtain ⟨a0, b0, hvv, ha0, hb0⟩ := id hv
  have S := FlSt.start w a0 b0
  have hs0 : ((w.alloc (.cells #[a0, b0] 27)).alloc (.cells #[.slice none 0 0, .slice none 0 0] 27)).heap.size = w.heap.size + 1 + 1 := by simp
  subst hvv
  have H1 := settled_any (.agg #[a0, b0]) d c _ hl hl2 (hv.below S.bel)
  rw [hs0] at H1
  have HST : Hid (∀ w1, Below (w.heap.size + 1 + 1) ((w.alloc (.cells #[a0, b0] 27)).alloc (.cells #[.slice none 0 0, .slice none 0 0] 27)) w1 → FlSt w a0 b0 w1) := fun w1 b1 => S.below (by rw [hs0]; exact b1)
  clear S hv
  generalize keptN (bitB c) d = ku at *
  go_enter Try.func11, Try.ntmps11
  go_wp2_with (go_at_call 37; refine H1.mono ?_; rintro e w1 ⟨a, b, rfl, r1, b1⟩; have st1 := HST.out w1 b1; obtain ⟨p0, p1, r0, rr1, rf, B1⟩ := st1.out; obtain ⟨a1, c1, hu1, -, -⟩ := r1.t.at; generalize ku.blocks.length = m1 at hu1; subst hu1; obtain ⟨a2, c2, hu2, -, -⟩ := r1.p.at; generalize ku.pend.length = m2 at hu2; subst hu2)
  exact bodyPost_ret (results_dev Try.results11 _ _ (w.heap.size + 1) _ rfl rfl (put2d _ _ B1.out.1)) rfl ⟨_, _, rfl, ((r1.low (by omega) _ _).low (by omega) _ _).mono (by omega), fl_below B1.out.2⟩

set_option maxRecDepth 100000 in
set_option maxHeartbeats 1000000 in
theorem sNewDev (w : World) : Calls Try.prog 19 #[] w fun e w' => ∃ a b, e = .returned (.agg #[a, b]) ∧ DevRow w' w.heap.size a b newDv ∧ Below w.heap.size w w' := by
  obtain ⟨i0, hi, hz0, hz1, hz2⟩ := info_parts Try.infoTxt
  have HZ : Hid ((madeCells #[.string ⟨#[]⟩] (18 * 1)).toList = strsV (List.replicate 18 ⟨#[]⟩)) := made_strs 18
  have hR0 := heap_a1 w (.cells #[.slice none 0 0, .slice none 0 0] 27)
  have B0 := below_lit w (.cells #[.slice none 0 0, .slice none 0 0] 27)
  have S0 : (w.alloc (.cells #[.slice none 0 0, .slice none 0 0] 27)).heap.size = w.heap.size + 1 := by simp
  go_enter Try.func19, Try.ntmps19
  go_wp2_with (at_make; refine wpList_make_full _ rfl _ _ 24 rfl (w.heap.size + 1) 9 i0 (.string ⟨#[]⟩) 1 Try.underlying24 hi hz0 hz1 .i64 .i64 _ _ 18 rfl rfl rfl rfl (by rw [hz2]; omega) (by unfold maxLen; omega) (by simp) ?_; intro w1 hown1 hgrow1; have hb1 := hgrow1.block; have hR1 := (hb1 w.heap.size (by simp) (by simp)).trans hR0; have c0 := cell_blk hR1 0; have c1 := cell_blk hR1 1; have cf := fun i => unfrozen_blk hR1 i; (dsimp at c0 c1))
  have hown2 : w1.ownsRow (w.heap.size + 1) 9 1 (.slice (some ⟨w.heap.size + 1, 0, none⟩) 18 18) 18 (strsV (List.replicate 18 ⟨#[]⟩)) := by
    rw [← HZ.out]; simpa [Value.cells] using hown1
  have hbel1 : Below w.heap.size w w1 := B0.grown hgrow1 (by omega) (fun _ h => by cases h)
  have R : DevRow w1 (w.heap.size + 1) (.slice (some ⟨w.heap.size + 1, 0, none⟩) 18 18) (.slice none 0 0) newDv := ⟨hown2, ⟨rfl, .inl ⟨rfl, rfl⟩⟩, fun q _ hq => by cases hq⟩
  exact bodyPost_ret (results_dev Try.results19 _ _ w.heap.size _ rfl rfl (put2d _ _ hR1)) rfl ⟨_, _, rfl, ((R.low (by omega) _ _).low (by omega) _ _).mono (by omega), (hbel1.setCell (Nat.le_refl _) _).setCell (Nat.le_refl _) _⟩

set_option maxRecDepth 100000 in
set_option maxHeartbeats 1000000 in
theorem iNewDev (w : World) : Calls Try.prog 20 #[] w fun e w' => ∃ a b, e = .returned (.agg #[a, b]) ∧ DevRow w' w.heap.size a b newDv ∧ Below w.heap.size w w' := by
  obtain ⟨i0, hi, hz0, hz1, hz2⟩ := info_parts Try.infoTxt
  have HZ : Hid ((madeCells #[.string ⟨#[]⟩] (18 * 1)).toList = strsV (List.replicate 18 ⟨#[]⟩)) := made_strs 18
  have hR0 := heap_a1 w (.cells #[.slice none 0 0, .slice none 0 0] 27)
  have B0 := below_lit w (.cells #[.slice none 0 0, .slice none 0 0] 27)
  have S0 : (w.alloc (.cells #[.slice none 0 0, .slice none 0 0] 27)).heap.size = w.heap.size + 1 := by simp
  go_enter Try.func20, Try.ntmps20
  go_wp2_with (at_make; refine wpList_make_full _ rfl _ _ 24 rfl (w.heap.size + 1) 9 i0 (.string ⟨#[]⟩) 1 Try.underlying24 hi hz0 hz1 .i64 .i64 _ _ 18 rfl rfl rfl rfl (by rw [hz2]; omega) (by unfold maxLen; omega) (by simp) ?_; intro w1 hown1 hgrow1; have hb1 := hgrow1.block; have hR1 := (hb1 w.heap.size (by simp) (by simp)).trans hR0; have c0 := cell_blk hR1 0; have c1 := cell_blk hR1 1; have cf := fun i => unfrozen_blk hR1 i; (dsimp at c0 c1))
  have hown2 : w1.ownsRow (w.heap.size + 1) 9 1 (.slice (some ⟨w.heap.size + 1, 0, none⟩) 18 18) 18 (strsV (List.replicate 18 ⟨#[]⟩)) := by
    rw [← HZ.out]; simpa [Value.cells] using hown1
  have hbel1 : Below w.heap.size w w1 := B0.grown hgrow1 (by omega) (fun _ h => by cases h)
  have R : DevRow w1 (w.heap.size + 1) (.slice (some ⟨w.heap.size + 1, 0, none⟩) 18 18) (.slice none 0 0) newDv := ⟨hown2, ⟨rfl, .inl ⟨rfl, rfl⟩⟩, fun q _ hq => by cases hq⟩
  exact bodyPost_ret (results_dev Try.results20 _ _ w.heap.size _ rfl rfl (put2d _ _ hR1)) rfl ⟨_, _, rfl, ((R.low (by omega) _ _).low (by omega) _ _).mono (by omega), (hbel1.setCell (Nat.le_refl _) _).setCell (Nat.le_refl _) _⟩

end Go.Proofs.Ytpmdhoiodbjojaa
