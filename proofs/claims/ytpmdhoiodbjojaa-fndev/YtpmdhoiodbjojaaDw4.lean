/- Draws of devices: spec.DrawCrash; laws.sameTexts. -/
import Derived.Test.YtpmdhoiodbjojaaRows
import Derived.Test.YtpmdhoiodbjojaaDw3
namespace Go.Proofs.Ytpmdhoiodbjojaa
open Go.RowKit

/-- a device and a mask are drawn -/
def SaysDc (w : World) (e : Ending) (w' : World) : Prop := ∃ (a b : Value) (d : Dv) (m : Int), e = .returned (.tuple #[.agg #[a, b], .int .i64 m]) ∧ DevAt w' (.agg #[a, b]) d ∧ (d.blocks.length ≤ 1000 ∧ d.pend.length ≤ 1000) ∧ Below w.heap.size w w'
theorem DevAt.stw {w : World} {a b : Value} {d : Dv} (h : DevAt w (.agg #[a, b]) d) (q o : Nat) (u : Value) (hne : ∀ bb off n c, (a = .slice (some ⟨bb, off, none⟩) n c ∨ b = .slice (some ⟨bb, off, none⟩) n c) → bb ≠ q) : DevAt (w.setCell ⟨q, o, none⟩ u) (.agg #[a, b]) d := by
  obtain ⟨a', b', e, h1, h2⟩ := h
  cases e
  exact ⟨a, b, rfl, h1.stw q o u fun bb off n c e => hne bb off n c (.inl e), h2.stw q o u fun bb off n c e => hne bb off n c (.inr e)⟩

set_option maxRecDepth 100000 in
set_option maxHeartbeats 2000000 in
theorem sdrawCrash_any (S : Src) (ok : S.ok) (w : World) (hl : Lies S w) :
    Calls Try.prog 10 #[.slice S.a S.len S.cap] w fun e w' => SaysDc w e w' := by
  have BL0 := below_lit w (.cells #[.slice none 0 0, .slice none 0 0] 27)
  have hR0 := heap_a1 w (.cells #[.slice none 0 0, .slice none 0 0] 27)
  have hs0 : (w.alloc (.cells #[.slice none 0 0, .slice none 0 0] 27)).heap.size = w.heap.size + 1 := by simp
  have HN := new_any S ok _ (hl.below BL0)
  rw [hs0] at HN
  go_enter Try.func10, Try.ntmps10
  go_wp2_with fail
  refine HN.mono ?_
  rintro e w1 ⟨rfl, c1, b1⟩
  have B1 := BL0.trans (b1.mono (by omega))
  have hR1 := (b1.block _ (by omega)).trans hR0
  generalize s0 S = s1 at c1
  obtain ⟨p, Hp⟩ : ∃ p, Hid (p = w.heap.size + 1) := ⟨_, rfl⟩
  rw [← Hp.out] at c1 ⊢
  have hpw : w.heap.size < p := by rw [Hp.out]; omega
  clear BL0 hR0 HN b1 hs0
  go_wp2_with fail
  refine (below_any S ok 256 p s1 _ c1).mono ?_
  rintro e w2 ⟨rfl, c2, g2⟩
  have x1 := bX_bd S 256 s1 (by decide)
  generalize bX S 256 s1 = z1 at x1
  generalize bS S 256 s1 = s2 at c2
  have hw1 : IntKind.i64.wrap (z1 * 257) = z1 * 257 := by rw [IntKind.wrap_i64]; omega
  go_wp2_with fail
  refine (below_any S ok 256 p s2 _ c2).mono ?_
  rintro e w3 ⟨rfl, c3, g3⟩
  have x2 := bX_bd S 256 s2 (by decide)
  generalize bX S 256 s2 = z2 at x2
  generalize bS S 256 s2 = s3 at c3
  have hw2 : IntKind.i64.wrap (z1 * 257 + z2) = z1 * 257 + z2 := by rw [IntKind.wrap_i64]; omega
  go_wp2_with fail
  refine (once_any S ok 8 p s3 _ c3).mono ?_
  rintro e w4 ⟨rfl, c4, g4⟩
  generalize (bX S 8 s3 == 0) = o1
  generalize bS S 8 s3 = s4 at c4
  have g14 := gb_trans (gb_trans g2 g3) g4
  have hp1 := c1.size
  clear g2 g3 g4 c2 c3
  have HSZ := fun w' => size_any S ok 25 (by decide) (by decide) w'
  have B4 : Below w.heap.size w w4 := ⟨g14.os.trans B1.os, g14.tape.trans B1.tape, g14.output.trans B1.output, Nat.le_trans B1.size g14.size, fun k hk => (g14.block k (by have := B1.size; omega) (fun e => by have := Option.some.inj e; omega)).trans (B1.block k hk)⟩
  have hR4 := (g14.block w.heap.size (lt_of_block hR1) (fun e => by have := Option.some.inj e; omega)).trans hR1
  clear g14 B1 hR1 c1
  cases o1 with
  | false =>
    obtain ⟨w5, hw5⟩ : ∃ w5, w5 = w4 := ⟨_, rfl⟩
    obtain ⟨s5, hs5⟩ : ∃ s5, s5 = s4 := ⟨_, rfl⟩
    have c5 := c4
    have hR5 := hR4
    have B5 := B4
    rw [← hw5] at c5 hR5 B5 ⊢
    rw [← hs5] at c5
    clear c4 hR4 B4 hw5 hs5
    have HD5 := fun r (hr : r ≤ 1000) => l8Dev_any S ok r hr p s5 w5 c5
    go_wp2_with fail
    refine (HSZ _).mono ?_
    rintro e w6 ⟨r, hr, rfl, rfl⟩
    go_wp2_with fail
    refine (HD5 r hr).mono ?_
    rintro e w7 ⟨a, b, d, s7, rfl, hat, hlen, c7, g7, hlow⟩
    have hR7 := (g7.block w.heap.size (lt_of_block hR5) (fun e => by have := Option.some.inj e; omega)).trans hR5
    have B7 : Below w.heap.size w w7 := ⟨g7.os.trans B5.os, g7.tape.trans B5.tape, g7.output.trans B5.output, Nat.le_trans B5.size g7.size, fun k hk => (g7.block k (by have := B5.size; omega) (fun e => by have := Option.some.inj e; omega)).trans (B5.block k hk)⟩
    obtain ⟨a', b', e, h1, h2⟩ := id hat
    cases e
    obtain ⟨aa, ac, ha, -, hca⟩ := h1
    obtain ⟨ba, bc, hb, -, hcb⟩ := h2
    have hne : ∀ bb off n c, (a = .slice (some ⟨bb, off, none⟩) n c ∨ b = .slice (some ⟨bb, off, none⟩) n c) → bb ≠ w.heap.size := fun bb off n c e => by have := hlow bb off n c e; have := lt_of_block hR5; omega
    have r0 := cell_blk hR7 0
    have r1 := cell_blk hR7 1
    have rf := fun i => unfrozen_blk hR7 i
    dsimp at r0 r1
    have HA : Hid _ := (hat.stw w.heap.size 0 a hne).stw w.heap.size 1 b hne
    clear hca hcb
    generalize d.blocks.length = n1 at ha
    generalize d.pend.length = n2 at hb
    subst ha
    subst hb
    have HX : Hid _ := And.intro hR7 B7
    have HLN : Hid _ := hlen
    clear hat hR7 B7 hlen hne c7 g7 hlow
    go_wp2
    exact bodyPost_ret (results_devb Try.results10 _ _ w.heap.size _ _ rfl rfl rfl (put2d _ _ HX.out.1)) rfl ⟨_, _, d, _, rfl, HA.out, HLN.out, (HX.out.2.setCell (Nat.le_refl _) _).setCell (Nat.le_refl _) _⟩
  | true =>
    have BP := below_lit w4 (.cells #[.int .i64 (-1), .int .i64 0, .int .i64 9223372036854775807, .int .i64 1099511627775] 3)
    have hpk := heap_a1 w4 (.cells #[.int .i64 (-1), .int .i64 0, .int .i64 9223372036854775807, .int .i64 1099511627775] 3)
    have hz4 : p < w4.heap.size := c4.size
    go_wp2_with fail
    refine (pick_any S ok [-1, 0, 9223372036854775807, 1099511627775] 4 rfl w4.heap.size 3 p s4 _ (c4.below (BP.mono c4.size)) (by decide) (by decide) (by omega) hpk).mono ?_
    rintro e w5 ⟨rfl, c5, g5⟩
    have hR5 := (g5.block w.heap.size (by have := lt_of_block hR4; simp; omega) (fun e => by have := Option.some.inj e; omega)).trans ((BP.block _ (lt_of_block hR4)).trans hR4)
    have B5' := B4.trans (BP.mono B4.size)
    have B5 : Below w.heap.size w w5 := ⟨g5.os.trans B5'.os, g5.tape.trans B5'.tape, g5.output.trans B5'.output, Nat.le_trans B5'.size g5.size, fun k hk => (g5.block k (by have := B5'.size; omega) (fun e => by have := Option.some.inj e; omega)).trans (B5'.block k hk)⟩
    generalize pX S [-1, 0, 9223372036854775807, 1099511627775] s4 = z5
    generalize bS S (([-1, 0, 9223372036854775807, 1099511627775] : List Int).length : Int) s4 = s5 at c5
    clear c4 hR4 B4 BP hpk g5 B5'
    have HD5 := fun r (hr : r ≤ 1000) => l8Dev_any S ok r hr p s5 w5 c5
    go_wp2_with fail
    refine (HSZ _).mono ?_
    rintro e w6 ⟨r, hr, rfl, rfl⟩
    go_wp2_with fail
    refine (HD5 r hr).mono ?_
    rintro e w7 ⟨a, b, d, s7, rfl, hat, hlen, c7, g7, hlow⟩
    have hR7 := (g7.block w.heap.size (lt_of_block hR5) (fun e => by have := Option.some.inj e; omega)).trans hR5
    have B7 : Below w.heap.size w w7 := ⟨g7.os.trans B5.os, g7.tape.trans B5.tape, g7.output.trans B5.output, Nat.le_trans B5.size g7.size, fun k hk => (g7.block k (by have := B5.size; omega) (fun e => by have := Option.some.inj e; omega)).trans (B5.block k hk)⟩
    obtain ⟨a', b', e, h1, h2⟩ := id hat
    cases e
    obtain ⟨aa, ac, ha, -, hca⟩ := h1
    obtain ⟨ba, bc, hb, -, hcb⟩ := h2
    have hne : ∀ bb off n c, (a = .slice (some ⟨bb, off, none⟩) n c ∨ b = .slice (some ⟨bb, off, none⟩) n c) → bb ≠ w.heap.size := fun bb off n c e => by have := hlow bb off n c e; have := lt_of_block hR5; omega
    have r0 := cell_blk hR7 0
    have r1 := cell_blk hR7 1
    have rf := fun i => unfrozen_blk hR7 i
    dsimp at r0 r1
    have HA : Hid _ := (hat.stw w.heap.size 0 a hne).stw w.heap.size 1 b hne
    clear hca hcb
    generalize d.blocks.length = n1 at ha
    generalize d.pend.length = n2 at hb
    subst ha
    subst hb
    have HX : Hid _ := And.intro hR7 B7
    have HLN : Hid _ := hlen
    clear hat hR7 B7 hlen hne c7 g7 hlow
    go_wp2
    exact bodyPost_ret (results_devb Try.results10 _ _ w.heap.size _ _ rfl rfl rfl (put2d _ _ HX.out.1)) rfl ⟨_, _, d, _, rfl, HA.out, HLN.out, (HX.out.2.setCell (Nat.le_refl _) _).setCell (Nat.le_refl _) _⟩

end Go.Proofs.Ytpmdhoiodbjojaa
