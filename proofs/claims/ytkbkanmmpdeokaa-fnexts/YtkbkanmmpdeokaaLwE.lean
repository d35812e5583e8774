/- FnExts' walk, given what the program's four functions answer. -/
import Derived.Test.YtkbkanmmpdeokaaRows
import Derived.Test.YtkbkanmmpdeokaaExF
import Derived.Test.YtkbkanmmpdeokaaExD
namespace Go.Proofs.Ytkbkanmmpdeokaa
open Go.RowKit Go.Sort

/-- what impl.BlockAt, PutBlock, CutAt and BlocksOf answer, wherever the blocks of w0 lie as they did -/
structure ExImpl (w0 : World) : Prop where
  b : ∀ (v : Value) (l : List Ex) (i : Int) (w : World), Below w0.heap.size w0 w → ExsAt w v l → l.length ≤ 1048576 → Calls Try.prog 14 #[v, .int .i64 i] w fun e w' => e = .returned (.int .i64 (blockN l i)) ∧ Below w.heap.size w w'
  p : ∀ (v : Value) (l : List Ex) (i b : Int) (w : World), Below w0.heap.size w0 w → ExsAt w v l → l.length ≤ 1048576 → Calls Try.prog 11 #[v, .int .i64 i, .int .i64 b] w fun e w' => SaysPt w (putN l i b) (putB l i b) e w'
  c : ∀ (v : Value) (l : List Ex) (n : Int) (w : World), Below w0.heap.size w0 w → ExsAt w v l → l.length ≤ 1048576 → Calls Try.prog 19 #[v, .int .i64 n] w fun e w' => SaysCt w (cutN l n) (goneE l n) e w'
  s : ∀ (v : Value) (l : List Ex) (w : World), Below w0.heap.size w0 w → ExsAt w v l → l.length ≤ 1048576 → Calls Try.prog 16 #[v] w fun e w' => ∃ u, e = .returned u ∧ IntRow w' w.heap.size u (blocksN l) ∧ Below w.heap.size w w'

theorem bool_ne_self (b : Bool) : (b != b) = false := by cases b <;> rfl
theorem int_ne_self (b : Int) : (b != b) = false := by simp

set_option maxRecDepth 100000 in
set_option maxHeartbeats 8000000 in
theorem exts_walk {w : World} (I : ExImpl w) (S : Src) (ok : S.ok) (hl : Lies S w) :
    Calls Try.prog 3 #[.slice S.a S.len S.cap] w fun e w' => e = .returned (.bool true) ∧ Below w.heap.size w w' := by
  have hlen : S.len ≤ 1048576 := ok.1
  have HDR := drawPutBlock_any S ok w hl
  go_enter Try.func3, Try.ntmps3
  go_wp2_with (first | (go_at_call 9; go_in))
  refine HDR.mono ?_
  rintro _ w1 ⟨vl, l, i, b, rfl, hl1, hll, b1⟩
  clear HDR
  go_wp2_with fail
  refine (I.p vl l i b w1 b1 hl1 (by omega)).mono ?_
  rintro _ w2 ⟨vx, rfl, r2, b2⟩
  have B2 := b1.trans (b2.mono b1.size)
  have hl2 := hl1.below b2
  have hx2 := r2.at
  have hxl := putN_len l i b hll
  go_wp2_with fail
  refine (sPutBlock vl l i b w2 (by omega) hl2).mono ?_
  rintro _ w3 ⟨vy, rfl, -, b3⟩
  have B3 := B2.trans (b3.mono B2.size)
  have hl3 := hl2.below b3
  have hx3 := hx2.below b3
  have HT := bool_ne_self (putB l i b)
  have HOK := sExtsOk vl l w3 (by omega) hl3
  clear r2 b1 b2 b3 hl1 hl2 hx2 B2
  by_cases h : ExR l
  · rw [okE_yes h] at HOK
    obtain ⟨P1, P2, P3⟩ := put_facts h i b
    have HP2 : Hid _ := P2
    have HP3 : Hid _ := P3
    clear P2 P3 h
    generalize putN l i b = x at *
    generalize putB l i b = is at *
    go_wp2_with (go_at_call 13; refine HOK.mono ?_; rintro e w4 ⟨rfl, b4⟩)
    have B4 := B3.trans (b4.mono B3.size)
    have hl4 := hl3.below b4
    have hx4 := hx3.below b4
    clear HOK HT hl3 hx3 b4 B3
    go_loopw [10, 11] (fun kv _ wr => ∃ k : Nat, k ≤ 12 ∧ kv = .int .i64 k ∧ Below w4.heap.size w4 wr) (fun kv _ _ => 12 - (intOf kv).toNat)
    case atStart => exact ⟨0, Nat.zero_le _, rfl, Below.refl _ _⟩
    case round =>
      obtain ⟨k, hk, rfl, hbel⟩ := hrel
      by_cases hlt : k < 12
      · have hltz : (k : Int) < 12 := by omega
        have HB1 := sBlockAt vl l k wr (by omega) (hl4.below hbel)
        have HB2 := fun w' (b' : Below wr.heap.size wr w') => I.b vx x k w' ((B4.trans (hbel.mono B4.size)).trans (b'.mono (Nat.le_trans B4.size hbel.size))) ((hx4.below hbel).below b') (by omega)
        have HAT := HP2.out k hlt
        generalize blockN l k = y at *
        generalize blockN x k = z at *
        clear HP2 HP3
        cases is with
        | false =>
          rw [if_neg (fun h => by cases h.1)] at HAT
          subst HAT
          have hne := int_ne_self z
          go_wp2_with (first | (go_at_call 15; refine HB1.mono ?_; rintro e w5 ⟨rfl, b5⟩) | (go_at_call 14; refine (HB2 _ b5).mono ?_; rintro e w6 ⟨rfl, b6⟩; have B6 := b5.trans (b6.mono b5.size)))
          go_roundw
          case rel => exact ⟨k + 1, by omega, by go_num, hbel.trans (B6.mono hbel.size)⟩
          case measure => simp [intOf]; omega
        | true =>
          by_cases e : (k : Int) = i
          · rw [if_pos ⟨rfl, e⟩] at HAT
            subst HAT
            have eb : ((k : Int) == i) = true := by rw [beq_iff_eq]; exact e
            have hne := int_ne_self z
            clear e
            go_wp2_with (first | (go_at_call 15; refine HB1.mono ?_; rintro e w5 ⟨rfl, b5⟩) | (go_at_call 14; refine (HB2 _ b5).mono ?_; rintro e w6 ⟨rfl, b6⟩; have B6 := b5.trans (b6.mono b5.size)))
            go_roundw
            case rel => exact ⟨k + 1, by omega, by go_num, hbel.trans (B6.mono hbel.size)⟩
            case measure => simp [intOf]; omega
          · rw [if_neg (fun h => e h.2)] at HAT
            subst HAT
            have eb : ((k : Int) == i) = false := by rw [beq_eq_false_iff_ne]; exact e
            have hne := int_ne_self z
            clear e
            go_wp2_with (first | (go_at_call 15; refine HB1.mono ?_; rintro e w5 ⟨rfl, b5⟩) | (go_at_call 14; refine (HB2 _ b5).mono ?_; rintro e w6 ⟨rfl, b6⟩; have B6 := b5.trans (b6.mono b5.size)))
            go_roundw
            case rel => exact ⟨k + 1, by omega, by go_num, hbel.trans (B6.mono hbel.size)⟩
            case measure => simp [intOf]; omega
      · obtain rfl : k = 12 := by omega
        have B5 := B4.trans (hbel.mono B4.size)
        have hl5 := hl4.below hbel
        have hx5 := hx4.below hbel
        clear B4 hbel hl4 hx4 HP2
        have HOX := sExtsOk vx x wr (by omega) hx5
        rw [P1] at HOX
        go_upto_region 18 with fail
        go_cut [89] from 74 (fun bv wx => bv = .bool false ∧ Below wr.heap.size wr wx)
        case first =>
          cases is with
          | false =>
            go_wp2_with (go_at_call 13; refine HOX.mono ?_; rintro e w6 ⟨rfl, b6⟩)
            go_meet
            exact ⟨rfl, b6⟩
          | true =>
            have hn := HP3.out rfl
            have hb1 := blocksN_len l
            have HS1 := fun w' (b' : Below wr.heap.size wr w') => I.s vx x w' (B5.trans (b'.mono B5.size)) (hx5.below b') (by omega)
            have HS2 := fun w' (b' : Below wr.heap.size wr w') => sBlocksOf vl l w' (by omega) (hl5.below b')
            generalize blocksN x = bx at *
            generalize blocksN l = bl at *
            have hw1 : IntKind.i64.wrap ((bl.length : Int) + 1) = (bl.length : Int) + 1 := by rw [IntKind.wrap_i64]; omega
            go_wp2_with fail
            refine HOX.mono ?_
            rintro _ w6 ⟨rfl, b6⟩
            go_wp2_with fail
            refine (HS1 _ b6).mono ?_
            rintro _ w7 ⟨u7, rfl, r7, b7⟩
            have B7 := b6.trans (b7.mono b6.size)
            obtain ⟨a7, c7, e7, -⟩ := r7.at
            rw [hn] at e7
            subst e7
            clear r7
            go_wp2_with fail
            refine (HS2 _ B7).mono ?_
            rintro _ w8 ⟨u8, rfl, r8, b8⟩
            have B8 := B7.trans (b8.mono B7.size)
            obtain ⟨a8, c8, e8, -⟩ := r8.at
            subst e8
            clear r8 hn
            go_wp2_with fail
            go_meet
            exact ⟨by simp, B8⟩
        case rest =>
          obtain ⟨rfl, b6⟩ := hcut
          have B6 := B5.trans (b6.mono B5.size)
          clear HOX HP3 hl5 hx5 B5 b6 hll hxl
          have HDR := drawCutAt_any S ok wc (hl.below B6)
          go_wp2_with fail
          refine HDR.mono ?_
          rintro _ w1 ⟨vm, m, n, rfl, hm1, hml, b1⟩
          have B1 := B6.trans (b1.mono B6.size)
          clear HDR b1 B6
          go_wp2_with fail
          refine (I.c vm m n w1 B1 hm1 (by omega)).mono ?_
          rintro _ w2 ⟨vy, vg, rfl, r2, g2, b2⟩
          have B2 := B1.trans (b2.mono B1.size)
          have hm2 := hm1.below b2
          have hy2 := r2.at
          have hg2 := g2.at
          have hyl := cutN_len m n
          have hgl := goneE_len m n
          have HOM := sExtsOk vm m w2 (by omega) hm2
          clear r2 g2 b2 hm1 B1
          by_cases h : ExR m
          · rw [okE_yes h] at HOM
            obtain ⟨P1, P2, P3⟩ := cut_facts h n
            have HP2 : Hid _ := P2
            have HP3 : Hid _ := P3
            clear P2 P3 h
            generalize cutN m n = y at *
            generalize goneE m n = g at *
            go_wp2_with (go_at_call 13; refine HOM.mono ?_; rintro e w4 ⟨rfl, b4⟩)
            have B4 := B2.trans (b4.mono B2.size)
            have hm4 := hm2.below b4
            have hy4 := hy2.below b4
            clear HOM hm2 hy2 b4 B2
            go_loopw [16, 17] (fun kv _ wr => ∃ k : Nat, k ≤ 12 ∧ kv = .int .i64 k ∧ Below w4.heap.size w4 wr) (fun kv _ _ => 12 - (intOf kv).toNat)
            case atStart => exact ⟨0, Nat.zero_le _, rfl, Below.refl _ _⟩
            case round =>
              obtain ⟨k, hk, rfl, hbel⟩ := hrel
              by_cases hlt : k < 12
              · have hltz : (k : Int) < 12 := by omega
                have HB1 := sBlockAt vm m k wr (by omega) (hm4.below hbel)
                have HB2 := fun w' (b' : Below wr.heap.size wr w') => I.b vy y k w' ((B4.trans (hbel.mono B4.size)).trans (b'.mono (Nat.le_trans B4.size hbel.size))) ((hy4.below hbel).below b') (by omega)
                have HAT := HP2.out k hlt
                generalize blockN m k = t at *
                generalize blockN y k = z at *
                clear HP2 HP3
                by_cases e : n ≤ (k : Int)
                · rw [if_pos e] at HAT
                  subst HAT
                  go_wp2_with (first | (go_at_call 15; refine HB1.mono ?_; rintro e w5 ⟨rfl, b5⟩) | (go_at_call 14; refine (HB2 _ b5).mono ?_; rintro e w6 ⟨rfl, b6⟩; have B6 := b5.trans (b6.mono b5.size)))
                  go_roundw
                  case rel => exact ⟨k + 1, by omega, by go_num, hbel.trans (B6.mono hbel.size)⟩
                  case measure => simp [intOf]; omega
                · rw [if_neg e] at HAT
                  subst HAT
                  have hne := int_ne_self z
                  go_wp2_with (first | (go_at_call 15; refine HB1.mono ?_; rintro e w5 ⟨rfl, b5⟩) | (go_at_call 14; refine (HB2 _ b5).mono ?_; rintro e w6 ⟨rfl, b6⟩; have B6 := b5.trans (b6.mono b5.size)))
                  go_roundw
                  case rel => exact ⟨k + 1, by omega, by go_num, hbel.trans (B6.mono hbel.size)⟩
                  case measure => simp [intOf]; omega
              · obtain rfl : k = 12 := by omega
                have B5 := B4.trans (hbel.mono B4.size)
                have hm5 := hm4.below hbel
                have hy5 := hy4.below hbel
                clear B4 hbel hm4 hy4 HP2
                have HOX := sExtsOk vy y wr (by omega) hy5
                rw [P1] at HOX
                have hn := HP3.out
                have hb1 := blocksN_len m
                have HS1 := fun w' (b' : Below wr.heap.size wr w') => I.s vy y w' (B5.trans (b'.mono B5.size)) (hy5.below b') (by omega)
                have HS2 := fun w' (b' : Below wr.heap.size wr w') => sBlocksOf vm m w' (by omega) (hm5.below b')
                obtain ⟨ag, cg, eg, -⟩ := hg2
                generalize blocksN y = by' at *
                generalize blocksN m = bm at *
                subst eg
                have hw1 : IntKind.i64.wrap ((by'.length : Int) + (g.length : Int)) = (bm.length : Int) := by rw [IntKind.wrap_i64]; omega
                clear hn hgl hb1 HP3
                go_wp2_with fail
                refine HOX.mono ?_
                rintro _ w6 ⟨rfl, b6⟩
                go_wp2_with fail
                refine (HS1 _ b6).mono ?_
                rintro _ w7 ⟨u7, rfl, r7, b7⟩
                have B7 := b6.trans (b7.mono b6.size)
                obtain ⟨a7, c7, e7, -⟩ := r7.at
                subst e7
                clear r7
                go_wp2_with fail
                refine (HS2 _ B7).mono ?_
                rintro _ w8 ⟨u8, rfl, r8, b8⟩
                have B8 := B7.trans (b8.mono B7.size)
                obtain ⟨a8, c8, e8, -⟩ := r8.at
                subst e8
                clear r8
                go_wp2
                go_ret
                exact ⟨rfl, B5.trans (B8.mono B5.size)⟩
          · rw [okE_no h] at HOM
            obtain ⟨e1, e2⟩ := (bad_facts h).2 n
            rw [e1] at hy2
            rw [e2] at hg2
            obtain ⟨ay, cy, ey, -⟩ := hy2
            obtain ⟨ag, cg, eg, -⟩ := hg2
            rw [List.length_nil] at ey eg
            subst ey eg
            go_wp2_with (go_at_call 13; refine HOM.mono ?_; rintro e w4 ⟨rfl, b4⟩)
            go_ret
            exact ⟨rfl, B2.trans (b4.mono B2.size)⟩
  · rw [okE_no h] at HOK
    obtain ⟨e1, e2⟩ := (bad_facts h).1 i b
    have HB := fun w' (b' : Below w3.heap.size w3 w') => I.b vl l i w' (B3.trans (b'.mono B3.size)) (hl3.below b') (by omega)
    rw [e2] at HB
    rw [e1] at hx3
    obtain ⟨ax, cx, ex, -⟩ := hx3
    rw [List.length_nil] at ex
    subst ex
    generalize putB l i b = is at HT
    go_wp2_with (first | (go_at_call 13; refine HOK.mono ?_; rintro e w4 ⟨rfl, b4⟩) | (go_at_call 14; refine (HB _ b4).mono ?_; rintro e w5 ⟨rfl, b5⟩))
    go_ret
    exact ⟨rfl, B3.trans ((b4.trans (b5.mono b4.size)).mono B3.size)⟩
end Go.Proofs.Ytkbkanmmpdeokaa
