/- Names in order: the library's breakPatterns: three places, each exchanged with any other one. Names in order: the library's insertionSort, at places that are held against each other by the names that stand there. -/
import Derived.Test.YtlkemmdcjnaepaaDoorRows
import Derived.Test.YtlkemmdcjnaepaaDoorH00
import Derived.Test.YtlkemmdcjnaepaaDoorShX
import Derived.Sort.LotD1
import Derived.Sort.LotD5
import Derived.Sort.Walk7a
import Derived.Sort.WalkA
namespace Go.Proofs.YtlkemmdcjnaepaaDoor

section
open Go.RowKit Go.Sort Go.Shelf Go.Lib

theorem next_any (rb X : Nat) (hX : X < 18446744073709551616) (w : World) (hc : w.cell? ⟨rb, 0, none⟩ = some (.int .u64 X)) (hf : w.frozen? ⟨rb, 0, none⟩ = false) :
    Calls Tryd.prog 96 #[.pointer (some ⟨rb, 0, none⟩)] w fun e w' => ∃ Y : Nat, e = .returned (.int .u64 (Y : Int)) ∧ Y < 18446744073709551616 ∧ w' = (w.setCell ⟨rb, 0, none⟩ (.int .u64 (Y : Int))).drewN 3 := by
  have h : Calls Tryd.prog 96 #[.pointer (some ⟨rb, 0, none⟩)] w fun e w' => e = .returned (.int .u64 (xorNextN X : Nat)) ∧ w' = (w.setCell ⟨rb, 0, none⟩ (.int .u64 (xorNextN X : Nat))).drewN 3 := AnyF.xorshift_Next Tryd.laysXor rb 0 X hX w hc hf
  exact h.mono fun e w' ⟨h1, h2⟩ => ⟨xorNextN X, h1, xorNextN_lt X hX, h2⟩
theorem npt_any (n : Nat) (hn0 : 0 < n) (hn : n < 4611686018427387904) (w : World) :
    Calls Tryd.prog 95 #[.int .i64 n] w fun e w' => ∃ M : Nat, e = .returned (.int .u64 (M : Int)) ∧ (1 ≤ M ∧ M ≤ 2 * n) ∧ w' = w := by
  have h : Calls Tryd.prog 95 #[.int .i64 n] w fun e w' => e = .returned (.int .u64 ((1 <<< bitsLen n : Nat) : Int)) ∧ w' = w := AnyF.nextPowerOfTwo Tryd.laysNpt n hn w
  refine h.mono fun e w' ⟨h1, h2⟩ => ⟨1 <<< bitsLen n, h1, ⟨?_, ?_⟩, h2⟩
  · rw [Nat.one_shiftLeft]; exact Nat.two_pow_pos _
  · rw [Nat.one_shiftLeft]; exact two_pow_bitsLen_le hn0

/-- a row between whose ends places were exchanged, and a box of a number -/
def BrF {m : Nat} (w0 : World) (blk off a b rb : Nat) (d : Array (Fin (m + 1))) (W : World) : Prop :=
  ∃ (dk : Array (Fin (m + 1))) (X : Nat), PermIn a b d dk ∧ SW encF w0 blk off dk W ∧ X < 18446744073709551616 ∧ W.cell? ⟨rb, 0, none⟩ = some (.int .u64 (X : Int)) ∧ W.frozen? ⟨rb, 0, none⟩ = false

set_option maxRecDepth 100000 in
set_option maxHeartbeats 4000000 in
theorem break_any {m : Nat} {w0 : World} {blk off : Nat} {d0 : Array (Fin (m + 1))} {rv : Value} {cf : Fin (m + 1) → Fin (m + 1) → Int} (S : Sby m w0 blk off d0 rv cf) (cap a l : Nat) (d : Array (Fin (m + 1))) (w : World) (hw : SW encF w0 blk off d w) (hs : d.size = d0.size) (hl : 8 ≤ l) (hb : a + l ≤ d.size) :
    Calls Tryd.prog 74 #[.slice (some ⟨blk, off, none⟩) d.size cap, .int .i64 a, .int .i64 ((a + l : Nat) : Int), .func (.func 37) #[rv] #[]] w fun e w' => e = .returned (.tuple #[]) ∧ ∃ d', PermIn a (a + l) d d' ∧ SW encF w0 blk off d' w' := by
  have mixed : Tryd.prog.follows .mixedOrders = true := by kernel_rfl
  have hsz := S.hs
  have hle := hw.le
  have HSW : Hid (∀ dk W i j, dk.size = d.size → SW encF w0 blk off dk W → i < d.size → j < d.size → (W.cell? ⟨blk, off + i, none⟩ = some (.int .i64 ((dk[i]!.val : Nat) : Int)) ∧ W.cell? ⟨blk, off + j, none⟩ = some (.int .i64 ((dk[j]!.val : Nat) : Int))) ∧ (W.frozen? ⟨blk, off + i, none⟩ = false ∧ W.frozen? ⟨blk, off + j, none⟩ = false) ∧
    (∃ u, (W.setCell ⟨blk, off + i, none⟩ (.int .i64 ((dk[j]!.val : Nat) : Int))).cell? ⟨blk, off + j, none⟩ = some u) ∧
    SW encF w0 blk off (swp dk i j) ((W.setCell ⟨blk, off + i, none⟩ (.int .i64 ((dk[j]!.val : Nat) : Int))).setCell ⟨blk, off + j, none⟩ (.int .i64 ((dk[i]!.val : Nat) : Int)))) := fun dk W i j h1 h2 h3 h4 => S.swap h2 (h1.trans hs) i j (by omega) (by omega)
  have HPT : Hid (∀ dk i j, PermIn a (a + l) d dk → a ≤ i → i < a + l → a ≤ j → j < a + l → PermIn a (a + l) d (swp dk i j)) := fun dk i j hp h1 h2 h3 h4 => permIn_trans _ _ _ _ _ hp (swp_permIn _ _ _ _ _ h1 h2 h3 h4 (by rw [hp.1]; exact hb))
  have HPS : Hid (∀ dk, PermIn a (a + l) d dk → dk.size = d.size) := fun dk hp => hp.1
  have hbne : w.heap.size ≠ blk := by have := S.R.hblk; omega
  have hbox : (w.alloc (.cells #[.int .u64 (l : Int)] 97)).heap[w.heap.size]? = some (.cells #[.int .u64 (l : Int)] 97 (0, 0)) := heap_alloc_new w _
  have HST : Hid (BrF w0 blk off a (a + l) w.heap.size d (w.alloc (.cells #[.int .u64 (l : Int)] 97))) := ⟨d, l, permIn_refl _ _ _, hw.alloc _, by omega, cell_of_row _ _ 0 _ _ (0, 0) hbox, frozen_of_row _ _ 0 _ _ hbox⟩
  have HNP := fun W => npt_any l (by omega) (by omega) W
  have HNX := fun X W h1 h2 h3 => next_any w.heap.size X h1 W h2 h3
  have HPUT : Hid (∀ (W : World) (dk : Array (Fin (m + 1))) (Y : Nat), SW encF w0 blk off dk W → W.cell? ⟨w.heap.size, 0, none⟩ ≠ none → Y < 18446744073709551616 → W.frozen? ⟨w.heap.size, 0, none⟩ = false →
      SW encF w0 blk off dk ((W.setCell ⟨w.heap.size, 0, none⟩ (.int .u64 (Y : Int))).drewN 3) ∧ ((W.setCell ⟨w.heap.size, 0, none⟩ (.int .u64 (Y : Int))).drewN 3).cell? ⟨w.heap.size, 0, none⟩ = some (.int .u64 (Y : Int)) ∧ ((W.setCell ⟨w.heap.size, 0, none⟩ (.int .u64 (Y : Int))).drewN 3).frozen? ⟨w.heap.size, 0, none⟩ = false) := fun W dk Y h1 h2 h3 h4 => by
    refine ⟨(h1.setCell_new _ 0 _ hle).drewN 3, ?_, ?_⟩
    · cases hc : W.cell? ⟨w.heap.size, 0, none⟩ with
      | none => exact absurd hc h2
      | some u => exact World.cell?_setCell_same _ _ _ hc
    · show (W.setCell _ _).frozen? _ = _
      rw [World.frozen?_setCell]; exact h4
  have HBX : Hid (∀ (W : World) (x y : Nat) (u u' : Value) (Y : Nat), W.cell? ⟨w.heap.size, 0, none⟩ = some (.int .u64 (Y : Int)) → W.frozen? ⟨w.heap.size, 0, none⟩ = false → ((W.setCell ⟨blk, x, none⟩ u).setCell ⟨blk, y, none⟩ u').drew.cell? ⟨w.heap.size, 0, none⟩ = some (.int .u64 (Y : Int)) ∧ ((W.setCell ⟨blk, x, none⟩ u).setCell ⟨blk, y, none⟩ u').drew.frozen? ⟨w.heap.size, 0, none⟩ = false) := fun W x y u u' Y h1 h2 => box_kept_swap1 hbne h1 h2 x y u u'
  have h1 : IntKind.i64.wrap ((a : Int) + (l : Int) - (a : Int)) = (l : Int) := by rw [IntKind.wrap_i64]; omega
  obtain ⟨q, hq⟩ : ∃ q : Nat, q = l / 4 := ⟨_, rfl⟩
  have q0 : IntKind.i64.wrap ((l : Int) / 4) = (q : Int) := by rw [IntKind.wrap_i64]; omega
  have q2 : IntKind.i64.wrap ((q : Int) * 2) = (q : Int) * 2 := by rw [IntKind.wrap_i64]; omega
  have r2 : IntKind.i64.wrap ((a : Int) + (q : Int) * 2) = (a : Int) + (q : Int) * 2 := by rw [IntKind.wrap_i64]; omega
  have r3 : IntKind.i64.wrap ((a : Int) + (q : Int) * 2 - 1) = (a : Int) + (q : Int) * 2 - 1 := by rw [IntKind.wrap_i64]; omega
  have r4 : IntKind.i64.wrap ((a : Int) + (q : Int) * 2 + 1) = (a : Int) + (q : Int) * 2 + 1 := by rw [IntKind.wrap_i64]; omega
  have h8 : (8 : Int) ≤ (l : Int) := by omega
  have hu : IntKind.u64.wrap (l : Int) = (l : Int) := by simp [IntKind.wrap, IntKind.bits, IntKind.signed]; omega
  have hq1 : 2 ≤ q ∧ q * 4 ≤ l := by omega
  obtain ⟨hq1, hq2⟩ := hq1
  clear hw hq
  generalize d.size = n at *
  go_enter Tryd.func74, Tryd.ntmps74
  go_wp2_with (go_at_call 95; refine (HNP _).mono ?_; rintro e w' ⟨M, rfl, ⟨hM1, hM2⟩, rfl⟩)
  have hM64 : IntKind.u64.wrap ((M : Int) - 1) = (M : Int) - 1 := by simp [IntKind.wrap, IntKind.bits, IntKind.signed]; omega
  go_loopw [11] (fun vi wr => ∃ k : Nat, vi = .int .i64 k ∧ a + q * 2 ≤ k + 1 ∧ k ≤ a + q * 2 + 2 ∧ Hid (BrF w0 blk off a (a + l) w.heap.size d wr)) (fun vi _ => a + q * 2 + 3 - (intOf vi).toNat)
  case atStart => exact ⟨a + q * 2 - 1, by congr 1; omega, by omega, by omega, HST⟩
  case round =>
    obtain ⟨k, rfl, hk1, hk2, hBR⟩ := hrel
    obtain ⟨dk, X, hp, hsw, hX, hcx, hfx⟩ := hBR.out
    by_cases hlt : k ≤ a + q * 2 + 1
    · have hltz : (k : Int) ≤ (a : Int) + (q : Int) * 2 + 1 := by omega
      have HN1 := HNX X wr hX hcx hfx
      go_wp2_with fail
      refine HN1.mono ?_
      rintro e w2 ⟨Y, rfl, hY, hw2⟩
      obtain ⟨s1, s2, s3⟩ := HPUT.out wr dk Y hsw (by rw [hcx]; exact fun h => nomatch h) hY hfx
      rw [← hw2] at s1 s2 s3
      obtain ⟨O, hO⟩ : ∃ O : Nat, O = Y &&& (M - 1) := ⟨_, rfl⟩
      have lO : O ≤ M - 1 := by rw [hO]; exact Nat.and_le_right
      have eAnd : bits .and .u64 (Y : Int) ((M : Int) - 1) = (O : Int) := by
        rw [show ((M : Int) - 1) = ((M - 1 : Nat) : Int) by omega, bits_and_u64_nat _ _ hY (by omega), hO]
      have o1 : IntKind.i64.wrap (O : Int) = (O : Int) := by rw [IntKind.wrap_i64]; omega
      clear hw2 hO hBR hsw hX hcx hfx HN1 HST
      by_cases hLO : l ≤ O
      · obtain ⟨t, ht⟩ : ∃ t, t = O - l := ⟨_, rfl⟩
        have hLOz : (l : Int) ≤ (O : Int) := by omega
        have o3 : IntKind.i64.wrap ((O : Int) - (l : Int)) = (t : Int) := by rw [IntKind.wrap_i64]; omega
        have htl : t < l := by omega
        clear ht
        have hk3 : k < n := by omega
        have ht3 : a + t < n := by omega
        obtain ⟨⟨c1, c2⟩, ⟨f1, f2⟩, ⟨u, c3⟩, hsw2⟩ := HSW.out dk w2 k (a + t) (HPS.out _ hp) s1 hk3 ht3
        have HS2 : Hid (SW encF w0 blk off (swp dk k (a + t)) ((w2.setCell ⟨blk, off + k, none⟩ (.int .i64 ((dk[a + t]!.val : Nat) : Int))).setCell ⟨blk, off + (a + t), none⟩ (.int .i64 ((dk[k]!.val : Nat) : Int))).drew) := hsw2.drewN 1
        have HP2 : Hid (PermIn a (a + l) d (swp dk k (a + t))) := HPT.out dk k (a + t) hp (by omega) (by omega) (by omega) (by omega)
        generalize ((dk[k]!.val : Nat) : Int) = x at *
        generalize ((dk[a + t]!.val : Nat) : Int) = y at *
        have HB2 := HBX.out w2 (off + k) (off + (a + t)) (.int .i64 y) (.int .i64 x) Y s2 s3
        have HB2 : Hid (((w2.setCell ⟨blk, off + k, none⟩ (.int .i64 y)).setCell ⟨blk, off + (a + t), none⟩ (.int .i64 x)).drew.cell? ⟨w.heap.size, 0, none⟩ = some (.int .u64 (Y : Int)) ∧ ((w2.setCell ⟨blk, off + k, none⟩ (.int .i64 y)).setCell ⟨blk, off + (a + t), none⟩ (.int .i64 x)).drew.frozen? ⟨w.heap.size, 0, none⟩ = false) := HB2
        have w1 : IntKind.i64.wrap ((k : Int) + 1) = ((k + 1 : Nat) : Int) := by rw [IntKind.wrap_i64]; omega
        have w3 : IntKind.i64.wrap ((a : Int) + (t : Int)) = ((a + t : Nat) : Int) := by rw [IntKind.wrap_i64]; omega
        have hin : (k : Int) < (n : Int) := by omega
        have hjn : ((a + t : Nat) : Int) < (n : Int) := by omega
        clear hsw2 hp s1 s2 s3 HSW HPT HPS HBX HPUT HNX
        go_upto_region 10 with fail
        go_big_region_o
        generalize ((w2.setCell ⟨blk, off + k, none⟩ (.int .i64 y)).setCell ⟨blk, off + (a + t), none⟩ (.int .i64 x)).drew = w4 at HS2 HB2 ⊢
        clear c1 c2 f1 f2 c3
        go_wp2
        go_roundw
        case rel => exact ⟨k + 1, rfl, by omega, by omega, ⟨_, Y, HP2.out, HS2.out, hY, HB2.out.1, HB2.out.2⟩⟩
        case measure => simp [intOf]; omega
      · obtain ⟨t, ht⟩ : ∃ t, t = O := ⟨_, rfl⟩
        subst ht
        have hLOz : ¬ (l : Int) ≤ (t : Int) := by omega
        have htl : t < l := by omega
        have hk3 : k < n := by omega
        have ht3 : a + t < n := by omega
        obtain ⟨⟨c1, c2⟩, ⟨f1, f2⟩, ⟨u, c3⟩, hsw2⟩ := HSW.out dk w2 k (a + t) (HPS.out _ hp) s1 hk3 ht3
        have HS2 : Hid (SW encF w0 blk off (swp dk k (a + t)) ((w2.setCell ⟨blk, off + k, none⟩ (.int .i64 ((dk[a + t]!.val : Nat) : Int))).setCell ⟨blk, off + (a + t), none⟩ (.int .i64 ((dk[k]!.val : Nat) : Int))).drew) := hsw2.drewN 1
        have HP2 : Hid (PermIn a (a + l) d (swp dk k (a + t))) := HPT.out dk k (a + t) hp (by omega) (by omega) (by omega) (by omega)
        generalize ((dk[k]!.val : Nat) : Int) = x at *
        generalize ((dk[a + t]!.val : Nat) : Int) = y at *
        have HB2 := HBX.out w2 (off + k) (off + (a + t)) (.int .i64 y) (.int .i64 x) Y s2 s3
        have HB2 : Hid (((w2.setCell ⟨blk, off + k, none⟩ (.int .i64 y)).setCell ⟨blk, off + (a + t), none⟩ (.int .i64 x)).drew.cell? ⟨w.heap.size, 0, none⟩ = some (.int .u64 (Y : Int)) ∧ ((w2.setCell ⟨blk, off + k, none⟩ (.int .i64 y)).setCell ⟨blk, off + (a + t), none⟩ (.int .i64 x)).drew.frozen? ⟨w.heap.size, 0, none⟩ = false) := HB2
        have w1 : IntKind.i64.wrap ((k : Int) + 1) = ((k + 1 : Nat) : Int) := by rw [IntKind.wrap_i64]; omega
        have w3 : IntKind.i64.wrap ((a : Int) + (t : Int)) = ((a + t : Nat) : Int) := by rw [IntKind.wrap_i64]; omega
        have hin : (k : Int) < (n : Int) := by omega
        have hjn : ((a + t : Nat) : Int) < (n : Int) := by omega
        clear hsw2 hp s1 s2 s3 HSW HPT HPS HBX HPUT HNX
        go_upto_region 10 with fail
        go_big_region_o
        generalize ((w2.setCell ⟨blk, off + k, none⟩ (.int .i64 y)).setCell ⟨blk, off + (a + t), none⟩ (.int .i64 x)).drew = w4 at HS2 HB2 ⊢
        clear c1 c2 f1 f2 c3
        go_wp2
        go_roundw
        case rel => exact ⟨k + 1, rfl, by omega, by omega, ⟨_, Y, HP2.out, HS2.out, hY, HB2.out.1, HB2.out.2⟩⟩
        case measure => simp [intOf]; omega
    · have hltz : ¬ (k : Int) ≤ (a : Int) + (q : Int) * 2 + 1 := by omega
      have HE : Hid (∃ d', PermIn a (a + l) d d' ∧ SW encF w0 blk off d' wr) := ⟨dk, hp, hsw⟩
      clear hp hsw hBR HST HSW HPT HPS HBX HPUT HNX hcx hfx
      go_wp2
      go_end0
      exact ⟨rfl, HE.out⟩
end

section
open Go.RowKit Go.Sort Go.Shelf Go.Lib

set_option maxRecDepth 100000 in
set_option maxHeartbeats 4000000 in
theorem ins_any {m : Nat} {w0 : World} {blk off : Nat} {d0 : Array (Fin (m + 1))} {rv : Value} {cf : Fin (m + 1) → Fin (m + 1) → Int} (S : Sby m w0 blk off d0 rv cf) (cap a b : Nat) (d : Array (Fin (m + 1))) (w : World) (hw : SW encF w0 blk off d w) (hs : d.size = d0.size) (hab : a ≤ b) (hb : b ≤ d.size) :
    Calls Tryd.prog 72 #[.slice (some ⟨blk, off, none⟩) d.size cap, .int .i64 a, .int .i64 b, .func (.func 37) #[rv] #[]] w fun e w' => e = .returned (.tuple #[]) ∧ SW encF w0 blk off (Sort.insertionSort (ltOf cf) d a b) w' := by
  have mixed : Tryd.prog.follows .mixedOrders = true := by kernel_rfl
  have hsz := S.hs
  have HSW : Hid (∀ (dk : Array (Fin (m + 1))) (W : World) (i j : Nat), dk.size = d.size → SW encF w0 blk off dk W → i < d.size → j < d.size → (W.cell? ⟨blk, off + i, none⟩ = some (.int .i64 ((dk[i]!.val : Nat) : Int)) ∧ W.cell? ⟨blk, off + j, none⟩ = some (.int .i64 ((dk[j]!.val : Nat) : Int))) ∧ (W.frozen? ⟨blk, off + i, none⟩ = false ∧ W.frozen? ⟨blk, off + j, none⟩ = false) ∧
    (∃ u, (W.setCell ⟨blk, off + i, none⟩ (.int .i64 ((dk[j]!.val : Nat) : Int))).cell? ⟨blk, off + j, none⟩ = some u) ∧
    SW encF w0 blk off (swp dk i j) ((W.setCell ⟨blk, off + i, none⟩ (.int .i64 ((dk[j]!.val : Nat) : Int))).setCell ⟨blk, off + j, none⟩ (.int .i64 ((dk[i]!.val : Nat) : Int)))) := fun dk W i j h1 h2 h3 h4 => S.swap h2 (h1.trans hs) i j (by omega) (by omega)
  have HCL : Hid (∀ (dk : Array (Fin (m + 1))) (W : World) (i : Nat), dk.size = d.size → SW encF w0 blk off dk W → i < d.size → W.cell? ⟨blk, off + i, none⟩ = some (.int .i64 ((dk[i]!.val : Nat) : Int))) := fun dk W i h1 h2 h3 => S.cell h2 (h1.trans hs) i (by omega)
  have HCM : Hid (∀ (dk : Array (Fin (m + 1))) (W : World), dk.size = d.size → SW encF w0 blk off dk W → ∀ (x y : Fin (m + 1)) (q : Nat), Calls Tryd.prog 37 #[rv, .int .i64 ((x.val : Nat) : Int), .int .i64 ((y.val : Nat) : Int)] (W.drewN q) fun e w' => e = .returned (.int .i64 (cf x y)) ∧ ∃ p, w' = (W.drewN q).drewN p) := fun dk W h1 h2 x y q => S.cmp dk (W.drewN q) (h1.trans hs) (h2.drewN q) x y
  have HW : Hid (SW encF w0 blk off d w) := hw
  have HO0 : Hid (insOuter (ltOf cf) a b (a + 1) d = Sort.insertionSort (ltOf cf) d a b) := rfl
  clear hw
  generalize Sort.insertionSort (ltOf cf) d a b = R at HO0 ⊢
  have wa : IntKind.i64.wrap ((a : Int) + 1) = (a : Int) + 1 := by rw [IntKind.wrap_i64]; omega
  have HSZ : Hid (d.size = d.size) := rfl
  obtain ⟨n, HN⟩ : ∃ n, Hid (n = d.size) := ⟨_, rfl⟩
  have hn : n ≤ 1048576 := by rw [HN.out, hs]; exact hsz
  rw [← HN.out] at HSW HCL HCM hb ⊢
  go_enter Tryd.func72, Tryd.ntmps72
  go_wp2
  go_loopw [8] (fun vi wr => ∃ (i : Nat) (dk : Array (Fin (m + 1))), vi = .int .i64 i ∧ a < i ∧ i ≤ b + 1 ∧ Hid (dk.size = n) ∧ Hid (SW encF w0 blk off dk wr) ∧ Hid (insOuter (ltOf cf) a b i dk = R)) (fun vi _ => b + 1 - (intOf vi).toNat)
  case atStart => exact ⟨a + 1, d, by go_num, by omega, by omega, HN.out.symm, HW, HO0⟩
  case round =>
    obtain ⟨i, dk, rfl, hai, hib, hsk, hsw, HO⟩ := hrel
    by_cases hlt : i < b
    · have hltz : (i : Int) < (b : Int) := by omega
      have HO1 : Hid (insOuter (ltOf cf) a b (i + 1) (insInner (ltOf cf) a i dk) = R) := by show _ = _; rw [← insOuter_go _ _ _ _ _ hlt]; exact HO.out
      go_wp2
      go_loopw [9] (fun vj wr => ∃ (j : Nat) (dj : Array (Fin (m + 1))), vj = .int .i64 j ∧ j ≤ i ∧ Hid (dj.size = n) ∧ Hid (SW encF w0 blk off dj wr) ∧ Hid (insOuter (ltOf cf) a b (i + 1) (insInner (ltOf cf) a j dj) = R)) (fun vj _ => (intOf vj).toNat)
      case atStart => exact ⟨i, dk, rfl, Nat.le_refl _, hsk, hsw, HO1⟩
      case round =>
        clear HO1 HO hsk hsw HW HO0
        obtain ⟨j, dj, rfl, hji, hsj, hswj, HI⟩ := hrel
        have HSTOP : Hid ((j ≤ a ∨ ltOf cf dj[j]! dj[j - 1]! = false) → insOuter (ltOf cf) a b (i + 1) dj = R) := fun h => by rw [← HI.out, insInner_stop _ _ _ _ h]
        have HGO : Hid (a < j → ltOf cf dj[j]! dj[j - 1]! = true → insOuter (ltOf cf) a b (i + 1) (insInner (ltOf cf) a (j - 1) (swp dj j (j - 1))) = R) := fun h1 h2 => by rw [← HI.out, insInner_go _ _ _ _ h1 h2]
        have wi : IntKind.i64.wrap ((i : Int) + 1) = ((i + 1 : Nat) : Int) := by rw [IntKind.wrap_i64]; omega
        by_cases hja : a < j
        · obtain ⟨p, rfl⟩ : ∃ p, j = p + 1 := ⟨j - 1, by omega⟩
          have hjaz : (a : Int) < (p : Int) + 1 := by omega
          have wj : IntKind.i64.wrap ((p : Int) + 1 - 1) = (p : Int) := by rw [IntKind.wrap_i64]; omega
          have wj2 : IntKind.i64.wrap (p : Int) = (p : Int) := by rw [IntKind.wrap_i64]; omega
          have hpn : (p : Int) < (n : Int) := by omega
          have hpn1 : (p : Int) + 1 < (n : Int) := by omega
          rw [Nat.add_sub_cancel] at HSTOP HGO
          obtain ⟨q, hq⟩ : ∃ q, ltOf cf dj[p + 1]! dj[p]! = q := ⟨_, rfl⟩
          rw [hq] at HSTOP HGO
          have hq : decide (cf dj[p + 1]! dj[p]! < 0) = q := hq
          have HSJ : Hid (SW encF w0 blk off dj wr) := hswj
          have c1 := HCL.out dj wr (p + 1) hsj.out hswj.out (by omega)
          have c2 := HCL.out dj wr p hsj.out hswj.out (by omega)
          have HC := HCM.out dj wr hsj.out hswj.out dj[p + 1]! dj[p]!
          have HSQ : Hid (∀ q, SW encF w0 blk off dj (wr.drewN q)) := fun q => hswj.out.drewN q
          generalize cf dj[p + 1]! dj[p]! = kc at HC hq
          generalize ((dj[p + 1]!.val : Nat) : Int) = x at c1 HC
          generalize ((dj[p]!.val : Nat) : Int) = y at c2 HC
          cases q
          · have HE : Hid (insOuter (ltOf cf) a b (i + 1) dj = R) := HSTOP.out (.inr rfl)
            clear HSTOP HGO HI
            go_upto_region 4 with fail
            go_quiet ((go_at_call 37; exact Calls.quiet_of (HC _)))
            have HS2 : Hid (SW encF w0 blk off dj (wr.drewN nq)) := HSQ.out nq
            clear c1 c2 HC HSQ HSJ hswj
            generalize wr.drewN nq = w2 at HS2 ⊢
            go_wp2
            go_roundw
            case rel => exact ⟨i + 1, dj, by go_num, by omega, by omega, hsj, HS2, HE⟩
            case measure => simp [intOf]; omega
          · have HE : Hid (insOuter (ltOf cf) a b (i + 1) (insInner (ltOf cf) a p (swp dj (p + 1) p)) = R) := HGO.out (by omega) rfl
            clear HSTOP HGO HI
            go_upto_region 4 with fail
            go_quiet ((go_at_call 37; exact Calls.quiet_of (HC _)))
            have HS2 : Hid (SW encF w0 blk off dj (wr.drewN nq)) := HSQ.out nq
            clear c1 c2 HC HSQ HSJ hswj
            generalize wr.drewN nq = w2 at HS2 ⊢
            obtain ⟨⟨s1, s2⟩, ⟨f1, f2⟩, ⟨u, s3⟩, hsw2⟩ := HSW.out dj w2 (p + 1) (p) hsj.out HS2.out (by omega) (by omega)
            have HX : Hid (SW encF w0 blk off (swp dj (p + 1) (p)) ((w2.setCell ⟨blk, off + (p + 1), none⟩ (.int .i64 ((dj[p]!.val : Nat) : Int))).setCell ⟨blk, off + (p), none⟩ (.int .i64 ((dj[p + 1]!.val : Nat) : Int))).drew) := hsw2.drewN 1
            generalize ((dj[p + 1]!.val : Nat) : Int) = x0 at s1 s2 s3 HX
            generalize ((dj[p]!.val : Nat) : Int) = y0 at s1 s2 s3 HX
            clear hsw2
            go_upto_region 6 with fail
            go_big_region_o
            generalize ((w2.setCell ⟨blk, off + (p + 1), none⟩ (.int .i64 y0)).setCell ⟨blk, off + (p), none⟩ (.int .i64 x0)).drew = wHX at HX ⊢
            clear s1 s2 f1 f2 s3
            go_wp2
            go_roundw
            case rel => exact ⟨p, _, by go_num, by omega, by show _ = _; rw [size_swp]; exact hsj.out, HX, HE⟩
            case measure => simp [intOf]; try omega
        · have hjaz : ¬ (a : Int) < (j : Int) := by omega
          have HE : Hid (insOuter (ltOf cf) a b (i + 1) dj = R) := HSTOP.out (.inl (by omega))
          have HSQ : Hid (∀ q, SW encF w0 blk off dj (wr.drewN q)) := fun q => hswj.out.drewN q
          clear HSTOP HGO HI hswj
          go_upto_region 4 with fail
          go_quiet (fail)
          have HS2 : Hid (SW encF w0 blk off dj (wr.drewN nq)) := HSQ.out nq
          clear HSQ
          generalize wr.drewN nq = w2 at HS2 ⊢
          go_wp2
          go_roundw
          case rel => exact ⟨i + 1, dj, by go_num, by omega, by omega, hsj, HS2, HE⟩
          case measure => simp [intOf]; omega
    · have hltz : ¬ (i : Int) < (b : Int) := by omega
      have HE : Hid (dk = R) := by show _ = _; rw [← HO.out, insOuter_stop _ _ _ _ _ hlt]
      go_wp2
      go_end0
      exact ⟨rfl, by rw [← HE.out]; exact hsw.out⟩
end

end Go.Proofs.YtlkemmdcjnaepaaDoor
