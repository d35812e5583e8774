/- Signs put together: impl.Pair, by the source that keeps the map of all pairs. -/
import Derived.Test.YtkgnlamlmnhleaaRows
import Derived.Test.YtkgnlamlmnhleaaIPv
import Derived.Test.YtkgnlamlmnhleaaSPa
import Derived.Test.YtkgnlamlmnhleaaIBtw
import Derived.Test.YtkgnlamlmnhleaaICls
namespace Go.Proofs.Ytkgnlamlmnhleaa
open Go.RowKit Go.ChangeMaps Go.MapKept

/-- block B is a source of pairs: nothing made yet, or the map of all -/
def PairAt (B : Nat) (w : World) : Prop :=
  ∃ mo, w.heap[B]? = some (.cells #[.map mo] 46 (0, 0)) ∧ (mo = none ∨ ∃ g L, mo = some g ∧ PairsIs g L w ∧ AllPairs L)
theorem PairAt.below {B : Nat} {w w' : World} (h : PairAt B w) (b : Below w.heap.size w w') : PairAt B w' := by
  obtain ⟨mo, hb, hm⟩ := h
  refine ⟨mo, (b.block B (lt_of_block hb)).trans hb, ?_⟩
  rcases hm with h | ⟨g, L, h1, h2, h3⟩
  · exact .inl h
  · exact .inr ⟨g, L, h1, h2.kept (b.block g h2.lt), h3⟩
theorem PairAt.lt {B : Nat} {w : World} (h : PairAt B w) : B < w.heap.size := by
  obtain ⟨mo, hb, _⟩ := h
  exact lt_of_block hb
theorem pair_new (w : World) : PairAt w.heap.size (w.alloc (.cells #[.map none] 46)) :=
  ⟨none, by show (w.heap.push _)[w.heap.size]? = _; simp, .inl rfl⟩

set_option maxRecDepth 100000 in
set_option maxHeartbeats 2000000 in
theorem markedBy_any (B : Nat) (a b : Int) (w : World) (hs : PairAt B w) :
    Calls Try.prog 39 #[.pointer (some ⟨B, 0, none⟩), .int .i64 a, .int .i64 b] w fun e w' => e = .returned (pairV (pairT a b)) ∧ PairAt B w' ∧ w.grownBy w' (some B) := by
  unfold pairV
  have HT : Hid (∀ g L w' (_ : PairsIs g L w') (_ : AllPairs L), (Instr.lookup 44 (.map (some g)) (.agg #[.int .i64 a, .int .i64 b]) true).run Try.prog w' = .ok (.tuple #[.int .i64 ((pairT a b).getD 0), .bool (pairT a b).isSome]) w') := fun g L w' hM hL => by
    rw [← qFind_all hL]; exact hM.lookup a b
  generalize (pairT a b).getD 0 = x at HT ⊢
  generalize (pairT a b).isSome = y at HT ⊢
  obtain ⟨mo, hB, hm⟩ := hs
  have hlt := lt_of_block hB
  have hc0 := cell_of_row w B 0 _ _ (0, 0) hB
  have hE0 : ∀ w, Sem.run Try.prog (binOp BinOp.eql 44 (.map none) (.map none)) w = .ok (.bool true) w := fun w => by kernel_rfl
  have hE1 : ∀ g w, Sem.run Try.prog (binOp BinOp.eql 44 (.map (some g)) (.map none)) w = .ok (.bool false) w := fun g w => by kernel_rfl
  rcases hm with rfl | ⟨g, L, rfl, hM, hL⟩
  · go_enter Try.func39, Try.ntmps39
    go_wp2_with fail
    refine (pairTable_any _).mono ?_
    rintro e w1 ⟨rfl, ⟨L, hM, hL⟩, hb1⟩
    have hB1 : w1.heap[B]? = some (.cells #[.map none] 46 (0, 0)) := (hb1.block B hlt).trans hB
    have c1 := cell_of_row w1 B 0 _ _ (0, 0) hB1
    have f1 := frozen_of_row w1 B 0 _ _ hB1
    have hM2 : PairsIs w.heap.size L (w1.setCell ⟨B, 0, none⟩ (.map (some w.heap.size))) := hM.kept (Below.heap_setCell _ _ _ _ (by show w.heap.size ≠ B; omega))
    have hB2 : (w1.setCell ⟨B, 0, none⟩ (.map (some w.heap.size))).heap[B]? = some (.cells #[.map (some w.heap.size)] 46 (0, 0)) := heap_setCell_same w1 B 0 _ _ _ hB1
    have hg1 : w.grownBy w1 (some B) := ⟨hb1.os, hb1.tape, hb1.output, hb1.size, fun k hk _ => hb1.block k hk⟩
    have HG2 : Hid (w.grownBy (w1.setCell ⟨B, 0, none⟩ (.map (some w.heap.size))) (some B)) := gbi_trans hg1 (gbi_set w1 B 0 _)
    have HS2 : Hid (PairAt B (w1.setCell ⟨B, 0, none⟩ (.map (some w.heap.size)))) := ⟨_, hB2, .inr ⟨_, L, rfl, hM2, hL⟩⟩
    have c2 := cell_of_row _ B 0 _ _ (0, 0) hB2
    have hlk := HT.out _ _ _ hM2 hL
    obtain ⟨w2, HW2⟩ : ∃ w2, Hid (w1.setCell ⟨B, 0, none⟩ (.map (some w.heap.size)) = w2) := ⟨_, rfl⟩
    have hst := HW2.out
    rw [HW2.out] at HG2 HS2 c2 hlk
    clear hM hL hB1 hM2 hB2 hg1 hb1 HT hB HW2
    go_wp2
    go_ret2
    exact ⟨rfl, HS2.out, HG2.out⟩
  · have hlk := HT.out g L w hM hL
    have HS : Hid (PairAt B w) := ⟨_, hB, .inr ⟨_, L, rfl, hM, hL⟩⟩
    clear HT hM hL hB
    go_enter Try.func39, Try.ntmps39
    go_wp2
    go_ret2
    exact ⟨rfl, HS.out, ⟨rfl, rfl, rfl, Nat.le_refl _, fun _ _ _ => rfl⟩⟩

theorem tail_zero (a : Int) : (tailP a == 0) = decide (a % 28 = 0) := by
  unfold tailP
  split
  · rename_i h; simp [h]
  · rename_i h
    rw [decide_eq_false h, beq_eq_false_iff_ne]
    omega
set_option maxRecDepth 100000 in
set_option maxHeartbeats 2000000 in
theorem takesTail_any (a : Int) (w : World) :
    Calls Try.prog 38 #[.int .i64 a] w fun e w' => e = .returned (.bool (inB a 44032 55203 && decide ((a - 44032) % 28 = 0))) ∧ Below w.heap.size w w' := by
  cases h1 : inB a 44032 55203
  · have hw : IntKind.i64.wrap a = IntKind.i64.wrap a := rfl
    go_enter Try.func38, Try.ntmps38
    go_wp2_with (go_at_call 37; refine (btw_any _ _ _ _).mono ?_; rintro e w' ⟨rfl, rfl⟩)
    go_ret
    exact ⟨rfl, Below.refl _ _⟩
  · have hb := inB_le h1
    have hw : IntKind.i64.wrap (a - 44032) = a - 44032 := by rw [IntKind.wrap_i64]; omega
    have HT := fun W => readTail_any (a - 44032) (by omega) W
    have HZ := tail_zero (a - 44032)
    generalize tailP (a - 44032) = t at HT HZ
    rw [Bool.true_and, ← HZ]
    clear HZ
    go_enter Try.func38, Try.ntmps38
    go_wp2_with (first | (go_at_call 37; refine (btw_any _ _ _ _).mono ?_; rintro e w' ⟨rfl, rfl⟩) | (go_at_call 46; refine (HT _).mono ?_; rintro e w1 ⟨rfl, b1⟩))
    go_ret
    exact ⟨rfl, b1⟩
set_option maxRecDepth 100000 in
set_option maxHeartbeats 2000000 in
theorem pairOf_any (B : Nat) (a b : Int) (w : World) (hs : PairAt B w) :
    Calls Try.prog 30 #[.pointer (some ⟨B, 0, none⟩), .int .i64 a, .int .i64 b] w fun e w' => e = .returned (pairV (pairN a b)) ∧ PairAt B w' ∧ w.grownBy w' (some B) := by
  have hlt := hs.lt
  have HTT := fun W => takesTail_any a W
  have HCL := fun W => iClass b W
  rcases pair_cases a b with ⟨g1, g2, HR⟩ | ⟨g1, g2, g3, g4, HR⟩ | ⟨HR, hc⟩
  · rw [HR]
    have ha := inB_le g1
    have hb := inB_le g2
    go_enter Try.func30, Try.ntmps30
    go_wp2_with (go_at_call 37; refine (btw_any _ _ _ _).mono ?_; rintro e w' ⟨rfl, rfl⟩)
    go_ret2
    exact ⟨rfl, hs, ⟨rfl, rfl, rfl, Nat.le_refl _, fun _ _ _ => rfl⟩⟩
  · rw [HR]
    have ha := inB_le g2
    have hb := inB_le g4
    rw [g2, decide_eq_true g3, Bool.true_and] at HTT
    have HS : Hid (PairAt B w) := hs
    clear g3 hs
    go_enter Try.func30, Try.ntmps30
    go_wp2_with (first | (go_at_call 37; refine (btw_any _ _ _ _).mono ?_; rintro e w' ⟨rfl, rfl⟩) | (go_at_call 38; refine (HTT _).mono ?_; rintro e w1 ⟨rfl, b1⟩))
    go_ret2
    exact ⟨rfl, HS.out.below b1, ⟨b1.os, b1.tape, b1.output, b1.size, fun k hk _ => b1.block k hk⟩⟩
  · rw [HR]
    have HM := fun W h => markedBy_any B a b W h
    have HN : Hid (¬ 0 < clsN b → pairT a b = none) := fun h => pairT_cls h
    clear HR
    unfold pairV at HM ⊢
    generalize pairT a b = po at HM HN ⊢
    generalize clsN b = k at HCL HN
    have HS : Hid (∀ W, Below w.heap.size w W → PairAt B W) := fun W h => hs.below h
    have hfin : ∀ W W', Below w.heap.size w W → W.grownBy W' (some B) → w.grownBy W' (some B) := fun W W' h1 h2 => gbi_trans ⟨h1.os, h1.tape, h1.output, h1.size, fun k hk _ => h1.block k hk⟩ h2
    have HF : Hid (∀ W W', Below w.heap.size w W → W.grownBy W' (some B) → w.grownBy W' (some B)) := hfin
    clear hfin hs
    have hcc : (inB a 4352 4370 = true ∧ inB b 4449 4469 = false ∧ (inB a 44032 55203 && decide ((a - 44032) % 28 = 0)) = false) ∨ (inB a 4352 4370 = false ∧ ((inB a 44032 55203 && decide ((a - 44032) % 28 = 0)) = false ∨ ((inB a 44032 55203 && decide ((a - 44032) % 28 = 0)) = true ∧ inB b 4520 4546 = false))) := by
      rcases hc with ⟨g1, g2⟩ | ⟨g1, g2, g3⟩ | ⟨g1, g2, g3⟩ | ⟨g1, g2, g3, g4⟩
      · exact .inr ⟨g1, .inl (by rw [g2]; rfl)⟩
      · exact .inl ⟨g1, g2, by rw [g3]; rfl⟩
      · exact .inr ⟨g1, .inl (by rw [decide_eq_false g3, Bool.and_false])⟩
      · exact .inr ⟨g1, .inr ⟨by rw [g2, decide_eq_true g3]; rfl, g4⟩⟩
    clear hc
    generalize (inB a 44032 55203 && decide ((a - 44032) % 28 = 0)) = tt at HTT hcc
    have hk : 0 < k ∨ ¬ 0 < k := Classical.em _
    rcases hcc with ⟨g1, g2, rfl⟩ | ⟨g1, rfl | ⟨rfl, g2⟩⟩
    all_goals
      rcases hk with hk | hk
      · have hkb : (decide (k > 0)) = true := decide_eq_true hk
        clear HN
        go_enter Try.func30, Try.ntmps30
        go_wp2_with (first | (go_at_call 37; refine (btw_any _ _ _ _).mono ?_; rintro e w' ⟨rfl, rfl⟩) | (go_at_call 38; refine (HTT _).mono ?_; rintro e w1 ⟨rfl, b1⟩) | (go_at_call 26; refine (HCL _).mono ?_; rintro e w2 ⟨rfl, b2⟩; have B2 := b1.trans (b2.mono b1.size)) | (go_at_call 39; refine (HM _ (HS.out _ B2)).mono ?_; rintro e w3 ⟨rfl, hs3, hg3⟩))
        go_ret2
        exact ⟨rfl, hs3, HF.out _ _ B2 hg3⟩
      · have hkb : (decide (k > 0)) = false := decide_eq_false hk
        obtain rfl := HN.out hk
        clear HM
        go_enter Try.func30, Try.ntmps30
        go_wp2_with (first | (go_at_call 37; refine (btw_any _ _ _ _).mono ?_; rintro e w' ⟨rfl, rfl⟩) | (go_at_call 38; refine (HTT _).mono ?_; rintro e w1 ⟨rfl, b1⟩) | (go_at_call 26; refine (HCL _).mono ?_; rintro e w2 ⟨rfl, b2⟩; have B2 := b1.trans (b2.mono b1.size)))
        go_ret2
        exact ⟨rfl, HS.out _ B2, ⟨B2.os, B2.tape, B2.output, B2.size, fun k hk _ => B2.block k hk⟩⟩
set_option maxRecDepth 100000 in
theorem iPair (a b : Int) (w : World) :
    Calls Try.prog 13 #[.int .i64 a, .int .i64 b] w fun e w' => e = .returned (pairV (pairN a b)) ∧ Below w.heap.size w w' := by
  have HP := pairOf_any w.heap.size a b _ (pair_new w)
  unfold pairV at HP ⊢
  generalize pairN a b = po at HP ⊢
  go_enter Try.func13, Try.ntmps13
  go_wp2_with fail
  refine HP.mono ?_
  rintro e w2 ⟨rfl, _, hg⟩
  go_wp2
  go_ret2
  have hs1 := hg.size
  rw [hs_alloc] at hs1
  exact ⟨rfl, ⟨hg.os, hg.tape, hg.output, by omega, fun k hk => (hg.block k (by rw [hs_alloc]; omega) (fun e => by cases e; omega)).trans (Below.heap_alloc _ _ _ hk)⟩⟩
end Go.Proofs.Ytkgnlamlmnhleaa
