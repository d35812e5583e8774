/- Rows of flags: what laws' toBoolS, eqBoolS, markBoolS and heldBoolS do. Made by mkbool.py. -/
import Derived.Test.YthnpjlnilkbamaaDoorRows
import Derived.Test.YthnpjlnilkbamaaDoorBoR
import Derived.WalkKit
import Derived.WalkSpells
import Derived.WalkLawsBesides
import Derived.Deep.QuietTactic
import Derived.BigQuiet
import Derived.Deep.Onto
import Derived.Lib.QuietBelow
namespace Go.Proofs.YthnpjlnilkbamaaDoor
open Go.RowKit Go.Sort

set_option maxRecDepth 100000 in
set_option maxHeartbeats 1000000 in
theorem eqBoS_any (v u : Value) (l m : List Bool) (w : World) (hl : l.length ≤ 9223372036854775807) (hv : BosAt w v l) (hu : BosAt w u m) :
    Calls Tryd.prog 20 #[v, u] w fun e w' => e = .returned (.bool (decide (l = m))) ∧ Below w.heap.size w w' := by
  obtain ⟨a, ca, rfl, -, hva⟩ := hv
  obtain ⟨b, cb, rfl, -, hub⟩ := hu
  by_cases hlen : l.length = m.length
  · have hlen' : (l.length : Int) = (m.length : Int) := by omega
    obtain ⟨n, HN⟩ : ∃ n, Hid (n = m.length) := ⟨_, rfl⟩
    rw [hlen] at hva hl ⊢
    rw [← HN.out] at hva hub hl ⊢
    go_enter Tryd.func20, Tryd.ntmps20
    go_wp2
    go_loopw [5] (fun i wr => ∃ k : Nat, k ≤ n ∧ i = .int .i64 k ∧ Hid (∀ t, t < k → l[t]! = m[t]!) ∧ Below w.heap.size w wr) (fun i _ => n - (intOf i).toNat)
    case atStart => exact ⟨0, Nat.zero_le _, rfl, fun t ht => by omega, Below.refl _ _⟩
    case round =>
      obtain ⟨k, hk, rfl, HEQ, hbel⟩ := hrel
      by_cases hlt : k < n
      · obtain ⟨b1, o1, rfl, hb1, hc1⟩ := hva k hlt
        obtain ⟨b2, o2, rfl, hb2, hc2⟩ := hub k hlt
        have hc1 := hc1.below hb1 hbel
        have hc2 := hc2.below hb2 hbel
        have HX : Hid (l[k]! = m[k]! → ∀ t, t < k + 1 → l[t]! = m[t]!) := fun h t ht => by
          by_cases e : t = k
          · rw [e]; exact h
          · exact HEQ.out t (by omega)
        have HY : Hid (¬ l[k]! = m[k]! → ¬ l = m) := fun h e => h (by rw [e])
        generalize l[k]! = x at hc1 HX HY
        generalize m[k]! = y at hc2 HX HY
        have k0 := cell_regrown hc1.c0
        have j0 := cell_regrown hc2.c0
        rw [Nat.mul_one] at k0 j0
        have hkn : (k : Int) < (n : Int) := by omega
        have hk0 : (0 : Int) ≤ (k : Int) := by omega
        clear hva hub hc1 hc2
        cases x <;> cases y
        · have HX' : Hid _ := HX.out rfl
          clear HX HY
          go_wp2
          refine wp_region_quiet_below (by kernel_rfl) (by kernel_rfl) ?_
          repeat (go_big_quiet_step (fail))
          refine wpQuiet_nil ?_
          rintro w' ⟨⟨dq, osq⟩, rfl⟩
          have hbq := below_regrown wr dq osq
          generalize grow (redrawn wr dq) osq = w4 at hbq ⊢
          go_wp2
          go_roundw
          case rel => exact ⟨k + 1, by omega, by go_num, HX'.out, hbel.trans (hbq.mono hbel.size)⟩
          case measure => simp [intOf]; omega
        · have HY' : Hid _ := HY.out (by decide)
          clear HX HY
          go_wp2
          refine wp_region_quiet_below (by kernel_rfl) (by kernel_rfl) ?_
          repeat (go_big_quiet_step (fail))
          refine wpQuiet_nil ?_
          rintro w' ⟨⟨dq, osq⟩, rfl⟩
          have hbq := below_regrown wr dq osq
          generalize grow (redrawn wr dq) osq = w4 at hbq ⊢
          go_wp2
          go_ret
          exact ⟨by rw [decide_eq_false HY'.out]; rfl, hbel.trans (hbq.mono hbel.size)⟩
        · have HY' : Hid _ := HY.out (by decide)
          clear HX HY
          go_wp2
          refine wp_region_quiet_below (by kernel_rfl) (by kernel_rfl) ?_
          repeat (go_big_quiet_step (fail))
          refine wpQuiet_nil ?_
          rintro w' ⟨⟨dq, osq⟩, rfl⟩
          have hbq := below_regrown wr dq osq
          generalize grow (redrawn wr dq) osq = w4 at hbq ⊢
          go_wp2
          go_ret
          exact ⟨by rw [decide_eq_false HY'.out]; rfl, hbel.trans (hbq.mono hbel.size)⟩
        · have HX' : Hid _ := HX.out rfl
          clear HX HY
          go_wp2
          refine wp_region_quiet_below (by kernel_rfl) (by kernel_rfl) ?_
          repeat (go_big_quiet_step (fail))
          refine wpQuiet_nil ?_
          rintro w' ⟨⟨dq, osq⟩, rfl⟩
          have hbq := below_regrown wr dq osq
          generalize grow (redrawn wr dq) osq = w4 at hbq ⊢
          go_wp2
          go_roundw
          case rel => exact ⟨k + 1, by omega, by go_num, HX'.out, hbel.trans (hbq.mono hbel.size)⟩
          case measure => simp [intOf]; omega
      · obtain rfl : k = n := by omega
        go_wp2
        go_ret
        refine ⟨?_, hbel⟩
        have : l = m := Bos_ext l m hlen (fun t ht => HEQ.out t (by rw [HN.out]; omega))
        simp [this]
  · have hne : ((l.length : Int) != (m.length : Int)) = true := by simp; omega
    have hneq : ¬ l = m := fun e => hlen (by rw [e])
    go_enter Tryd.func20, Tryd.ntmps20
    go_wp2
    go_ret
    exact ⟨by simp [hneq], Below.refl _ _⟩

/-- the first j of l, then empty ones -/
def fillBo (j : Nat) (l : List Bool) : List Bool := l.take j ++ List.replicate (l.length - j) false
theorem fillBo_len (j : Nat) (l : List Bool) : (fillBo j l).length = l.length := by unfold fillBo; simp; omega
theorem fillBo_step (j : Nat) (l : List Bool) (h : j < l.length) : (fillBo j l).set j l[j]! = fillBo (j + 1) l := by
  have e : min j l.length = j := by omega
  unfold fillBo
  rw [List.set_append_right _ _ (by rw [List.length_take, e]; exact Nat.le_refl _), List.take_succ_eq_append_getElem h, getElem!_pos l j h, List.length_take, e, Nat.sub_self]
  rw [show l.length - j = (l.length - (j + 1)) + 1 by omega, List.replicate_succ, List.set_cons_zero, List.append_assoc]
  rfl
theorem flatBo_rep (n : Nat) : flatBo (List.replicate n false) = List.replicate n (.bool false) := by
  induction n with
  | zero => rfl
  | succ n ih => rw [List.replicate_succ, flatBo_cons, ih]; rfl

/-- 'make([]bool, n)', as the walk has it -/
theorem make_Bos {w1 w : World} {n : Nat} (h : w1.ownsRow w.heap.size 4 1 (.slice (some ⟨w.heap.size, 0, none⟩) n n) n (madeCells (Value.cells (.bool false)) (n * 1)).toList) : w1.ownsRow w.heap.size 4 1 (.slice (some ⟨w.heap.size, 0, none⟩) n n) n (flatBo (List.replicate n false)) := by
  rw [flatBo_rep, ← toList_madeCells_one]; simpa [Value.cells] using h

set_option maxRecDepth 100000 in
set_option maxHeartbeats 1000000 in
theorem toBoS_any (v : Value) (l : List Bool) (w : World) (hl : l.length ≤ 1048576) (hv : BosAt w v l) :
    Calls Tryd.prog 18 #[v] w fun e w' => ∃ u, e = .returned u ∧ BoRow w' w.heap.size u l ∧ Below w.heap.size w w' := by
  obtain ⟨a, ca, rfl, -, hva⟩ := hv
  obtain ⟨n, HN⟩ : ∃ n, Hid (n = l.length) := ⟨_, rfl⟩
  have HM : Hid (∀ j, j < n → (fillBo j l).set j l[j]! = fillBo (j + 1) l) := fun j hj => fillBo_step j l (by rw [← HN.out]; exact hj)
  have HE : Hid (fillBo n l = l) := by show _ = _; rw [HN.out]; simp [fillBo]
  have HLE : Hid (∀ j, (fillBo j l).length = n) := fun j => by rw [HN.out]; exact fillBo_len j l
  have HR : Hid (∀ w' u, BoRow w' w.heap.size u l = w'.ownsRow w.heap.size 4 1 u n (flatBo l)) := fun _ _ => by rw [HN.out]; rfl
  rw [← HN.out] at hva hl ⊢
  obtain ⟨i0, hi, hz0, hz1, hz2⟩ := info_parts Tryd.infoBo
  go_enter Tryd.func18, Tryd.ntmps18
  go_wp2_with (at_make; refine wpList_make_full _ rfl _ _ 24 rfl w.heap.size 4 i0 (.bool false) 1 Tryd.underlying24 hi hz0 hz1 .i64 .i64 _ _ n rfl rfl rfl rfl (by rw [hz2]; omega) (by unfold maxLen; omega) (Nat.le_refl _) ?_; intro w1 hown1 hgrow1)
  have hown2 : w1.ownsRow w.heap.size 4 1 (.slice (some ⟨w.heap.size, 0, none⟩) n n) n (flatBo (fillBo 0 l)) := by
    have e : fillBo 0 l = List.replicate n false := by rw [HN.out]; simp [fillBo]
    rw [e, flatBo_rep, ← toList_madeCells_one]; simpa [Value.cells] using hown1
  have hbel2 : Below w.heap.size w w1 := (Below.refl _ _).grown hgrow1 (Nat.le_refl _) (fun _ h => by cases h)
  clear hown1 hgrow1
  go_wp2
  go_loopw [4] (fun i wr => ∃ k : Nat, k ≤ n ∧ i = .int .i64 k ∧ wr.ownsRow w.heap.size 4 1 (.slice (some ⟨w.heap.size, 0, none⟩) n n) n (flatBo (fillBo k l)) ∧ Below w.heap.size w wr) (fun i _ => n - (intOf i).toNat)
  case atStart => exact ⟨0, Nat.zero_le _, rfl, hown2, hbel2⟩
  case round =>
    obtain ⟨k, hk, rfl, hown, hbel⟩ := hrel
    by_cases hlt : k < n
    · obtain ⟨b1, o1, rfl, hb1, hc1⟩ := hva k hlt
      have hc1 := hc1.below hb1 hbel
      obtain ⟨⟨u0, d0⟩, f0⟩ := rowBo_cells hown k (by omega)
      have hst := (hown.stored k (.bool l[k]!)).1
      have e := flatBo_put (fillBo k l) k l[k]! (by rw [HLE.out]; exact hlt)
      rw [Nat.mul_one] at e
      rw [e, HM.out k hlt] at hst
      have c0 := hc1.c0
      rw [Nat.mul_one] at c0
      generalize l[k]! = x0 at c0 hst
      have HS : Hid ((wr.setCell ⟨w.heap.size, k, none⟩ (.bool x0)).ownsRow w.heap.size 4 1 (.slice (some ⟨w.heap.size, 0, none⟩) n n) n (flatBo (fillBo (k + 1) l))) := hst
      clear hc1 hva hown hst e
      go_wp2
      go_roundw
      case rel => exact ⟨k + 1, by omega, by go_num, HS.out, hbel.setCell (Nat.le_refl _) _⟩
      case measure => simp [intOf]; omega
    · obtain rfl : k = n := by omega
      rw [HE.out] at hown
      go_wp2
      go_ret
      exact ⟨_, rfl, by rw [HR.out]; exact hown, hbel⟩

/-- the mark of number m -/
def mkBo (m : Nat) : Bool := decide (m % 3 = 0)
def marksBo (k : Nat) : Nat → List Bool
  | 0 => []
  | n + 1 => marksBo k n ++ [mkBo (k + 1 * n)]
theorem marksBo_len (k n : Nat) : (marksBo k n).length = n := by
  induction n with
  | zero => rfl
  | succ n ih => simp [marksBo, ih]
def markdBo (k j : Nat) (l : List Bool) : List Bool := marksBo k j ++ l.drop j
theorem markdBo_len {k j : Nat} {l : List Bool} (h : j ≤ l.length) : (markdBo k j l).length = l.length := by
  simp [markdBo, marksBo_len]; omega
theorem markdBo_step {k j : Nat} {l : List Bool} (h : j < l.length) : (markdBo k j l).set j (mkBo (k + 1 * j)) = markdBo k (j + 1) l := by
  unfold markdBo
  rw [List.set_append_right _ _ (by rw [marksBo_len]; exact Nat.le_refl _), marksBo_len, Nat.sub_self, List.drop_eq_getElem_cons h, List.set_cons_zero]
  simp [marksBo]
theorem markdBo_all (k : Nat) (l : List Bool) : markdBo k l.length l = marksBo k l.length := by simp [markdBo]
theorem marksBo_get (k n t : Nat) (h : t < n) : (marksBo k n)[t]! = mkBo (k + 1 * t) := by
  induction n with
  | zero => omega
  | succ n ih =>
    rw [getElem!_pos _ _ (by rw [marksBo_len]; exact h)]
    simp only [marksBo]
    by_cases ht : t < n
    · rw [List.getElem_append_left (by rw [marksBo_len]; exact ht), ← ih ht, getElem!_pos _ _ (by rw [marksBo_len]; exact ht)]
    · obtain rfl : t = n := by omega
      rw [List.getElem_append_right (by rw [marksBo_len]; exact Nat.le_refl _)]
      simp [marksBo_len]
theorem mkBo_rem (m : Nat) : ((m : Int) % 3 == 0) = mkBo m := by
  unfold mkBo
  rw [Bool.eq_iff_iff, beq_iff_eq, decide_eq_true_eq]
  omega

set_option maxRecDepth 100000 in
set_option maxHeartbeats 1000000 in
theorem markBoS_any (v : Value) (l : List Bool) (k : Nat) (base : Nat) (w : World) (hv : BoRow w base v l) (hl : l.length ≤ 4194304) (hk0 : 0 < k) (hk1 : k ≤ 100000000) :
    Calls Tryd.prog 21 #[v, .int .i64 k] w fun e w' => e = .returned (.int .i64 ((k + 1 * l.length : Nat) : Int)) ∧ BoRow w' base v (marksBo k l.length) ∧ w.grownBy w' v.ownBlock := by
  rcases hv.2 with ⟨rfl, h0⟩ | ⟨g, cap, cur, rfl, hg, hh, hnc, hcp, hcs, htake⟩
  · obtain rfl : l = [] := List.length_eq_zero_iff.1 h0
    go_enter Tryd.func21, Tryd.ntmps21
    go_wp2
    refine wp_loop_rounds 1 ?_
    rw [rounds_succ]
    go_wp2
    go_ret
    exact ⟨by simp, hv, ⟨rfl, rfl, rfl, Nat.le_refl _, fun _ _ _ => rfl⟩⟩
  · obtain ⟨n, HN⟩ : ∃ n, Hid (n = l.length) := ⟨_, rfl⟩
    have hv1 : w.ownsRow base 4 1 (.slice (some ⟨g, 0, none⟩) n cap) n (flatBo (markdBo k 0 l)) := by
      have : markdBo k 0 l = l := by simp [markdBo, marksBo]
      rw [this, HN.out]; exact hv
    have HM : Hid (∀ j, j < n → (markdBo k j l).set j (mkBo (k + 1 * j)) = markdBo k (j + 1) l) := fun j hj => markdBo_step (by rw [← HN.out]; exact hj)
    have HLN : Hid (∀ j, j ≤ n → (markdBo k j l).length = n) := fun j hj => by rw [HN.out] at hj ⊢; exact markdBo_len hj
    have HE : Hid (markdBo k n l = marksBo k l.length) := by show _ = _; rw [HN.out]; exact markdBo_all k l
    clear hv hh hcs htake
    rw [← HN.out] at hl hnc ⊢
    go_enter Tryd.func21, Tryd.ntmps21
    go_wp2
    go_loopw [1, 5] (fun q i wr => ∃ (j m : Nat), j ≤ n ∧ i = .int .i64 j ∧ q = .int .i64 m ∧ Hid (m = k + 1 * j) ∧ wr.ownsRow base 4 1 (.slice (some ⟨g, 0, none⟩) n cap) n (flatBo (markdBo k j l)) ∧ w.grownBy wr (some g)) (fun _ i _ => n - (intOf i).toNat)
    case atStart => exact ⟨0, k, Nat.zero_le _, rfl, rfl, rfl, hv1, ⟨rfl, rfl, rfl, Nat.le_refl _, fun _ _ _ => rfl⟩⟩
    case round =>
      obtain ⟨j, m, hj, rfl, rfl, HMM, hown, hgb⟩ := hrel
      have hm0 : 0 < m := by have := HMM.out; omega
      have hm1 : m ≤ 200000000 := by have := HMM.out; omega
      by_cases hlt : j < n
      · obtain ⟨⟨u0, d0⟩, f0⟩ := rowBo_cells hown j (by omega)
        have hst := (hown.stored j (.bool (mkBo m))).1
        have e := flatBo_put (markdBo k j l) j (mkBo m) (by rw [HLN.out j hj]; exact hlt)
        rw [Nat.mul_one] at e
        rw [e] at hst
        have hst2 := hst
        rw [show mkBo m = mkBo (k + 1 * j) by rw [← HMM.out], HM.out j hlt] at hst2
        have hq := mkBo_rem m
        have HS : Hid ((wr.setCell ⟨g, j, none⟩ (.bool (mkBo m))).ownsRow base 4 1 (.slice (some ⟨g, 0, none⟩) n cap) n (flatBo (markdBo k (j + 1) l))) := by
          show World.ownsRow _ _ _ _ _ _ _
          rw [show mkBo m = mkBo (k + 1 * j) by rw [← HMM.out]]; exact hst2
        generalize mkBo m = bm at hq HS
        clear hst hst2 e hown
        go_wp2
        go_roundw
        case rel => exact ⟨j + 1, m + 1, by omega, by go_num, by go_num, by show m + 1 = _; rw [HMM.out]; omega, HS.out, gbi_trans hgb (gbi_set _ _ _ _)⟩
        case measure => simp [intOf]; omega
      · obtain rfl : n = j := by omega
        rw [HE.out] at hown
        go_wp2
        go_ret
        refine ⟨by rw [HMM.out]; rfl, ?_, hgb⟩
        rw [← HN.out] at hown
        unfold BoRow
        rw [marksBo_len]
        exact hown

end Go.Proofs.YthnpjlnilkbamaaDoor
