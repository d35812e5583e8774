/- Rows of structs of 2 whole numbers (Run): what laws' to, eq, sz, mark and held do. -/
import Derived.Test.YthnpjlnilkbamaaDoorRows
import Derived.Test.YthnpjlnilkbamaaDoorRnR
import Derived.WalkKit
import Derived.WalkSpells
import Derived.WalkLawsBesides
import Derived.Deep.QuietTactic
import Derived.BigQuiet
import Derived.Deep.Onto
import Derived.Lib.QuietBelow
namespace Go.Proofs.YthnpjlnilkbamaaDoor
open Go.RowKit Go.Sort


set_option maxRecDepth 100000 in
set_option maxHeartbeats 1000000 in
theorem eqRn_any (a b : Rn) (w : World) :
    Calls Tryd.prog 37 #[.agg #[.int .i64 a.p, .int .i64 a.n], .agg #[.int .i64 b.p, .int .i64 b.n]] w fun x w' => x = .returned (.bool (decide (a = b))) ∧ Below w.heap.size w w' := by
  obtain ⟨x0, x1⟩ := a
  obtain ⟨y0, y1⟩ := b
  have hb := (below_lit w (.cells #[.int .i64 x0, .int .i64 x1] 34)).alloc (by simp) (.cells #[.int .i64 y0, .int .i64 y1] 34)
  have HR : Hid (∀ r : Bool, (r = true ↔ x0 = y0 ∧ x1 = y1) → decide ((⟨x0, x1⟩ : Rn) = ⟨y0, y1⟩) = r) := fun r hr => by
    rw [Bool.eq_iff_iff, hr, decide_eq_true_eq, Rn.mk.injEq]
  dsimp only
  generalize decide ((⟨x0, x1⟩ : Rn) = ⟨y0, y1⟩) = r at HR ⊢
  by_cases e0 : x0 = y0
  · by_cases e1 : x1 = y1
    · have f0 : (x0 != y0) = false := by simp [e0]
      have f1 : (x1 != y1) = false := by simp [e1]
      have hr := HR.out true (by simp [e0, e1])
      clear e0 e1
      go_enter Tryd.func37, Tryd.ntmps37
      go_wp2
      go_ret
      exact ⟨by rw [hr]; rfl, hb⟩
    · have f0 : (x0 != y0) = false := by simp [e0]
      have f1 : (x1 != y1) = true := by simp [e1]
      have hr := HR.out false (by simp [e1])
      clear e0 e1
      go_enter Tryd.func37, Tryd.ntmps37
      go_wp2
      go_ret
      exact ⟨by rw [hr]; rfl, hb⟩
  · have f0 : (x0 != y0) = true := by simp [e0]
    have hr := HR.out false (by simp [e0])
    clear e0
    go_enter Tryd.func37, Tryd.ntmps37
    go_wp2
    go_ret
    exact ⟨by rw [hr]; rfl, hb⟩

theorem eqRn_grown (a b : Rn) (w : World) (d : Nat) (os : Array Obj) :
    Calls Tryd.prog 37 #[.agg #[.int .i64 a.p, .int .i64 a.n], .agg #[.int .i64 b.p, .int .i64 b.n]] (grow (redrawn w d) os) fun x w'' => x = .returned (.bool (decide (a = b))) ∧ ∃ p : Regrown, w'' = grow (redrawn w p.d) p.os :=
  Calls.regrown_of (eqRn_any a b _)

set_option maxRecDepth 100000 in
set_option maxHeartbeats 1000000 in
theorem eqRnS_any (v u : Value) (l m : List Rn) (w : World) (hl : l.length ≤ 9223372036854775807) (hv : RnsAt w v l) (hu : RnsAt w u m) :
    Calls Tryd.prog 19 #[v, u] w fun e w' => e = .returned (.bool (decide (l = m))) ∧ Below w.heap.size w w' := by
  obtain ⟨a, ca, rfl, -, hva⟩ := hv
  obtain ⟨b, cb, rfl, -, hub⟩ := hu
  by_cases hlen : l.length = m.length
  · have hlen' : (l.length : Int) = (m.length : Int) := by omega
    obtain ⟨n, HN⟩ : ∃ n, Hid (n = m.length) := ⟨_, rfl⟩
    rw [hlen] at hva hl ⊢
    rw [← HN.out] at hva hub hl ⊢
    go_enter Tryd.func19, Tryd.ntmps19
    go_wp2
    go_loopw [5] (fun i wr => ∃ k : Nat, k ≤ n ∧ i = .int .i64 k ∧ Hid (∀ t, t < k → l[t]! = m[t]!) ∧ Below w.heap.size w wr) (fun i _ => n - (intOf i).toNat)
    case atStart => exact ⟨0, Nat.zero_le _, rfl, fun t ht => by omega, Below.refl _ _⟩
    case round =>
      obtain ⟨k, hk, rfl, HEQ, hbel⟩ := hrel
      by_cases hlt : k < n
      · obtain ⟨b1, o1, rfl, hb1, hc1⟩ := hva k hlt
        obtain ⟨b2, o2, rfl, hb2, hc2⟩ := hub k hlt
        have hc1 := hc1.below hb1 hbel
        have hc2 := hc2.below hb2 hbel
        have HX : Hid (l[k]! = m[k]! → ∀ t, t < k + 1 → l[t]! = m[t]!) := fun h t ht => by
          by_cases e : t = k
          · rw [e]; exact h
          · exact HEQ.out t (by omega)
        have HY : Hid (¬ l[k]! = m[k]! → ¬ l = m) := fun h e => h (by rw [e])
        generalize l[k]! = x at hc1 HX HY
        generalize m[k]! = y at hc2 HX HY
        have k0 := cell_regrown hc1.c0
        have j0 := cell_regrown hc2.c0
        have k1 := cell_regrown hc1.c1
        have j1 := cell_regrown hc2.c1
        have hE := fun d os => eqRn_grown x y wr d os
        have hkn : (k : Int) < (n : Int) := by omega
        have hk0 : (0 : Int) ≤ (k : Int) := by omega
        clear hva hub hc1 hc2
        by_cases hxy : x = y
        · have hd : decide (x = y) = true := by simp [hxy]
          have HX' : Hid _ := HX.out hxy
          rw [hd] at hE
          clear HX HY hd hxy
          go_wp2
          refine wp_region_quiet_below (by kernel_rfl) (by kernel_rfl) ?_
          repeat (go_big_quiet_step (exact hE _ _))
          refine wpQuiet_nil ?_
          rintro w' ⟨⟨dq, osq⟩, rfl⟩
          have hbq := below_regrown wr dq osq
          generalize grow (redrawn wr dq) osq = w4 at hbq ⊢
          go_wp2
          go_roundw
          case rel => exact ⟨k + 1, by omega, by go_num, HX'.out, hbel.trans (hbq.mono hbel.size)⟩
          case measure => simp [intOf]; omega
        · have hd : decide (x = y) = false := by simp [hxy]
          have HY' : Hid _ := HY.out hxy
          rw [hd] at hE
          clear HX HY hd hxy
          go_wp2
          refine wp_region_quiet_below (by kernel_rfl) (by kernel_rfl) ?_
          repeat (go_big_quiet_step (exact hE _ _))
          refine wpQuiet_nil ?_
          rintro w' ⟨⟨dq, osq⟩, rfl⟩
          have hbq := below_regrown wr dq osq
          generalize grow (redrawn wr dq) osq = w4 at hbq ⊢
          go_wp2
          go_ret
          exact ⟨by rw [decide_eq_false HY'.out]; rfl, hbel.trans (hbq.mono hbel.size)⟩
      · obtain rfl : k = n := by omega
        go_wp2
        go_ret
        refine ⟨?_, hbel⟩
        have : l = m := Rns_ext l m hlen (fun t ht => HEQ.out t (by rw [HN.out]; omega))
        simp [this]
  · have hne : ((l.length : Int) != (m.length : Int)) = true := by simp; omega
    have hneq : ¬ l = m := fun e => hlen (by rw [e])
    go_enter Tryd.func19, Tryd.ntmps19
    go_wp2
    go_ret
    exact ⟨by simp [hneq], Below.refl _ _⟩

/-- the first j of l, then empty ones -/
def fillRn (j : Nat) (l : List Rn) : List Rn := l.take j ++ List.replicate (l.length - j) ⟨0, 0⟩
theorem fillRn_len (j : Nat) (l : List Rn) : (fillRn j l).length = l.length := by unfold fillRn; simp; omega
theorem fillRn_step (j : Nat) (l : List Rn) (h : j < l.length) : (fillRn j l).set j l[j]! = fillRn (j + 1) l := by
  have e : min j l.length = j := by omega
  unfold fillRn
  rw [List.set_append_right _ _ (by rw [List.length_take, e]; exact Nat.le_refl _), List.take_succ_eq_append_getElem h, getElem!_pos l j h, List.length_take, e, Nat.sub_self]
  rw [show l.length - j = (l.length - (j + 1)) + 1 by omega, List.replicate_succ, List.set_cons_zero, List.append_assoc]
  rfl
theorem flatRn_zero (n : Nat) : (madeCells #[.int .i64 0, .int .i64 0] (n * 2)).toList = flatRn (List.replicate n ⟨0, 0⟩) := by
  apply List.ext_getElem?
  intro j
  by_cases hj : j < n * 2
  · have h1 := flatRn_at (List.replicate n ⟨0, 0⟩) (j / 2) (by simp; omega) (j % 2) (by omega)
    have h2 : (List.replicate n (⟨0, 0⟩ : Rn))[j / 2]! = ⟨0, 0⟩ := by
      rw [getElem!_pos _ _ (by simp; omega)]; simp
    rw [h2, show j / 2 * 2 + j % 2 = j by omega] at h1
    rw [h1]
    simp only [madeCells, Array.toList_map, List.getElem?_map, Array.toList_range, List.getElem?_range hj, Option.map_some]
    have : j % 2 < 2 := by omega
    show some (#[Value.int .i64 0, Value.int .i64 0][j % 2]!) = _
    generalize j % 2 = s at *
    rcases s with _ | _ | s
    · rfl
    · rfl
    · omega
  · rw [List.getElem?_eq_none (by rw [Array.length_toList, size_madeCells]; omega), List.getElem?_eq_none (by rw [flatRn_len]; simp; omega)]



/-- the marked one whose first number is m -/
def mkRn (m : Nat) : Rn := ⟨m, m + 1⟩
def marksRn (k : Nat) : Nat → List Rn
  | 0 => []
  | n + 1 => marksRn k n ++ [mkRn (k + 2 * n)]
theorem marksRn_len (k n : Nat) : (marksRn k n).length = n := by
  induction n with
  | zero => rfl
  | succ n ih => simp [marksRn, ih]
def markdRn (k j : Nat) (l : List Rn) : List Rn := marksRn k j ++ l.drop j
theorem markdRn_len {k j : Nat} {l : List Rn} (h : j ≤ l.length) : (markdRn k j l).length = l.length := by
  simp [markdRn, marksRn_len]; omega
theorem markdRn_step {k j : Nat} {l : List Rn} (h : j < l.length) : (markdRn k j l).set j (mkRn (k + 2 * j)) = markdRn k (j + 1) l := by
  unfold markdRn
  rw [List.set_append_right _ _ (by rw [marksRn_len]; exact Nat.le_refl _), marksRn_len, Nat.sub_self, List.drop_eq_getElem_cons h, List.set_cons_zero]
  simp [marksRn]
theorem markdRn_all (k : Nat) (l : List Rn) : markdRn k l.length l = marksRn k l.length := by simp [markdRn]
theorem marksRn_get (k n t : Nat) (h : t < n) : (marksRn k n)[t]! = mkRn (k + 2 * t) := by
  induction n with
  | zero => omega
  | succ n ih =>
    rw [getElem!_pos _ _ (by rw [marksRn_len]; exact h)]
    simp only [marksRn]
    by_cases ht : t < n
    · rw [List.getElem_append_left (by rw [marksRn_len]; exact ht), ← ih ht, getElem!_pos _ _ (by rw [marksRn_len]; exact ht)]
    · obtain rfl : t = n := by omega
      rw [List.getElem_append_right (by rw [marksRn_len]; exact Nat.le_refl _)]
      simp [marksRn_len]

set_option maxRecDepth 100000 in
set_option maxHeartbeats 1000000 in
theorem markRnS_any (v : Value) (l : List Rn) (k : Nat) (base : Nat) (w : World) (hv : RnRow w base v l) (hl : l.length ≤ 4194304) (hk0 : 0 < k) (hk1 : k ≤ 100000000) :
    Calls Tryd.prog 22 #[v, .int .i64 k] w fun e w' => e = .returned (.int .i64 ((k + 2 * l.length : Nat) : Int)) ∧ RnRow w' base v (marksRn k l.length) ∧ w.grownBy w' v.ownBlock := by
  rcases hv.2 with ⟨rfl, h0⟩ | ⟨g, cap, cur, rfl, hg, hh, hnc, hcp, hcs, htake⟩
  · obtain rfl : l = [] := List.length_eq_zero_iff.1 h0
    go_enter Tryd.func22, Tryd.ntmps22
    go_wp2
    refine wp_loop_rounds 1 ?_
    rw [rounds_succ]
    go_wp2
    go_ret
    exact ⟨by simp, hv, ⟨rfl, rfl, rfl, Nat.le_refl _, fun _ _ _ => rfl⟩⟩
  · obtain ⟨n, HN⟩ : ∃ n, Hid (n = l.length) := ⟨_, rfl⟩
    have hv1 : w.ownsRow base 34 2 (.slice (some ⟨g, 0, none⟩) n cap) n (flatRn (markdRn k 0 l)) := by
      have : markdRn k 0 l = l := by simp [markdRn, marksRn]
      rw [this, HN.out]; exact hv
    have HM : Hid (∀ j, j < n → (markdRn k j l).set j (mkRn (k + 2 * j)) = markdRn k (j + 1) l) := fun j hj => markdRn_step (by rw [← HN.out]; exact hj)
    have HLN : Hid (∀ j, j ≤ n → (markdRn k j l).length = n) := fun j hj => by rw [HN.out] at hj ⊢; exact markdRn_len hj
    have HE : Hid (markdRn k n l = marksRn k l.length) := by show _ = _; rw [HN.out]; exact markdRn_all k l
    clear hv hh hcs htake
    rw [← HN.out] at hl hnc ⊢
    go_enter Tryd.func22, Tryd.ntmps22
    go_wp2
    go_loopw [1, 5] (fun q i wr => ∃ (j m : Nat), j ≤ n ∧ i = .int .i64 j ∧ q = .int .i64 m ∧ Hid (m = k + 2 * j) ∧ wr.ownsRow base 34 2 (.slice (some ⟨g, 0, none⟩) n cap) n (flatRn (markdRn k j l)) ∧ w.grownBy wr (some g)) (fun _ i _ => n - (intOf i).toNat)
    case atStart => exact ⟨0, k, Nat.zero_le _, rfl, rfl, rfl, hv1, ⟨rfl, rfl, rfl, Nat.le_refl _, fun _ _ _ => rfl⟩⟩
    case round =>
      obtain ⟨j, m, hj, rfl, rfl, HMM, hown, hgb⟩ := hrel
      have hm0 : 0 < m := by have := HMM.out; omega
      have hm1 : m ≤ 200000000 := by have := HMM.out; omega
      by_cases hlt : j < n
      · have s0 := hown
        obtain ⟨⟨u0, d0⟩, f0⟩ := rowRn_cells s0 (j * 2) (by omega)
        have s1 := (s0.stored (j * 2) (.int .i64 ((m : Int)))).1
        obtain ⟨⟨u1, d1⟩, f1⟩ := rowRn_cells s1 (j * 2 + 1) (by omega)
        have s2 := (s1.stored (j * 2 + 1) (.int .i64 ((m : Int) + 1))).1
        have hw1 : IntKind.i64.wrap ((m : Int) + 1) = (m : Int) + 1 := by rw [IntKind.wrap_i64]; omega
        have HS : Hid (((wr.setCell ⟨g, j * 2, none⟩ (.int .i64 (m : Int))).setCell ⟨g, j * 2 + 1, none⟩ (.int .i64 ((m : Int) + 1))).ownsRow base 34 2 (.slice (some ⟨g, 0, none⟩) n cap) n (flatRn (markdRn k (j + 1) l))) := by
          have e := flatRn_put (markdRn k j l) j (mkRn m) (by rw [HLN.out j hj]; exact hlt)
          show World.ownsRow _ _ _ _ _ _ _
          rw [← HM.out j hlt, ← HMM.out, ← e]
          have ee : ∀ z : Int, z = m → ((mkRn m).p = z) ∧ ((mkRn m).n = z + 1) := fun z hz => by subst hz; refine ⟨?_, ?_⟩ <;> first | rfl | (simp only [mkRn]; omega)
          obtain ⟨e0, e1⟩ := ee m rfl
          rw [e0, e1]
          exact s2
        clear s0 s1 s2 hown
        go_wp2
        go_roundw
        case rel => exact ⟨j + 1, m + 2, by omega, by go_num, by go_num, by show m + 2 = _; rw [HMM.out]; omega, HS.out, (gbi_trans (gbi_trans hgb (gbi_set _ _ _ _)) (gbi_set _ _ _ _) )⟩
        case measure => simp [intOf]; omega
      · obtain rfl : n = j := by omega
        rw [HE.out] at hown
        go_wp2
        go_ret
        refine ⟨by rw [HMM.out]; rfl, ?_, hgb⟩
        rw [← HN.out] at hown
        unfold RnRow
        rw [marksRn_len]
        exact hown

set_option maxRecDepth 100000 in
set_option maxHeartbeats 1000000 in
theorem heldRnS_marks (v : Value) (n k : Nat) (w : World) (hn : n ≤ 4194304) (hk0 : 0 < k) (hk1 : k ≤ 100000000) (hv : RnsAt w v (marksRn k n)) :
    Calls Tryd.prog 23 #[v, .int .i64 k] w fun e w' => e = .returned (.int .i64 ((k + 2 * n : Nat) : Int)) ∧ Below w.heap.size w w' := by
  obtain ⟨a, cap, rfl, -, hva⟩ := hv
  rw [marksRn_len] at hva ⊢
  have HV : Hid (∀ t, t < n → ∃ b off, a = some ⟨b, off, none⟩ ∧ b < w.heap.size ∧ CellsRn w b (off + t * 2) (mkRn (k + 2 * t))) := fun t ht => by
    obtain ⟨b, off, h1, h2, h3⟩ := hva t ht
    rw [marksRn_get k n t ht] at h3
    exact ⟨b, off, h1, h2, h3⟩
  clear hva
  go_enter Tryd.func23, Tryd.ntmps23
  go_wp2
  go_loopw [1, 5] (fun q i wr => ∃ (j m : Nat), j ≤ n ∧ i = .int .i64 j ∧ q = .int .i64 m ∧ Hid (m = k + 2 * j) ∧ wr = w) (fun _ i _ => n - (intOf i).toNat)
  case atStart => exact ⟨0, k, Nat.zero_le _, rfl, rfl, rfl, rfl⟩
  case round =>
    obtain ⟨j, m, hj, rfl, rfl, HMM, rfl⟩ := hrel
    have hm0 : 0 < m := by have := HMM.out; omega
    have hm1 : m ≤ 200000000 := by have := HMM.out; omega
    by_cases hlt : j < n
    · obtain ⟨b, off, rfl, hb, hc⟩ := HV.out j hlt
      rw [← HMM.out] at hc
      have k0 := hc.c0
      have k1 := hc.c1
      simp only [mkRn] at k0 k1
      have hw1 : IntKind.i64.wrap ((m : Int) + 1) = (m : Int) + 1 := by rw [IntKind.wrap_i64]; omega
      rw [show (m : Int) + 1 = (m : Int) + 1 by omega] at k1
      clear hc
      go_wp2
      go_roundw
      case rel => exact ⟨j + 1, m + 2, by omega, by go_num, by go_num, by show m + 2 = _; rw [HMM.out]; omega, by first | rfl | trivial⟩
      case measure => simp [intOf]; omega
    · obtain rfl : n = j := by omega
      go_wp2
      go_ret
      exact ⟨by rw [HMM.out]; rfl, Below.refl _ _⟩

end Go.Proofs.YthnpjlnilkbamaaDoor
