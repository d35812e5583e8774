/- Rows of structs of 3 whole numbers (Ext): what laws' to, eq, sz, mark and held do. -/
import Derived.Test.YtkbkanmmpdeokaaRows
import Derived.Test.YtkbkanmmpdeokaaExR
import Derived.WalkKit
import Derived.WalkSpells
import Derived.WalkLawsBesides
import Derived.Deep.QuietTactic
import Derived.BigQuiet
import Derived.Deep.Onto
import Derived.Lib.QuietBelow
namespace Go.Proofs.Ytkbkanmmpdeokaa
open Go.RowKit Go.Sort

set_option maxRecDepth 100000 in
set_option maxHeartbeats 1000000 in
theorem toEx_any (x0 x1 x2 : Int) (w : World) :
    Calls Try.prog 49 #[.agg #[.int .i64 x0, .int .i64 x1, .int .i64 x2]] w fun x w' => x = .returned (.agg #[.int .i64 x0, .int .i64 x1, .int .i64 x2]) ∧ Below w.heap.size w w' := by
  go_enter Try.func49, Try.ntmps49
  go_wp2
  refine bodyPost_ret (v := .agg #[.int .i64 x0, .int .i64 x1, .int .i64 x2]) (by simp [results, Try.results49, go_sem]) rfl ⟨rfl, ?_⟩
  refine ((below_lit w _).alloc ?_ _).alloc ?_ _ <;> simp <;> omega

set_option maxRecDepth 100000 in
set_option maxHeartbeats 1000000 in
theorem eqEx_any (a b : Ex) (w : World) :
    Calls Try.prog 50 #[.agg #[.int .i64 a.p, .int .i64 a.b, .int .i64 a.n], .agg #[.int .i64 b.p, .int .i64 b.b, .int .i64 b.n]] w fun x w' => x = .returned (.bool (decide (a = b))) ∧ Below w.heap.size w w' := by
  obtain ⟨x0, x1, x2⟩ := a
  obtain ⟨y0, y1, y2⟩ := b
  have hb := (below_lit w (.cells #[.int .i64 x0, .int .i64 x1, .int .i64 x2] 58)).alloc (by simp) (.cells #[.int .i64 y0, .int .i64 y1, .int .i64 y2] 58)
  have HR : Hid (∀ r : Bool, (r = true ↔ x0 = y0 ∧ x1 = y1 ∧ x2 = y2) → decide ((⟨x0, x1, x2⟩ : Ex) = ⟨y0, y1, y2⟩) = r) := fun r hr => by
    rw [Bool.eq_iff_iff, hr, decide_eq_true_eq, Ex.mk.injEq]
  dsimp only
  generalize decide ((⟨x0, x1, x2⟩ : Ex) = ⟨y0, y1, y2⟩) = r at HR ⊢
  by_cases e0 : x0 = y0
  · by_cases e1 : x1 = y1
    · by_cases e2 : x2 = y2
      · have f0 : (x0 != y0) = false := by simp [e0]
        have f1 : (x1 != y1) = false := by simp [e1]
        have f2 : (x2 != y2) = false := by simp [e2]
        have hr := HR.out true (by simp [e0, e1, e2])
        clear e0 e1 e2
        go_enter Try.func50, Try.ntmps50
        go_wp2
        go_ret
        exact ⟨by rw [hr]; rfl, hb⟩
      · have f0 : (x0 != y0) = false := by simp [e0]
        have f1 : (x1 != y1) = false := by simp [e1]
        have f2 : (x2 != y2) = true := by simp [e2]
        have hr := HR.out false (by simp [e2])
        clear e0 e1 e2
        go_enter Try.func50, Try.ntmps50
        go_wp2
        go_ret
        exact ⟨by rw [hr]; rfl, hb⟩
    · have f0 : (x0 != y0) = false := by simp [e0]
      have f1 : (x1 != y1) = true := by simp [e1]
      have hr := HR.out false (by simp [e1])
      clear e0 e1
      go_enter Try.func50, Try.ntmps50
      go_wp2
      go_ret
      exact ⟨by rw [hr]; rfl, hb⟩
  · have f0 : (x0 != y0) = true := by simp [e0]
    have hr := HR.out false (by simp [e0])
    clear e0
    go_enter Try.func50, Try.ntmps50
    go_wp2
    go_ret
    exact ⟨by rw [hr]; rfl, hb⟩

theorem eqEx_grown (a b : Ex) (w : World) (d : Nat) (os : Array Obj) :
    Calls Try.prog 50 #[.agg #[.int .i64 a.p, .int .i64 a.b, .int .i64 a.n], .agg #[.int .i64 b.p, .int .i64 b.b, .int .i64 b.n]] (grow (redrawn w d) os) fun x w'' => x = .returned (.bool (decide (a = b))) ∧ ∃ p : Regrown, w'' = grow (redrawn w p.d) p.os :=
  Calls.regrown_of (eqEx_any a b _)

set_option maxRecDepth 100000 in
set_option maxHeartbeats 1000000 in
theorem eqExS_any (v u : Value) (l m : List Ex) (w : World) (hl : l.length ≤ 9223372036854775807) (hv : ExsAt w v l) (hu : ExsAt w u m) :
    Calls Try.prog 23 #[v, u] w fun e w' => e = .returned (.bool (decide (l = m))) ∧ Below w.heap.size w w' := by
  obtain ⟨a, ca, rfl, -, hva⟩ := hv
  obtain ⟨b, cb, rfl, -, hub⟩ := hu
  by_cases hlen : l.length = m.length
  · have hlen' : (l.length : Int) = (m.length : Int) := by omega
    obtain ⟨n, HN⟩ : ∃ n, Hid (n = m.length) := ⟨_, rfl⟩
    rw [hlen] at hva hl ⊢
    rw [← HN.out] at hva hub hl ⊢
    go_enter Try.func23, Try.ntmps23
    go_wp2
    go_loopw [5] (fun i wr => ∃ k : Nat, k ≤ n ∧ i = .int .i64 k ∧ Hid (∀ t, t < k → l[t]! = m[t]!) ∧ Below w.heap.size w wr) (fun i _ => n - (intOf i).toNat)
    case atStart => exact ⟨0, Nat.zero_le _, rfl, fun t ht => by omega, Below.refl _ _⟩
    case round =>
      obtain ⟨k, hk, rfl, HEQ, hbel⟩ := hrel
      by_cases hlt : k < n
      · obtain ⟨b1, o1, rfl, hb1, hc1⟩ := hva k hlt
        obtain ⟨b2, o2, rfl, hb2, hc2⟩ := hub k hlt
        have hc1 := hc1.below hb1 hbel
        have hc2 := hc2.below hb2 hbel
        have HX : Hid (l[k]! = m[k]! → ∀ t, t < k + 1 → l[t]! = m[t]!) := fun h t ht => by
          by_cases e : t = k
          · rw [e]; exact h
          · exact HEQ.out t (by omega)
        have HY : Hid (¬ l[k]! = m[k]! → ¬ l = m) := fun h e => h (by rw [e])
        generalize l[k]! = x at hc1 HX HY
        generalize m[k]! = y at hc2 HX HY
        have k0 := cell_regrown hc1.c0
        have j0 := cell_regrown hc2.c0
        have k1 := cell_regrown hc1.c1
        have j1 := cell_regrown hc2.c1
        have k2 := cell_regrown hc1.c2
        have j2 := cell_regrown hc2.c2
        have hE := fun d os => eqEx_grown x y wr d os
        have hkn : (k : Int) < (n : Int) := by omega
        have hk0 : (0 : Int) ≤ (k : Int) := by omega
        clear hva hub hc1 hc2
        by_cases hxy : x = y
        · have hd : decide (x = y) = true := by simp [hxy]
          have HX' : Hid _ := HX.out hxy
          rw [hd] at hE
          clear HX HY hd hxy
          go_wp2
          refine wp_region_quiet_below (by kernel_rfl) (by kernel_rfl) ?_
          repeat (go_big_quiet_step (exact hE _ _))
          refine wpQuiet_nil ?_
          rintro w' ⟨⟨dq, osq⟩, rfl⟩
          have hbq := below_regrown wr dq osq
          generalize grow (redrawn wr dq) osq = w4 at hbq ⊢
          go_wp2
          go_roundw
          case rel => exact ⟨k + 1, by omega, by go_num, HX'.out, hbel.trans (hbq.mono hbel.size)⟩
          case measure => simp [intOf]; omega
        · have hd : decide (x = y) = false := by simp [hxy]
          have HY' : Hid _ := HY.out hxy
          rw [hd] at hE
          clear HX HY hd hxy
          go_wp2
          refine wp_region_quiet_below (by kernel_rfl) (by kernel_rfl) ?_
          repeat (go_big_quiet_step (exact hE _ _))
          refine wpQuiet_nil ?_
          rintro w' ⟨⟨dq, osq⟩, rfl⟩
          have hbq := below_regrown wr dq osq
          generalize grow (redrawn wr dq) osq = w4 at hbq ⊢
          go_wp2
          go_ret
          exact ⟨by rw [decide_eq_false HY'.out]; rfl, hbel.trans (hbq.mono hbel.size)⟩
      · obtain rfl : k = n := by omega
        go_wp2
        go_ret
        refine ⟨?_, hbel⟩
        have : l = m := Exs_ext l m hlen (fun t ht => HEQ.out t (by rw [HN.out]; omega))
        simp [this]
  · have hne : ((l.length : Int) != (m.length : Int)) = true := by simp; omega
    have hneq : ¬ l = m := fun e => hlen (by rw [e])
    go_enter Try.func23, Try.ntmps23
    go_wp2
    go_ret
    exact ⟨by simp [hneq], Below.refl _ _⟩

/-- the first j of l, then empty ones -/
def fillEx (j : Nat) (l : List Ex) : List Ex := l.take j ++ List.replicate (l.length - j) ⟨0, 0, 0⟩
theorem fillEx_len (j : Nat) (l : List Ex) : (fillEx j l).length = l.length := by unfold fillEx; simp; omega
theorem fillEx_step (j : Nat) (l : List Ex) (h : j < l.length) : (fillEx j l).set j l[j]! = fillEx (j + 1) l := by
  have e : min j l.length = j := by omega
  unfold fillEx
  rw [List.set_append_right _ _ (by rw [List.length_take, e]; exact Nat.le_refl _), List.take_succ_eq_append_getElem h, getElem!_pos l j h, List.length_take, e, Nat.sub_self]
  rw [show l.length - j = (l.length - (j + 1)) + 1 by omega, List.replicate_succ, List.set_cons_zero, List.append_assoc]
  rfl
theorem flatEx_zero (n : Nat) : (madeCells #[.int .i64 0, .int .i64 0, .int .i64 0] (n * 3)).toList = flatEx (List.replicate n ⟨0, 0, 0⟩) := by
  apply List.ext_getElem?
  intro j
  by_cases hj : j < n * 3
  · have h1 := flatEx_at (List.replicate n ⟨0, 0, 0⟩) (j / 3) (by simp; omega) (j % 3) (by omega)
    have h2 : (List.replicate n (⟨0, 0, 0⟩ : Ex))[j / 3]! = ⟨0, 0, 0⟩ := by
      rw [getElem!_pos _ _ (by simp; omega)]; simp
    rw [h2, show j / 3 * 3 + j % 3 = j by omega] at h1
    rw [h1]
    simp only [madeCells, Array.toList_map, List.getElem?_map, Array.toList_range, List.getElem?_range hj, Option.map_some]
    have : j % 3 < 3 := by omega
    show some (#[Value.int .i64 0, Value.int .i64 0, Value.int .i64 0][j % 3]!) = _
    generalize j % 3 = s at *
    rcases s with _ | _ | _ | s
    · rfl
    · rfl
    · rfl
    · omega
  · rw [List.getElem?_eq_none (by rw [Array.length_toList, size_madeCells]; omega), List.getElem?_eq_none (by rw [flatEx_len]; simp; omega)]

set_option maxRecDepth 100000 in
set_option maxHeartbeats 1000000 in
theorem toExS_any (v : Value) (l : List Ex) (w : World) (hl : l.length ≤ 1048576) (hv : ExsAt w v l) :
    Calls Try.prog 21 #[v] w fun e w' => ∃ u, e = .returned u ∧ ExRow w' w.heap.size u l ∧ Below w.heap.size w w' := by
  obtain ⟨a, ca, rfl, -, hva⟩ := hv
  obtain ⟨n, HN⟩ : ∃ n, Hid (n = l.length) := ⟨_, rfl⟩
  have HM : Hid (∀ j, j < n → (fillEx j l).set j l[j]! = fillEx (j + 1) l) := fun j hj => fillEx_step j l (by rw [← HN.out]; exact hj)
  have HE : Hid (fillEx n l = l) := by show _ = _; rw [HN.out]; simp [fillEx]
  have HLE : Hid (∀ j, (fillEx j l).length = n) := fun j => by rw [HN.out]; exact fillEx_len j l
  have HR : Hid (∀ w' u, ExRow w' w.heap.size u l = w'.ownsRow w.heap.size 58 3 u n (flatEx l)) := fun _ _ => by rw [HN.out]; rfl
  rw [← HN.out] at hva hl ⊢
  obtain ⟨i0, hi, hz0, hz1, hz2⟩ := info_parts Try.infoEx
  go_enter Try.func21, Try.ntmps21
  go_wp2_with (at_make; refine wpList_make_full _ rfl _ _ 24 rfl w.heap.size 58 i0 _ 3 Try.underlying24 hi hz0 hz1 .i64 .i64 _ _ n rfl rfl rfl rfl (by rw [hz2]; omega) (by unfold maxLen; omega) (Nat.le_refl _) ?_; intro w1 hown1 hgrow1)
  have hown2 : w1.ownsRow w.heap.size 58 3 (.slice (some ⟨w.heap.size, 0, none⟩) n n) n (flatEx (fillEx 0 l)) := by
    have e : fillEx 0 l = List.replicate n ⟨0, 0, 0⟩ := by rw [HN.out]; simp [fillEx]
    rw [e, ← flatEx_zero]; simpa [Value.cells] using hown1
  have hbel2 : Below w.heap.size w w1 := (Below.refl _ _).grown hgrow1 (Nat.le_refl _) (fun _ h => by cases h)
  clear hown1 hgrow1
  go_wp2
  go_loopw [4] (fun i wr => ∃ k : Nat, k ≤ n ∧ i = .int .i64 k ∧ wr.ownsRow w.heap.size 58 3 (.slice (some ⟨w.heap.size, 0, none⟩) n n) n (flatEx (fillEx k l)) ∧ Below w.heap.size w wr) (fun i _ => n - (intOf i).toNat)
  case atStart => exact ⟨0, Nat.zero_le _, rfl, hown2, hbel2⟩
  case round =>
    obtain ⟨k, hk, rfl, hown, hbel⟩ := hrel
    by_cases hlt : k < n
    · obtain ⟨b1, o1, rfl, hb1, hc1⟩ := hva k hlt
      have hc1 := hc1.below hb1 hbel
      have HP : Hid (∀ w2, Below wr.heap.size wr w2 → ((((w2.setCell ⟨w.heap.size, k * 3, none⟩ (.int .i64 l[k]!.p)).setCell ⟨w.heap.size, k * 3 + 1, none⟩ (.int .i64 l[k]!.b)).setCell ⟨w.heap.size, k * 3 + 2, none⟩ (.int .i64 l[k]!.n)).ownsRow w.heap.size 58 3 (.slice (some ⟨w.heap.size, 0, none⟩) n n) n (flatEx (fillEx (k + 1) l))) ∧ (∀ j, j < n * 3 → (∃ u, w2.cell? ⟨w.heap.size, j, none⟩ = some u) ∧ w2.frozen? ⟨w.heap.size, j, none⟩ = false)) := fun w2 hb2 => by
        have h2 := ownEx_below hown hb2
        refine ⟨?_, fun j hj => rowEx_cells h2 j hj⟩
        rw [← HM.out k hlt]
        exact rowEx_put h2 k (by rw [HLE.out]; exact hlt) _
      have c0 := hc1.c0
      have c1 := hc1.c1
      have c2 := hc1.c2
      have HT := fun w2 => toEx_any l[k]!.p l[k]!.b l[k]!.n w2
      generalize l[k]!.p = x0 at c0 HP HT
      generalize l[k]!.b = x1 at c1 HP HT
      generalize l[k]!.n = x2 at c2 HP HT
      clear hc1 hva hown
      go_wp2_with (go_at_call 49; refine (HT _).mono ?_; rintro e w2 ⟨rfl, b2⟩; obtain ⟨h2, hcc⟩ := HP.out _ b2; obtain ⟨⟨u0, d0⟩, f0⟩ := hcc (k * 3) (by omega); obtain ⟨⟨u1, d1⟩, f1⟩ := hcc (k * 3 + 1) (by omega); obtain ⟨⟨u2, d2⟩, f2⟩ := hcc (k * 3 + 2) (by omega); have HS : Hid _ := h2; clear h2 hcc)
      go_roundw
      case rel => exact ⟨k + 1, by omega, by go_num, HS.out, (((hbel.trans (b2.mono hbel.size)).setCell (Nat.le_refl _) _).setCell (Nat.le_refl _) _).setCell (Nat.le_refl _) _⟩
      case measure => simp [intOf]; omega
    · obtain rfl : k = n := by omega
      rw [HE.out] at hown
      go_wp2
      go_ret
      exact ⟨_, rfl, by rw [HR.out]; exact hown, hbel⟩

set_option maxRecDepth 100000 in
set_option maxHeartbeats 1000000 in
theorem szExS_any (v : Value) (l : List Ex) (y : Int) (w : World) (hy0 : 0 ≤ y) (hy1 : y ≤ 1048576) (hv : ExsAt w v l) (hl : l.length ≤ 9223372036854775807) :
    Calls Try.prog 20 #[v, .int .i64 y] w fun e w' => ∃ r : Int, e = .returned (.int .i64 r) ∧ (-1 ≤ r ∧ r ≤ 1048576) ∧ Hid (0 ≤ r → l.length ≤ 1048576) ∧ Below w.heap.size w w' := by
  obtain ⟨a, ca, rfl, -, hva⟩ := hv
  obtain ⟨n, HL⟩ : ∃ n, Hid (n = l.length) := ⟨_, rfl⟩
  rw [← HL.out] at hva hl ⊢
  have hw : IntKind.i64.wrap (y - (n : Int)) = y - (n : Int) := by rw [IntKind.wrap_i64]; omega
  by_cases hbig : y < (n : Int)
  · have hc : y - (n : Int) < 0 := by omega
    go_enter Try.func20, Try.ntmps20
    go_wp2
    go_ret
    exact ⟨-1, rfl, ⟨by omega, by omega⟩, fun h => (by omega), Below.refl _ _⟩
  · have hc : ¬ (y - (n : Int) < 0) := by omega
    go_enter Try.func20, Try.ntmps20
    go_wp2
    go_ret
    exact ⟨_, rfl, ⟨by omega, by omega⟩, fun _ => by omega, Below.refl _ _⟩

/-- the marked one whose first number is m -/
def mkEx (m : Nat) : Ex := ⟨m, m + 1, m + 2⟩
def marksEx (k : Nat) : Nat → List Ex
  | 0 => []
  | n + 1 => marksEx k n ++ [mkEx (k + 3 * n)]
theorem marksEx_len (k n : Nat) : (marksEx k n).length = n := by
  induction n with
  | zero => rfl
  | succ n ih => simp [marksEx, ih]
def markdEx (k j : Nat) (l : List Ex) : List Ex := marksEx k j ++ l.drop j
theorem markdEx_len {k j : Nat} {l : List Ex} (h : j ≤ l.length) : (markdEx k j l).length = l.length := by
  simp [markdEx, marksEx_len]; omega
theorem markdEx_step {k j : Nat} {l : List Ex} (h : j < l.length) : (markdEx k j l).set j (mkEx (k + 3 * j)) = markdEx k (j + 1) l := by
  unfold markdEx
  rw [List.set_append_right _ _ (by rw [marksEx_len]; exact Nat.le_refl _), marksEx_len, Nat.sub_self, List.drop_eq_getElem_cons h, List.set_cons_zero]
  simp [marksEx]
theorem markdEx_all (k : Nat) (l : List Ex) : markdEx k l.length l = marksEx k l.length := by simp [markdEx]
theorem marksEx_get (k n t : Nat) (h : t < n) : (marksEx k n)[t]! = mkEx (k + 3 * t) := by
  induction n with
  | zero => omega
  | succ n ih =>
    rw [getElem!_pos _ _ (by rw [marksEx_len]; exact h)]
    simp only [marksEx]
    by_cases ht : t < n
    · rw [List.getElem_append_left (by rw [marksEx_len]; exact ht), ← ih ht, getElem!_pos _ _ (by rw [marksEx_len]; exact ht)]
    · obtain rfl : t = n := by omega
      rw [List.getElem_append_right (by rw [marksEx_len]; exact Nat.le_refl _)]
      simp [marksEx_len]

set_option maxRecDepth 100000 in
set_option maxHeartbeats 1000000 in
theorem markExS_any (v : Value) (l : List Ex) (k : Nat) (base : Nat) (w : World) (hv : ExRow w base v l) (hl : l.length ≤ 4194304) (hk0 : 0 < k) (hk1 : k ≤ 100000000) :
    Calls Try.prog 24 #[v, .int .i64 k] w fun e w' => e = .returned (.int .i64 ((k + 3 * l.length : Nat) : Int)) ∧ ExRow w' base v (marksEx k l.length) ∧ w.grownBy w' v.ownBlock := by
  rcases hv.2 with ⟨rfl, h0⟩ | ⟨g, cap, cur, rfl, hg, hh, hnc, hcp, hcs, htake⟩
  · obtain rfl : l = [] := List.length_eq_zero_iff.1 h0
    go_enter Try.func24, Try.ntmps24
    go_wp2
    refine wp_loop_rounds 1 ?_
    rw [rounds_succ]
    go_wp2
    go_ret
    exact ⟨by simp, hv, ⟨rfl, rfl, rfl, Nat.le_refl _, fun _ _ _ => rfl⟩⟩
  · obtain ⟨n, HN⟩ : ∃ n, Hid (n = l.length) := ⟨_, rfl⟩
    have hv1 : w.ownsRow base 58 3 (.slice (some ⟨g, 0, none⟩) n cap) n (flatEx (markdEx k 0 l)) := by
      have : markdEx k 0 l = l := by simp [markdEx, marksEx]
      rw [this, HN.out]; exact hv
    have HM : Hid (∀ j, j < n → (markdEx k j l).set j (mkEx (k + 3 * j)) = markdEx k (j + 1) l) := fun j hj => markdEx_step (by rw [← HN.out]; exact hj)
    have HLN : Hid (∀ j, j ≤ n → (markdEx k j l).length = n) := fun j hj => by rw [HN.out] at hj ⊢; exact markdEx_len hj
    have HE : Hid (markdEx k n l = marksEx k l.length) := by show _ = _; rw [HN.out]; exact markdEx_all k l
    clear hv hh hcs htake
    rw [← HN.out] at hl hnc ⊢
    go_enter Try.func24, Try.ntmps24
    go_wp2
    go_loopw [1, 5] (fun q i wr => ∃ (j m : Nat), j ≤ n ∧ i = .int .i64 j ∧ q = .int .i64 m ∧ Hid (m = k + 3 * j) ∧ wr.ownsRow base 58 3 (.slice (some ⟨g, 0, none⟩) n cap) n (flatEx (markdEx k j l)) ∧ w.grownBy wr (some g)) (fun _ i _ => n - (intOf i).toNat)
    case atStart => exact ⟨0, k, Nat.zero_le _, rfl, rfl, rfl, hv1, ⟨rfl, rfl, rfl, Nat.le_refl _, fun _ _ _ => rfl⟩⟩
    case round =>
      obtain ⟨j, m, hj, rfl, rfl, HMM, hown, hgb⟩ := hrel
      have hm0 : 0 < m := by have := HMM.out; omega
      have hm1 : m ≤ 200000000 := by have := HMM.out; omega
      by_cases hlt : j < n
      · have s0 := hown
        obtain ⟨⟨u0, d0⟩, f0⟩ := rowEx_cells s0 (j * 3) (by omega)
        have s1 := (s0.stored (j * 3) (.int .i64 ((m : Int)))).1
        obtain ⟨⟨u1, d1⟩, f1⟩ := rowEx_cells s1 (j * 3 + 1) (by omega)
        have s2 := (s1.stored (j * 3 + 1) (.int .i64 ((m : Int) + 1))).1
        obtain ⟨⟨u2, d2⟩, f2⟩ := rowEx_cells s2 (j * 3 + 2) (by omega)
        have s3 := (s2.stored (j * 3 + 2) (.int .i64 ((m : Int) + 1 + 1))).1
        have hw1 : IntKind.i64.wrap ((m : Int) + 1) = (m : Int) + 1 := by rw [IntKind.wrap_i64]; omega
        have hw2 : IntKind.i64.wrap ((m : Int) + 1 + 1) = (m : Int) + 1 + 1 := by rw [IntKind.wrap_i64]; omega
        have HS : Hid ((((wr.setCell ⟨g, j * 3, none⟩ (.int .i64 (m : Int))).setCell ⟨g, j * 3 + 1, none⟩ (.int .i64 ((m : Int) + 1))).setCell ⟨g, j * 3 + 2, none⟩ (.int .i64 ((m : Int) + 1 + 1))).ownsRow base 58 3 (.slice (some ⟨g, 0, none⟩) n cap) n (flatEx (markdEx k (j + 1) l))) := by
          have e := flatEx_put (markdEx k j l) j (mkEx m) (by rw [HLN.out j hj]; exact hlt)
          show World.ownsRow _ _ _ _ _ _ _
          rw [← HM.out j hlt, ← HMM.out, ← e]
          have ee : ∀ z : Int, z = m → ((mkEx m).p = z) ∧ ((mkEx m).b = z + 1) ∧ ((mkEx m).n = z + 1 + 1) := fun z hz => by subst hz; refine ⟨?_, ?_, ?_⟩ <;> first | rfl | (simp only [mkEx]; omega)
          obtain ⟨e0, e1, e2⟩ := ee m rfl
          rw [e0, e1, e2]
          exact s3
        clear s0 s1 s2 s3 hown
        go_wp2
        go_roundw
        case rel => exact ⟨j + 1, m + 3, by omega, by go_num, by go_num, by show m + 3 = _; rw [HMM.out]; omega, HS.out, ((gbi_trans (gbi_trans (gbi_trans hgb (gbi_set _ _ _ _)) (gbi_set _ _ _ _)) (gbi_set _ _ _ _) ))⟩
        case measure => simp [intOf]; omega
      · obtain rfl : n = j := by omega
        rw [HE.out] at hown
        go_wp2
        go_ret
        refine ⟨by rw [HMM.out]; rfl, ?_, hgb⟩
        rw [← HN.out] at hown
        unfold ExRow
        rw [marksEx_len]
        exact hown

set_option maxRecDepth 100000 in
set_option maxHeartbeats 1000000 in
theorem heldExS_marks (v : Value) (n k : Nat) (w : World) (hn : n ≤ 4194304) (hk0 : 0 < k) (hk1 : k ≤ 100000000) (hv : ExsAt w v (marksEx k n)) :
    Calls Try.prog 25 #[v, .int .i64 k] w fun e w' => e = .returned (.int .i64 ((k + 3 * n : Nat) : Int)) ∧ Below w.heap.size w w' := by
  obtain ⟨a, cap, rfl, -, hva⟩ := hv
  rw [marksEx_len] at hva ⊢
  have HV : Hid (∀ t, t < n → ∃ b off, a = some ⟨b, off, none⟩ ∧ b < w.heap.size ∧ CellsEx w b (off + t * 3) (mkEx (k + 3 * t))) := fun t ht => by
    obtain ⟨b, off, h1, h2, h3⟩ := hva t ht
    rw [marksEx_get k n t ht] at h3
    exact ⟨b, off, h1, h2, h3⟩
  clear hva
  go_enter Try.func25, Try.ntmps25
  go_wp2
  go_loopw [1, 5] (fun q i wr => ∃ (j m : Nat), j ≤ n ∧ i = .int .i64 j ∧ q = .int .i64 m ∧ Hid (m = k + 3 * j) ∧ wr = w) (fun _ i _ => n - (intOf i).toNat)
  case atStart => exact ⟨0, k, Nat.zero_le _, rfl, rfl, rfl, rfl⟩
  case round =>
    obtain ⟨j, m, hj, rfl, rfl, HMM, rfl⟩ := hrel
    have hm0 : 0 < m := by have := HMM.out; omega
    have hm1 : m ≤ 200000000 := by have := HMM.out; omega
    by_cases hlt : j < n
    · obtain ⟨b, off, rfl, hb, hc⟩ := HV.out j hlt
      rw [← HMM.out] at hc
      have k0 := hc.c0
      have k1 := hc.c1
      have k2 := hc.c2
      simp only [mkEx] at k0 k1 k2
      have hw1 : IntKind.i64.wrap ((m : Int) + 1) = (m : Int) + 1 := by rw [IntKind.wrap_i64]; omega
      rw [show (m : Int) + 1 = (m : Int) + 1 by omega] at k1
      have hw2 : IntKind.i64.wrap ((m : Int) + 1 + 1) = (m : Int) + 1 + 1 := by rw [IntKind.wrap_i64]; omega
      rw [show (m : Int) + 2 = (m : Int) + 1 + 1 by omega] at k2
      clear hc
      go_wp2
      go_roundw
      case rel => exact ⟨j + 1, m + 3, by omega, by go_num, by go_num, by show m + 3 = _; rw [HMM.out]; omega, by first | rfl | trivial⟩
      case measure => simp [intOf]; omega
    · obtain rfl : n = j := by omega
      go_wp2
      go_ret
      exact ⟨by rw [HMM.out]; rfl, Below.refl _ _⟩

end Go.Proofs.Ytkbkanmmpdeokaa
