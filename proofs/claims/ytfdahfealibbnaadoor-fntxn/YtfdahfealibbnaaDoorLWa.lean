/- Rows of writes: what laws.toWrite, toWriteS, eqWrite, eqWriteS, szWrite, szWriteS do. -/
import Derived.Test.YtfdahfealibbnaaDoorRows
import Derived.Test.YtfdahfealibbnaaDoorWrR
import Derived.Test.YtfdahfealibbnaaDoorStS
import Derived.WalkKit
import Derived.WalkSpells
import Derived.WalkLawsBesides
import Derived.Deep.QuietTactic
import Derived.BigQuiet
import Derived.Deep.Onto
import Derived.Lib.QuietBelow
namespace Go.Proofs.YtfdahfealibbnaaDoor
open Go.RowKit Go.Sort

set_option maxRecDepth 100000 in
set_option maxHeartbeats 1000000 in
theorem toWr_any (h : Int) (s : ByteArray) (w : World) :
    Calls Tryd.prog 44 #[.agg #[.int .i64 h, .string s]] w fun x w' => x = .returned (.agg #[.int .i64 h, .string s]) ∧ Below w.heap.size w w' := by
  go_enter Tryd.func44, Tryd.ntmps44
  go_wp2
  refine bodyPost_ret (v := .agg #[.int .i64 h, .string s]) (by simp [results, Tryd.results44, go_sem]) rfl ⟨rfl, ?_⟩
  refine ((below_lit w _).alloc ?_ _).alloc ?_ _ <;> simp <;> omega

set_option maxRecDepth 100000 in
set_option maxHeartbeats 1000000 in
theorem eqWr_any (a b : Wr) (w : World) :
    Calls Tryd.prog 49 #[.agg #[.int .i64 a.block, .string a.text], .agg #[.int .i64 b.block, .string b.text]] w fun x w' => x = .returned (.bool (decide (a = b))) ∧ Below w.heap.size w w' := by
  obtain ⟨h, s⟩ := a
  obtain ⟨h', s'⟩ := b
  have hb := (below_lit w (.cells #[.int .i64 h, .string s] 43)).alloc (by simp) (.cells #[.int .i64 h', .string s'] 43)
  have HR : Hid (∀ r : Bool, (r = true ↔ h = h' ∧ s = s') → decide ((⟨h, s⟩ : Wr) = ⟨h', s'⟩) = r) := fun r hr => by
    rw [Bool.eq_iff_iff, hr, decide_eq_true_eq, Wr.mk.injEq]
  dsimp only
  generalize decide ((⟨h, s⟩ : Wr) = ⟨h', s'⟩) = r at HR ⊢
  by_cases e1 : h = h'
  · by_cases e3 : s = s'
    · have f1 : (h != h') = false := by simp [e1]
      have f3 : (s.toList == s'.toList) = true := by simp [e3]
      have hr := HR.out true (by simp [e1, e3])
      clear e1 e3
      go_enter Tryd.func49, Tryd.ntmps49
      go_wp2
      go_ret
      exact ⟨by rw [hr]; rfl, hb⟩
    · have f1 : (h != h') = false := by simp [e1]
      have f3 : (s.toList == s'.toList) = false := by rw [beq_eq_false_iff_ne]; exact fun e => e3 (list_ext (by simpa [ByteArray.toList_eq] using e))
      have hr := HR.out false (by simp [e3])
      clear e1 e3
      go_enter Tryd.func49, Tryd.ntmps49
      go_wp2
      go_ret
      exact ⟨by rw [hr]; rfl, hb⟩
  · have f1 : (h != h') = true := by simp [e1]
    have hr := HR.out false (by simp [e1])
    clear e1
    go_enter Tryd.func49, Tryd.ntmps49
    go_wp2
    go_ret
    exact ⟨by rw [hr]; rfl, hb⟩

theorem wrs_ext (l m : List Wr) (hl : l.length = m.length) (h : ∀ t, t < l.length → l[t]! = m[t]!) : l = m := by
  apply List.ext_getElem hl
  intro t h1 h2
  have := h t h1
  rwa [getElem!_pos l t h1, getElem!_pos m t h2] at this

theorem eqW_any (a b : Wr) (w : World) (d : Nat) (os : Array Obj) :
    Calls Tryd.prog 49 #[.agg #[.int .i64 a.block, .string a.text], .agg #[.int .i64 b.block, .string b.text]] (grow (redrawn w d) os) fun x w'' => x = .returned (.bool (decide (a = b))) ∧ ∃ p : Regrown, w'' = grow (redrawn w p.d) p.os :=
  Calls.regrown_of (eqWr_any a b _)

set_option maxRecDepth 100000 in
set_option maxHeartbeats 1000000 in
theorem eqWrS_any (v u : Value) (l m : List Wr) (w : World) (hl : l.length ≤ 9223372036854775807) (hv : WrsAt w v l) (hu : WrsAt w u m) :
    Calls Tryd.prog 31 #[v, u] w fun e w' => e = .returned (.bool (decide (l = m))) ∧ Below w.heap.size w w' := by
  obtain ⟨a, ca, rfl, -, hva⟩ := hv
  obtain ⟨b, cb, rfl, -, hub⟩ := hu
  by_cases hlen : l.length = m.length
  · have hlen' : (l.length : Int) = (m.length : Int) := by omega
    obtain ⟨n, HN⟩ : ∃ n, Hid (n = m.length) := ⟨_, rfl⟩
    rw [hlen] at hva hl ⊢
    rw [← HN.out] at hva hub hl ⊢
    go_enter Tryd.func31, Tryd.ntmps31
    go_wp2
    go_loopw [5] (fun i wr => ∃ k : Nat, k ≤ n ∧ i = .int .i64 k ∧ Hid (∀ t, t < k → l[t]! = m[t]!) ∧ Below w.heap.size w wr) (fun i _ => n - (intOf i).toNat)
    case atStart => exact ⟨0, Nat.zero_le _, rfl, fun t ht => by omega, Below.refl _ _⟩
    case round =>
      obtain ⟨k, hk, rfl, HEQ, hbel⟩ := hrel
      by_cases hlt : k < n
      · obtain ⟨b1, o1, rfl, hb1, hc1⟩ := hva k hlt
        obtain ⟨b2, o2, rfl, hb2, hc2⟩ := hub k hlt
        have hc1 := hc1.below hb1 hbel
        have hc2 := hc2.below hb2 hbel
        have HX : Hid (l[k]! = m[k]! → ∀ t, t < k + 1 → l[t]! = m[t]!) := fun h t ht => by
          by_cases e : t = k
          · rw [e]; exact h
          · exact HEQ.out t (by omega)
        have HY : Hid (¬ l[k]! = m[k]! → ¬ l = m) := fun h e => h (by rw [e])
        generalize l[k]! = x at hc1 HX HY
        generalize m[k]! = y at hc2 HX HY
        have k0 := cell_regrown hc1.c0
        have k1 := cell_regrown hc1.c1
        have j0 := cell_regrown hc2.c0
        have j1 := cell_regrown hc2.c1
        have hE := fun d os => eqW_any x y wr d os
        have hkn : (k : Int) < (n : Int) := by omega
        have hk0 : (0 : Int) ≤ (k : Int) := by omega
        clear hva hub hc1 hc2
        by_cases hxy : x = y
        · have hd : decide (x = y) = true := by simp [hxy]
          have HX' : Hid _ := HX.out hxy
          rw [hd] at hE
          clear HX HY hd hxy
          go_wp2
          refine wp_region_quiet_below (by kernel_rfl) (by kernel_rfl) ?_
          repeat (go_big_quiet_step (exact hE _ _))
          refine wpQuiet_nil ?_
          rintro w' ⟨⟨dq, osq⟩, rfl⟩
          have hbq := below_regrown wr dq osq
          generalize grow (redrawn wr dq) osq = w4 at hbq ⊢
          go_wp2
          go_roundw
          case rel => exact ⟨k + 1, by omega, by go_num, HX'.out, hbel.trans (hbq.mono hbel.size)⟩
          case measure => simp [intOf]; omega
        · have hd : decide (x = y) = false := by simp [hxy]
          have HY' : Hid _ := HY.out hxy
          rw [hd] at hE
          clear HX HY hd hxy
          go_wp2
          refine wp_region_quiet_below (by kernel_rfl) (by kernel_rfl) ?_
          repeat (go_big_quiet_step (exact hE _ _))
          refine wpQuiet_nil ?_
          rintro w' ⟨⟨dq, osq⟩, rfl⟩
          have hbq := below_regrown wr dq osq
          generalize grow (redrawn wr dq) osq = w4 at hbq ⊢
          go_wp2
          go_ret
          exact ⟨by rw [decide_eq_false HY'.out]; rfl, hbel.trans (hbq.mono hbel.size)⟩
      · obtain rfl : k = n := by omega
        go_wp2
        go_ret
        refine ⟨?_, hbel⟩
        have : l = m := wrs_ext l m hlen (fun t ht => HEQ.out t (by rw [HN.out]; omega))
        simp [this]
  · have hne : ((l.length : Int) != (m.length : Int)) = true := by simp; omega
    have hneq : ¬ l = m := fun e => hlen (by rw [e])
    go_enter Tryd.func31, Tryd.ntmps31
    go_wp2
    go_ret
    exact ⟨by simp [hneq], Below.refl _ _⟩

theorem flatW_set : ∀ (l : List Wr) (t : Nat) (e : Wr), t < l.length → ((flatW l).set (t * 2) (.int .i64 e.block)).set (t * 2 + 1) (.string e.text) = flatW (l.set t e)
  | [], t, e, h => by simp at h
  | x :: l, 0, e, _ => by simp [flatW_cons, encW]
  | x :: l, t + 1, e, h => by
    have ih := flatW_set l t e (by simpa using h)
    rw [List.set_cons_succ, flatW_cons, flatW_cons, ← ih]
    simp only [encW, List.cons_append, List.nil_append]
    rw [show (t + 1) * 2 = t * 2 + 1 + 1 by omega]
    simp only [List.set_cons_succ]

/-- the two cells of one write of a row of the call's own written anew -/
theorem rowW_put {w : World} {base g n cap : Nat} {l : List Wr} (h : w.ownsRow base 43 2 (.slice (some ⟨g, 0, none⟩) n cap) n (flatW l)) (t : Nat) (ht : t < l.length) (e : Wr) :
    ((w.setCell ⟨g, t * 2, none⟩ (.int .i64 e.block)).setCell ⟨g, t * 2 + 1, none⟩ (.string e.text)).ownsRow base 43 2 (.slice (some ⟨g, 0, none⟩) n cap) n (flatW (l.set t e)) := by
  have h1 := (h.stored (t * 2) (.int .i64 e.block)).1
  have h2 := (h1.stored (t * 2 + 1) (.string e.text)).1
  rw [flatW_set l t e ht] at h2
  exact h2
/-- each of its cells is there and may be written -/
theorem rowW_cells {w : World} {base g n cap : Nat} {xs : List Value} (h : w.ownsRow base 43 2 (.slice (some ⟨g, 0, none⟩) n cap) n xs) (t : Nat) (ht : t < n * 2) : (∃ u, w.cell? ⟨g, t, none⟩ = some u) ∧ w.frozen? ⟨g, t, none⟩ = false :=
  ⟨⟨_, (h.cellAt t ht).trans (List.getElem?_eq_getElem (by have := h.1; omega))⟩, h.frozenAt t⟩

/-- the first j of l, then empty ones -/
def fillW (j : Nat) (l : List Wr) : List Wr := l.take j ++ List.replicate (l.length - j) default
theorem fillW_len (j : Nat) (l : List Wr) : (fillW j l).length = l.length := by unfold fillW; simp; omega
theorem fillW_step (j : Nat) (l : List Wr) (h : j < l.length) : (fillW j l).set j l[j]! = fillW (j + 1) l := by
  have e : min j l.length = j := by omega
  unfold fillW
  rw [List.set_append_right _ _ (by rw [List.length_take, e]; exact Nat.le_refl _), List.take_succ_eq_append_getElem h, getElem!_pos l j h, List.length_take, e, Nat.sub_self]
  rw [show l.length - j = (l.length - (j + 1)) + 1 by omega, List.replicate_succ, List.set_cons_zero, List.append_assoc]
  rfl
theorem flatW_zero (n : Nat) : (madeCells #[.int .i64 0, .string ⟨#[]⟩] (n * 2)).toList = flatW (List.replicate n default) := by
  apply List.ext_getElem?
  intro j
  by_cases hj : j < n * 2
  · have h1 := flatW_at (List.replicate n default) (j / 2) (by simp; omega) (j % 2) (by omega)
    have h2 : (List.replicate n (default : Wr))[j / 2]! = default := by
      rw [getElem!_pos _ _ (by simp; omega)]; simp
    rw [h2, show j / 2 * 2 + j % 2 = j by omega] at h1
    rw [h1]
    simp only [madeCells, Array.toList_map, List.getElem?_map, Array.toList_range, List.getElem?_range hj, Option.map_some]
    have : j % 2 < 2 := by omega
    show some (#[Value.int .i64 0, .string ⟨#[]⟩][j % 2]!) = _
    generalize j % 2 = s at *
    rcases s with _ | _ | s
    · rfl
    · rfl
    · omega
  · rw [List.getElem?_eq_none (by rw [Array.length_toList, size_madeCells]; omega), List.getElem?_eq_none (by rw [flatW_len]; simp; omega)]

set_option maxRecDepth 100000 in
set_option maxHeartbeats 1000000 in
theorem toWrS_any (v : Value) (l : List Wr) (w : World) (hl : l.length ≤ 1048576) (hv : WrsAt w v l) :
    Calls Tryd.prog 25 #[v] w fun e w' => ∃ u, e = .returned u ∧ WrRow w' w.heap.size u l ∧ Below w.heap.size w w' := by
  obtain ⟨a, ca, rfl, -, hva⟩ := hv
  obtain ⟨n, HN⟩ : ∃ n, Hid (n = l.length) := ⟨_, rfl⟩
  have HM : Hid (∀ j, j < n → (fillW j l).set j l[j]! = fillW (j + 1) l) := fun j hj => fillW_step j l (by rw [← HN.out]; exact hj)
  have HE : Hid (fillW n l = l) := by show _ = _; rw [HN.out]; simp [fillW]
  have HLE : Hid (∀ j, (fillW j l).length = n) := fun j => by rw [HN.out]; exact fillW_len j l
  have HR : Hid (∀ w' u, WrRow w' w.heap.size u l = w'.ownsRow w.heap.size 43 2 u n (flatW l)) := fun _ _ => by rw [HN.out]; rfl
  rw [← HN.out] at hva hl ⊢
  obtain ⟨i0, hi, hz0, hz1, hz2⟩ := info_parts Tryd.infoW
  go_enter Tryd.func25, Tryd.ntmps25
  go_wp2_with (at_make; refine wpList_make_full _ rfl _ _ 27 rfl w.heap.size 43 i0 _ 2 Tryd.underlying27 hi hz0 hz1 .i64 .i64 _ _ n rfl rfl rfl rfl (by rw [hz2]; omega) (by unfold maxLen; omega) (Nat.le_refl _) ?_; intro w1 hown1 hgrow1)
  have hown2 : w1.ownsRow w.heap.size 43 2 (.slice (some ⟨w.heap.size, 0, none⟩) n n) n (flatW (fillW 0 l)) := by
    have e : fillW 0 l = List.replicate n default := by rw [HN.out]; simp [fillW]
    rw [e, ← flatW_zero]; simpa [Value.cells] using hown1
  have hbel2 : Below w.heap.size w w1 := (Below.refl _ _).grown hgrow1 (Nat.le_refl _) (fun _ h => by cases h)
  clear hown1 hgrow1
  go_wp2
  go_loopw [4] (fun i wr => ∃ k : Nat, k ≤ n ∧ i = .int .i64 k ∧ wr.ownsRow w.heap.size 43 2 (.slice (some ⟨w.heap.size, 0, none⟩) n n) n (flatW (fillW k l)) ∧ Below w.heap.size w wr) (fun i _ => n - (intOf i).toNat)
  case atStart => exact ⟨0, Nat.zero_le _, rfl, hown2, hbel2⟩
  case round =>
    obtain ⟨k, hk, rfl, hown, hbel⟩ := hrel
    by_cases hlt : k < n
    · obtain ⟨b1, o1, rfl, hb1, hc1⟩ := hva k hlt
      have hc1 := hc1.below hb1 hbel
      have HP : Hid (∀ w2, Below wr.heap.size wr w2 → (((w2.setCell ⟨w.heap.size, k * 2, none⟩ (.int .i64 l[k]!.block)).setCell ⟨w.heap.size, k * 2 + 1, none⟩ (.string l[k]!.text)).ownsRow w.heap.size 43 2 (.slice (some ⟨w.heap.size, 0, none⟩) n n) n (flatW (fillW (k + 1) l))) ∧ (∀ j, j < n * 2 → (∃ u, w2.cell? ⟨w.heap.size, j, none⟩ = some u) ∧ w2.frozen? ⟨w.heap.size, j, none⟩ = false)) := fun w2 hb2 => by
        have h2 := own_below hown hb2
        refine ⟨?_, fun j hj => rowW_cells h2 j hj⟩
        rw [← HM.out k hlt]
        exact rowW_put h2 k (by rw [HLE.out]; exact hlt) _
      have c0 := hc1.c0
      have c1 := hc1.c1
      have HT := fun w2 => toWr_any l[k]!.block l[k]!.text w2
      generalize l[k]!.block = x0 at c0 HP HT
      generalize l[k]!.text = x1 at c1 HP HT
      clear hc1 hva hown
      go_wp2_with (go_at_call 44; refine (HT _).mono ?_; rintro e w2 ⟨rfl, b2⟩; obtain ⟨h2, hcc⟩ := HP.out _ b2; obtain ⟨⟨u0, d0⟩, f0⟩ := hcc (k * 2) (by omega); obtain ⟨⟨u1, d1⟩, f1⟩ := hcc (k * 2 + 1) (by omega); have HS : Hid _ := h2; clear h2 hcc)
      go_roundw
      case rel => exact ⟨k + 1, by omega, by go_num, HS.out, ((hbel.trans (b2.mono hbel.size)).setCell (Nat.le_refl _) _).setCell (Nat.le_refl _) _⟩
      case measure => simp [intOf]; omega
    · obtain rfl : k = n := by omega
      rw [HE.out] at hown
      go_wp2
      go_ret
      exact ⟨_, rfl, by rw [HR.out]; exact hown, hbel⟩

set_option maxRecDepth 100000 in
set_option maxHeartbeats 1000000 in
theorem szWr_any (e : Wr) (x : Int) (w : World) (h0 : 0 ≤ x) (h1 : x ≤ 1048576) (hs : e.text.size ≤ 9223372036854775807) :
    Calls Tryd.prog 42 #[.agg #[.int .i64 e.block, .string e.text], .int .i64 x] w fun r w' => r = .returned (.int .i64 (if x < e.text.size then -1 else x - e.text.size)) ∧ Below w.heap.size w w' := by
  obtain ⟨h, s⟩ := e
  dsimp only at hs ⊢
  have hb := below_lit w (.cells #[.int .i64 h, .string s] 69)
  obtain ⟨z, HZ⟩ : ∃ z : Int, Hid (z = (s.size : Int)) := ⟨_, rfl⟩
  have hz0 : 0 ≤ z := by have := HZ.out; omega
  have hz1 : z ≤ 9223372036854775807 := by have := HZ.out; omega
  have hlen : (s.size : Int) = z := HZ.out.symm
  rw [hlen]
  have hw : IntKind.i64.wrap (x - z) = x - z := by rw [IntKind.wrap_i64]; omega
  by_cases hc : x < z
  · rw [if_pos hc]
    have hc' : x - z < 0 := by omega
    go_enter Tryd.func42, Tryd.ntmps42
    go_wp2
    go_ret
    exact ⟨rfl, hb⟩
  · rw [if_neg hc]
    have hc' : ¬ x - z < 0 := by omega
    go_enter Tryd.func42, Tryd.ntmps42
    go_wp2
    go_ret
    exact ⟨rfl, hb⟩

set_option maxRecDepth 100000 in
set_option maxHeartbeats 1000000 in
theorem szWrS_any (v : Value) (l : List Wr) (y : Int) (w : World) (hy0 : 0 ≤ y) (hy1 : y ≤ 1048576) (hv : WrsAt w v l) (hl : l.length ≤ 9223372036854775807) (hs : ∀ t, t < l.length → l[t]!.text.size ≤ 9223372036854775807) :
    Calls Tryd.prog 19 #[v, .int .i64 y] w fun e w' => ∃ r : Int, e = .returned (.int .i64 r) ∧ (-1 ≤ r ∧ r ≤ 1048576) ∧ Hid (0 ≤ r → l.length ≤ 1048576 ∧ ∀ t, t < l.length → l[t]!.text.size ≤ 1048576) ∧ Below w.heap.size w w' := by
  obtain ⟨a, ca, rfl, -, hva⟩ := hv
  obtain ⟨n, HL⟩ : ∃ n, Hid (n = l.length) := ⟨_, rfl⟩
  rw [← HL.out] at hva hl hs ⊢
  have hw : IntKind.i64.wrap (y - (n : Int)) = y - (n : Int) := by rw [IntKind.wrap_i64]; omega
  by_cases hbig : y < (n : Int)
  · have hc : y - (n : Int) < 0 := by omega
    go_enter Tryd.func19, Tryd.ntmps19
    go_wp2
    go_ret
    exact ⟨-1, rfl, ⟨by omega, by omega⟩, fun h => (by omega), Below.refl _ _⟩
  · have hc : ¬ (y - (n : Int) < 0) := by omega
    go_enter Tryd.func19, Tryd.ntmps19
    go_wp2
    go_loopw [1, 5] (fun q i wr => ∃ k : Nat, k ≤ n ∧ i = .int .i64 k ∧ ∃ x : Int, q = .int .i64 x ∧ 0 ≤ x ∧ x ≤ 1048576 ∧ Hid (∀ t, t < k → l[t]!.text.size ≤ 1048576) ∧ Below w.heap.size w wr) (fun _ i _ => n - (intOf i).toNat)
    case atStart => exact ⟨0, Nat.zero_le _, rfl, _, rfl, by omega, by omega, fun t ht => by omega, Below.refl _ _⟩
    case round =>
      obtain ⟨k, hk, rfl, x, rfl, hx0, hx1, HS, hbel⟩ := hrel
      by_cases hlt : k < n
      · obtain ⟨b1, o1, rfl, hb1, hc1⟩ := hva k hlt
        have hc1 := hc1.below hb1 hbel
        have HZ := fun w' => szWr_any l[k]! x w' hx0 hx1 (hs k hlt)
        have HK : Hid (¬ x < (l[k]!.text.size : Int) → ∀ t, t < k + 1 → l[t]!.text.size ≤ 1048576) := fun h t ht => by
          by_cases e : t = k
          · rw [e]; omega
          · exact HS.out t (by omega)
        generalize l[k]! = y at hc1 HZ HK
        obtain ⟨y0, y2⟩ := y
        have k0 := hc1.c0
        have k1 := hc1.c1
        dsimp only at k0 k1 HZ HK
        obtain ⟨z, HZZ⟩ : ∃ z : Int, Hid (z = (y2.size : Int)) := ⟨_, rfl⟩
        rw [← HZZ.out] at HZ HK
        have hz : 0 ≤ z := by have := HZZ.out; omega
        clear hc1 hva
        by_cases hxz : x < z
        · rw [if_pos hxz] at HZ
          clear HK
          go_wp2_with (go_at_call 42; refine (HZ _).mono ?_; rintro e w2 ⟨rfl, b2⟩)
          go_ret
          exact ⟨-1, rfl, ⟨by omega, by omega⟩, fun h => (by omega), hbel.trans (b2.mono hbel.size)⟩
        · rw [if_neg hxz] at HZ
          have HK' : Hid _ := HK.out hxz
          have hc' : ¬ (x - z < 0) := by omega
          clear HK
          go_wp2_with (go_at_call 42; refine (HZ _).mono ?_; rintro e w2 ⟨rfl, b2⟩)
          go_roundw
          case rel => exact ⟨k + 1, by omega, by go_num, x - z, rfl, by omega, by omega, HK'.out, hbel.trans (b2.mono hbel.size)⟩
          case measure => simp [intOf]; omega
      · obtain rfl : n = k := by omega
        go_wp2
        go_ret
        exact ⟨x, rfl, ⟨by omega, by omega⟩, fun _ => ⟨by omega, HS.out⟩, hbel⟩

end Go.Proofs.YtfdahfealibbnaaDoor
