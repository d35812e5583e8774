/- Rows of writes: what laws.toWrite, toWriteS, eqWrite, eqWriteS, szWrite, szWriteS do. -/
import Derived.Test.YtfdahfealibbnaaRows
import Derived.Test.YtfdahfealibbnaaWrR
import Derived.Test.YtfdahfealibbnaaStS
import Derived.WalkKit
import Derived.WalkSpells
import Derived.WalkLawsBesides
import Derived.Deep.QuietTactic
import Derived.BigQuiet
import Derived.Deep.Onto
import Derived.Lib.QuietBelow
namespace Go.Proofs.Ytfdahfealibbnaa
open Go.RowKit Go.Sort

set_option maxRecDepth 100000 in
set_option maxHeartbeats 1000000 in
theorem eqWr_any (a b : Wr) (w : World) :
    Calls Try.prog 14 #[.agg #[.int .i64 a.block, .string a.text], .agg #[.int .i64 b.block, .string b.text]] w fun x w' => x = .returned (.bool (decide (a = b))) ∧ Below w.heap.size w w' := by
  obtain ⟨h, s⟩ := a
  obtain ⟨h', s'⟩ := b
  have hb := (below_lit w (.cells #[.int .i64 h, .string s] 31)).alloc (by simp) (.cells #[.int .i64 h', .string s'] 31)
  have HR : Hid (∀ r : Bool, (r = true ↔ h = h' ∧ s = s') → decide ((⟨h, s⟩ : Wr) = ⟨h', s'⟩) = r) := fun r hr => by
    rw [Bool.eq_iff_iff, hr, decide_eq_true_eq, Wr.mk.injEq]
  dsimp only
  generalize decide ((⟨h, s⟩ : Wr) = ⟨h', s'⟩) = r at HR ⊢
  by_cases e1 : h = h'
  · by_cases e3 : s = s'
    · have f1 : (h != h') = false := by simp [e1]
      have f3 : (s.toList == s'.toList) = true := by simp [e3]
      have hr := HR.out true (by simp [e1, e3])
      clear e1 e3
      go_enter Try.func14, Try.ntmps14
      go_wp2
      go_ret
      exact ⟨by rw [hr]; rfl, hb⟩
    · have f1 : (h != h') = false := by simp [e1]
      have f3 : (s.toList == s'.toList) = false := by rw [beq_eq_false_iff_ne]; exact fun e => e3 (list_ext (by simpa [ByteArray.toList_eq] using e))
      have hr := HR.out false (by simp [e3])
      clear e1 e3
      go_enter Try.func14, Try.ntmps14
      go_wp2
      go_ret
      exact ⟨by rw [hr]; rfl, hb⟩
  · have f1 : (h != h') = true := by simp [e1]
    have hr := HR.out false (by simp [e1])
    clear e1
    go_enter Try.func14, Try.ntmps14
    go_wp2
    go_ret
    exact ⟨by rw [hr]; rfl, hb⟩

theorem wrs_ext (l m : List Wr) (hl : l.length = m.length) (h : ∀ t, t < l.length → l[t]! = m[t]!) : l = m := by
  apply List.ext_getElem hl
  intro t h1 h2
  have := h t h1
  rwa [getElem!_pos l t h1, getElem!_pos m t h2] at this

theorem eqW_any (a b : Wr) (w : World) (d : Nat) (os : Array Obj) :
    Calls Try.prog 14 #[.agg #[.int .i64 a.block, .string a.text], .agg #[.int .i64 b.block, .string b.text]] (grow (redrawn w d) os) fun x w'' => x = .returned (.bool (decide (a = b))) ∧ ∃ p : Regrown, w'' = grow (redrawn w p.d) p.os :=
  Calls.regrown_of (eqWr_any a b _)

set_option maxRecDepth 100000 in
set_option maxHeartbeats 1000000 in
theorem eqWrS_any (v u : Value) (l m : List Wr) (w : World) (hl : l.length ≤ 9223372036854775807) (hv : WrsAt w v l) (hu : WrsAt w u m) :
    Calls Try.prog 8 #[v, u] w fun e w' => e = .returned (.bool (decide (l = m))) ∧ Below w.heap.size w w' := by
  obtain ⟨a, ca, rfl, -, hva⟩ := hv
  obtain ⟨b, cb, rfl, -, hub⟩ := hu
  by_cases hlen : l.length = m.length
  · have hlen' : (l.length : Int) = (m.length : Int) := by omega
    obtain ⟨n, HN⟩ : ∃ n, Hid (n = m.length) := ⟨_, rfl⟩
    rw [hlen] at hva hl ⊢
    rw [← HN.out] at hva hub hl ⊢
    go_enter Try.func8, Try.ntmps8
    go_wp2
    go_loopw [5] (fun i wr => ∃ k : Nat, k ≤ n ∧ i = .int .i64 k ∧ Hid (∀ t, t < k → l[t]! = m[t]!) ∧ Below w.heap.size w wr) (fun i _ => n - (intOf i).toNat)
    case atStart => exact ⟨0, Nat.zero_le _, rfl, fun t ht => by omega, Below.refl _ _⟩
    case round =>
      obtain ⟨k, hk, rfl, HEQ, hbel⟩ := hrel
      by_cases hlt : k < n
      · obtain ⟨b1, o1, rfl, hb1, hc1⟩ := hva k hlt
        obtain ⟨b2, o2, rfl, hb2, hc2⟩ := hub k hlt
        have hc1 := hc1.below hb1 hbel
        have hc2 := hc2.below hb2 hbel
        have HX : Hid (l[k]! = m[k]! → ∀ t, t < k + 1 → l[t]! = m[t]!) := fun h t ht => by
          by_cases e : t = k
          · rw [e]; exact h
          · exact HEQ.out t (by omega)
        have HY : Hid (¬ l[k]! = m[k]! → ¬ l = m) := fun h e => h (by rw [e])
        generalize l[k]! = x at hc1 HX HY
        generalize m[k]! = y at hc2 HX HY
        have k0 := cell_regrown hc1.c0
        have k1 := cell_regrown hc1.c1
        have j0 := cell_regrown hc2.c0
        have j1 := cell_regrown hc2.c1
        have hE := fun d os => eqW_any x y wr d os
        have hkn : (k : Int) < (n : Int) := by omega
        have hk0 : (0 : Int) ≤ (k : Int) := by omega
        clear hva hub hc1 hc2
        by_cases hxy : x = y
        · have hd : decide (x = y) = true := by simp [hxy]
          have HX' : Hid _ := HX.out hxy
          rw [hd] at hE
          clear HX HY hd hxy
          go_wp2
          refine wp_region_quiet_below (by kernel_rfl) (by kernel_rfl) ?_
          repeat (go_big_quiet_step (exact hE _ _))
          refine wpQuiet_nil ?_
          rintro w' ⟨⟨dq, osq⟩, rfl⟩
          have hbq := below_regrown wr dq osq
          generalize grow (redrawn wr dq) osq = w4 at hbq ⊢
          go_wp2
          go_roundw
          case rel => exact ⟨k + 1, by omega, by go_num, HX'.out, hbel.trans (hbq.mono hbel.size)⟩
          case measure => simp [intOf]; omega
        · have hd : decide (x = y) = false := by simp [hxy]
          have HY' : Hid _ := HY.out hxy
          rw [hd] at hE
          clear HX HY hd hxy
          go_wp2
          refine wp_region_quiet_below (by kernel_rfl) (by kernel_rfl) ?_
          repeat (go_big_quiet_step (exact hE _ _))
          refine wpQuiet_nil ?_
          rintro w' ⟨⟨dq, osq⟩, rfl⟩
          have hbq := below_regrown wr dq osq
          generalize grow (redrawn wr dq) osq = w4 at hbq ⊢
          go_wp2
          go_ret
          exact ⟨by rw [decide_eq_false HY'.out]; rfl, hbel.trans (hbq.mono hbel.size)⟩
      · obtain rfl : k = n := by omega
        go_wp2
        go_ret
        refine ⟨?_, hbel⟩
        have : l = m := wrs_ext l m hlen (fun t ht => HEQ.out t (by rw [HN.out]; omega))
        simp [this]
  · have hne : ((l.length : Int) != (m.length : Int)) = true := by simp; omega
    have hneq : ¬ l = m := fun e => hlen (by rw [e])
    go_enter Try.func8, Try.ntmps8
    go_wp2
    go_ret
    exact ⟨by simp [hneq], Below.refl _ _⟩

theorem flatW_set : ∀ (l : List Wr) (t : Nat) (e : Wr), t < l.length → ((flatW l).set (t * 2) (.int .i64 e.block)).set (t * 2 + 1) (.string e.text) = flatW (l.set t e)
  | [], t, e, h => by simp at h
  | x :: l, 0, e, _ => by simp [flatW_cons, encW]
  | x :: l, t + 1, e, h => by
    have ih := flatW_set l t e (by simpa using h)
    rw [List.set_cons_succ, flatW_cons, flatW_cons, ← ih]
    simp only [encW, List.cons_append, List.nil_append]
    rw [show (t + 1) * 2 = t * 2 + 1 + 1 by omega]
    simp only [List.set_cons_succ]

/-- the two cells of one write of a row of the call's own written anew -/
theorem rowW_put {w : World} {base g n cap : Nat} {l : List Wr} (h : w.ownsRow base 31 2 (.slice (some ⟨g, 0, none⟩) n cap) n (flatW l)) (t : Nat) (ht : t < l.length) (e : Wr) :
    ((w.setCell ⟨g, t * 2, none⟩ (.int .i64 e.block)).setCell ⟨g, t * 2 + 1, none⟩ (.string e.text)).ownsRow base 31 2 (.slice (some ⟨g, 0, none⟩) n cap) n (flatW (l.set t e)) := by
  have h1 := (h.stored (t * 2) (.int .i64 e.block)).1
  have h2 := (h1.stored (t * 2 + 1) (.string e.text)).1
  rw [flatW_set l t e ht] at h2
  exact h2
/-- each of its cells is there and may be written -/
theorem rowW_cells {w : World} {base g n cap : Nat} {xs : List Value} (h : w.ownsRow base 31 2 (.slice (some ⟨g, 0, none⟩) n cap) n xs) (t : Nat) (ht : t < n * 2) : (∃ u, w.cell? ⟨g, t, none⟩ = some u) ∧ w.frozen? ⟨g, t, none⟩ = false :=
  ⟨⟨_, (h.cellAt t ht).trans (List.getElem?_eq_getElem (by have := h.1; omega))⟩, h.frozenAt t⟩

/-- the first j of l, then empty ones -/
def fillW (j : Nat) (l : List Wr) : List Wr := l.take j ++ List.replicate (l.length - j) default
theorem fillW_len (j : Nat) (l : List Wr) : (fillW j l).length = l.length := by unfold fillW; simp; omega
theorem fillW_step (j : Nat) (l : List Wr) (h : j < l.length) : (fillW j l).set j l[j]! = fillW (j + 1) l := by
  have e : min j l.length = j := by omega
  unfold fillW
  rw [List.set_append_right _ _ (by rw [List.length_take, e]; exact Nat.le_refl _), List.take_succ_eq_append_getElem h, getElem!_pos l j h, List.length_take, e, Nat.sub_self]
  rw [show l.length - j = (l.length - (j + 1)) + 1 by omega, List.replicate_succ, List.set_cons_zero, List.append_assoc]
  rfl
theorem flatW_zero (n : Nat) : (madeCells #[.int .i64 0, .string ⟨#[]⟩] (n * 2)).toList = flatW (List.replicate n default) := by
  apply List.ext_getElem?
  intro j
  by_cases hj : j < n * 2
  · have h1 := flatW_at (List.replicate n default) (j / 2) (by simp; omega) (j % 2) (by omega)
    have h2 : (List.replicate n (default : Wr))[j / 2]! = default := by
      rw [getElem!_pos _ _ (by simp; omega)]; simp
    rw [h2, show j / 2 * 2 + j % 2 = j by omega] at h1
    rw [h1]
    simp only [madeCells, Array.toList_map, List.getElem?_map, Array.toList_range, List.getElem?_range hj, Option.map_some]
    have : j % 2 < 2 := by omega
    show some (#[Value.int .i64 0, .string ⟨#[]⟩][j % 2]!) = _
    generalize j % 2 = s at *
    rcases s with _ | _ | s
    · rfl
    · rfl
    · omega
  · rw [List.getElem?_eq_none (by rw [Array.length_toList, size_madeCells]; omega), List.getElem?_eq_none (by rw [flatW_len]; simp; omega)]

end Go.Proofs.Ytfdahfealibbnaa
