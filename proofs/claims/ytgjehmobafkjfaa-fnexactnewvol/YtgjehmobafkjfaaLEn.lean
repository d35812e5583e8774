/- Rows of entries: what laws.toEnt, toEntS, eqEnt, eqEntS, szEnt, szEntS do. -/
import Derived.Test.YtgjehmobafkjfaaRows
import Derived.Test.YtgjehmobafkjfaaEnR
import Derived.WalkKit
import Derived.WalkSpells
import Derived.WalkLawsBesides
import Derived.Deep.QuietTactic
import Derived.BigQuiet
import Derived.Deep.Onto
import Derived.Lib.QuietBelow
namespace Go.Proofs.Ytgjehmobafkjfaa
open Go.RowKit Go.Sort

set_option maxRecDepth 100000 in
set_option maxHeartbeats 1000000 in
theorem eqEnt_any (a b : En) (w : World) :
    Calls Try.prog 25 #[.agg #[.int .i64 a.hash, .int .i64 a.index, .string a.name, .int .i64 a.id], .agg #[.int .i64 b.hash, .int .i64 b.index, .string b.name, .int .i64 b.id]] w fun x w' => x = .returned (.bool (decide (a = b))) ∧ Below w.heap.size w w' := by
  obtain ⟨h, i, s, d⟩ := a
  obtain ⟨h', i', s', d'⟩ := b
  have hb := (below_lit w (.cells #[.int .i64 h, .int .i64 i, .string s, .int .i64 d] 49)).alloc (by simp) (.cells #[.int .i64 h', .int .i64 i', .string s', .int .i64 d'] 49)
  have HR : Hid (∀ r : Bool, (r = true ↔ h = h' ∧ i = i' ∧ s = s' ∧ d = d') → decide ((⟨h, i, s, d⟩ : En) = ⟨h', i', s', d'⟩) = r) := fun r hr => by
    rw [Bool.eq_iff_iff, hr, decide_eq_true_eq, En.mk.injEq]
  dsimp only
  generalize decide ((⟨h, i, s, d⟩ : En) = ⟨h', i', s', d'⟩) = r at HR ⊢
  by_cases e1 : h = h'
  · by_cases e2 : i = i'
    · by_cases e3 : s = s'
      · by_cases e4 : d = d'
        · have f1 : (h != h') = false := by simp [e1]
          have f2 : (i != i') = false := by simp [e2]
          have f3 : (s.toList == s'.toList) = true := by simp [e3]
          have f4 : (d != d') = false := by simp [e4]
          have hr := HR.out true (by simp [e1, e2, e3, e4])
          clear e1 e2 e3 e4
          go_enter Try.func25, Try.ntmps25
          go_wp2
          go_ret
          exact ⟨by rw [hr]; rfl, hb⟩
        · have f1 : (h != h') = false := by simp [e1]
          have f2 : (i != i') = false := by simp [e2]
          have f3 : (s.toList == s'.toList) = true := by simp [e3]
          have f4 : (d != d') = true := by simp [e4]
          have hr := HR.out false (by simp [e4])
          clear e1 e2 e3 e4
          go_enter Try.func25, Try.ntmps25
          go_wp2
          go_ret
          exact ⟨by rw [hr]; rfl, hb⟩
      · have f1 : (h != h') = false := by simp [e1]
        have f2 : (i != i') = false := by simp [e2]
        have f3 : (s.toList == s'.toList) = false := by rw [beq_eq_false_iff_ne]; exact fun e => e3 (list_ext (by simpa [ByteArray.toList_eq] using e))
        have hr := HR.out false (by simp [e3])
        clear e1 e2 e3
        go_enter Try.func25, Try.ntmps25
        go_wp2
        go_ret
        exact ⟨by rw [hr]; rfl, hb⟩
    · have f1 : (h != h') = false := by simp [e1]
      have f2 : (i != i') = true := by simp [e2]
      have hr := HR.out false (by simp [e2])
      clear e1 e2
      go_enter Try.func25, Try.ntmps25
      go_wp2
      go_ret
      exact ⟨by rw [hr]; rfl, hb⟩
  · have f1 : (h != h') = true := by simp [e1]
    have hr := HR.out false (by simp [e1])
    clear e1
    go_enter Try.func25, Try.ntmps25
    go_wp2
    go_ret
    exact ⟨by rw [hr]; rfl, hb⟩

theorem ents_ext (l m : List En) (hl : l.length = m.length) (h : ∀ t, t < l.length → l[t]! = m[t]!) : l = m := by
  apply List.ext_getElem hl
  intro t h1 h2
  have := h t h1
  rwa [getElem!_pos l t h1, getElem!_pos m t h2] at this

theorem eqE_any (a b : En) (w : World) (d : Nat) (os : Array Obj) :
    Calls Try.prog 25 #[.agg #[.int .i64 a.hash, .int .i64 a.index, .string a.name, .int .i64 a.id], .agg #[.int .i64 b.hash, .int .i64 b.index, .string b.name, .int .i64 b.id]] (grow (redrawn w d) os) fun x w'' => x = .returned (.bool (decide (a = b))) ∧ ∃ p : Regrown, w'' = grow (redrawn w p.d) p.os :=
  Calls.regrown_of (eqEnt_any a b _)

set_option maxRecDepth 100000 in
set_option maxHeartbeats 1000000 in
theorem eqEntS_any (v u : Value) (l m : List En) (w : World) (hl : l.length ≤ 9223372036854775807) (hv : EntsAt w v l) (hu : EntsAt w u m) :
    Calls Try.prog 24 #[v, u] w fun e w' => e = .returned (.bool (decide (l = m))) ∧ Below w.heap.size w w' := by
  obtain ⟨a, ca, rfl, -, hva⟩ := hv
  obtain ⟨b, cb, rfl, -, hub⟩ := hu
  by_cases hlen : l.length = m.length
  · have hlen' : (l.length : Int) = (m.length : Int) := by omega
    obtain ⟨n, HN⟩ : ∃ n, Hid (n = m.length) := ⟨_, rfl⟩
    rw [hlen] at hva hl ⊢
    rw [← HN.out] at hva hub hl ⊢
    go_enter Try.func24, Try.ntmps24
    go_wp2
    go_loopw [5] (fun i wr => ∃ k : Nat, k ≤ n ∧ i = .int .i64 k ∧ Hid (∀ t, t < k → l[t]! = m[t]!) ∧ Below w.heap.size w wr) (fun i _ => n - (intOf i).toNat)
    case atStart => exact ⟨0, Nat.zero_le _, rfl, fun t ht => by omega, Below.refl _ _⟩
    case round =>
      obtain ⟨k, hk, rfl, HEQ, hbel⟩ := hrel
      by_cases hlt : k < n
      · obtain ⟨b1, o1, rfl, hb1, hc1⟩ := hva k hlt
        obtain ⟨b2, o2, rfl, hb2, hc2⟩ := hub k hlt
        have hc1 := hc1.below hb1 hbel
        have hc2 := hc2.below hb2 hbel
        have HX : Hid (l[k]! = m[k]! → ∀ t, t < k + 1 → l[t]! = m[t]!) := fun h t ht => by
          by_cases e : t = k
          · rw [e]; exact h
          · exact HEQ.out t (by omega)
        have HY : Hid (¬ l[k]! = m[k]! → ¬ l = m) := fun h e => h (by rw [e])
        generalize l[k]! = x at hc1 HX HY
        generalize m[k]! = y at hc2 HX HY
        have k0 := cell_regrown hc1.c0
        have k1 := cell_regrown hc1.c1
        have k2 := cell_regrown hc1.c2
        have k3 := cell_regrown hc1.c3
        have j0 := cell_regrown hc2.c0
        have j1 := cell_regrown hc2.c1
        have j2 := cell_regrown hc2.c2
        have j3 := cell_regrown hc2.c3
        have hE := fun d os => eqE_any x y wr d os
        have hkn : (k : Int) < (n : Int) := by omega
        have hk0 : (0 : Int) ≤ (k : Int) := by omega
        clear hva hub hc1 hc2
        by_cases hxy : x = y
        · have hd : decide (x = y) = true := by simp [hxy]
          have HX' : Hid _ := HX.out hxy
          rw [hd] at hE
          clear HX HY hd hxy
          go_wp2
          refine wp_region_quiet_below (by kernel_rfl) (by kernel_rfl) ?_
          repeat (go_big_quiet_step (exact hE _ _))
          refine wpQuiet_nil ?_
          rintro w' ⟨⟨dq, osq⟩, rfl⟩
          have hbq := below_regrown wr dq osq
          generalize grow (redrawn wr dq) osq = w4 at hbq ⊢
          go_wp2
          go_roundw
          case rel => exact ⟨k + 1, by omega, by go_num, HX'.out, hbel.trans (hbq.mono hbel.size)⟩
          case measure => simp [intOf]; omega
        · have hd : decide (x = y) = false := by simp [hxy]
          have HY' : Hid _ := HY.out hxy
          rw [hd] at hE
          clear HX HY hd hxy
          go_wp2
          refine wp_region_quiet_below (by kernel_rfl) (by kernel_rfl) ?_
          repeat (go_big_quiet_step (exact hE _ _))
          refine wpQuiet_nil ?_
          rintro w' ⟨⟨dq, osq⟩, rfl⟩
          have hbq := below_regrown wr dq osq
          generalize grow (redrawn wr dq) osq = w4 at hbq ⊢
          go_wp2
          go_ret
          exact ⟨by rw [decide_eq_false HY'.out]; rfl, hbel.trans (hbq.mono hbel.size)⟩
      · obtain rfl : k = n := by omega
        go_wp2
        go_ret
        refine ⟨?_, hbel⟩
        have : l = m := ents_ext l m hlen (fun t ht => HEQ.out t (by rw [HN.out]; omega))
        simp [this]
  · have hne : ((l.length : Int) != (m.length : Int)) = true := by simp; omega
    have hneq : ¬ l = m := fun e => hlen (by rw [e])
    go_enter Try.func24, Try.ntmps24
    go_wp2
    go_ret
    exact ⟨by simp [hneq], Below.refl _ _⟩

end Go.Proofs.Ytgjehmobafkjfaa
