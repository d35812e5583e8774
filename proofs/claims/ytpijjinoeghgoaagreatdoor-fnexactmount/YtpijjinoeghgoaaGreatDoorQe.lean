/- Rows of writes: what laws.toWrite, toWriteS, eqWrite, eqWriteS, szWrite, szWriteS do. Rows of writes: what laws.markWriteS and heldWriteS do. Journals, spec: l9Ok, ShowTxn. Journals: what laws.szTxn, toTxn, eqTxn, markTxn, heldTxn do. -/
import Derived.Test.YtpijjinoeghgoaaGreatDoorRows
import Derived.Test.YtpijjinoeghgoaaGreatDoorQd
import Derived.Test.YtpijjinoeghgoaaGreatDoorQa
import Derived.Test.YtpijjinoeghgoaaGreatDoorVp
import Derived.Test.YtpijjinoeghgoaaGreatDoorMl
import Derived.WalkKit
import Derived.WalkSpells
import Derived.WalkLawsBesides
import Derived.Deep.QuietTactic
import Derived.BigQuiet
import Derived.Deep.Onto
import Derived.Lib.QuietBelow
import Derived.Deep.RegionHeld3
namespace Go.Proofs.YtpijjinoeghgoaaGreatDoor

section
open Go.RowKit Go.Sort


set_option maxRecDepth 100000 in
set_option maxHeartbeats 1000000 in
theorem eqWr_any (a b : Wr) (w : World) :
    Calls Tryz.prog 23 #[.agg #[.int .i64 a.block, .string a.text], .agg #[.int .i64 b.block, .string b.text]] w fun x w' => x = .returned (.bool (decide (a = b))) ∧ Below w.heap.size w w' := by
  obtain ⟨h, s⟩ := a
  obtain ⟨h', s'⟩ := b
  have hb := (below_lit w (.cells #[.int .i64 h, .string s] 42)).alloc (by simp) (.cells #[.int .i64 h', .string s'] 42)
  have HR : Hid (∀ r : Bool, (r = true ↔ h = h' ∧ s = s') → decide ((⟨h, s⟩ : Wr) = ⟨h', s'⟩) = r) := fun r hr => by
    rw [Bool.eq_iff_iff, hr, decide_eq_true_eq, Wr.mk.injEq]
  dsimp only
  generalize decide ((⟨h, s⟩ : Wr) = ⟨h', s'⟩) = r at HR ⊢
  by_cases e1 : h = h'
  · by_cases e3 : s = s'
    · have f1 : (h != h') = false := by simp [e1]
      have f3 : (s.toList == s'.toList) = true := by simp [e3]
      have hr := HR.out true (by simp [e1, e3])
      clear e1 e3
      go_enter Tryz.func23, Tryz.ntmps23
      go_wp2
      go_ret
      exact ⟨by rw [hr]; rfl, hb⟩
    · have f1 : (h != h') = false := by simp [e1]
      have f3 : (s.toList == s'.toList) = false := by rw [beq_eq_false_iff_ne]; exact fun e => e3 (list_ext (by simpa [ByteArray.toList_eq] using e))
      have hr := HR.out false (by simp [e3])
      clear e1 e3
      go_enter Tryz.func23, Tryz.ntmps23
      go_wp2
      go_ret
      exact ⟨by rw [hr]; rfl, hb⟩
  · have f1 : (h != h') = true := by simp [e1]
    have hr := HR.out false (by simp [e1])
    clear e1
    go_enter Tryz.func23, Tryz.ntmps23
    go_wp2
    go_ret
    exact ⟨by rw [hr]; rfl, hb⟩

theorem wrs_ext (l m : List Wr) (hl : l.length = m.length) (h : ∀ t, t < l.length → l[t]! = m[t]!) : l = m := by
  apply List.ext_getElem hl
  intro t h1 h2
  have := h t h1
  rwa [getElem!_pos l t h1, getElem!_pos m t h2] at this

theorem eqW_any (a b : Wr) (w : World) (d : Nat) (os : Array Obj) :
    Calls Tryz.prog 23 #[.agg #[.int .i64 a.block, .string a.text], .agg #[.int .i64 b.block, .string b.text]] (grow (redrawn w d) os) fun x w'' => x = .returned (.bool (decide (a = b))) ∧ ∃ p : Regrown, w'' = grow (redrawn w p.d) p.os :=
  Calls.regrown_of (eqWr_any a b _)

set_option maxRecDepth 100000 in
set_option maxHeartbeats 1000000 in
theorem eqWrS_any (v u : Value) (l m : List Wr) (w : World) (hl : l.length ≤ 9223372036854775807) (hv : WrsAt w v l) (hu : WrsAt w u m) :
    Calls Tryz.prog 9 #[v, u] w fun e w' => e = .returned (.bool (decide (l = m))) ∧ Below w.heap.size w w' := by
  obtain ⟨a, ca, rfl, -, hva⟩ := hv
  obtain ⟨b, cb, rfl, -, hub⟩ := hu
  by_cases hlen : l.length = m.length
  · have hlen' : (l.length : Int) = (m.length : Int) := by omega
    obtain ⟨n, HN⟩ : ∃ n, Hid (n = m.length) := ⟨_, rfl⟩
    rw [hlen] at hva hl ⊢
    rw [← HN.out] at hva hub hl ⊢
    go_enter Tryz.func9, Tryz.ntmps9
    go_wp2
    go_loopw [5] (fun i wr => ∃ k : Nat, k ≤ n ∧ i = .int .i64 k ∧ Hid (∀ t, t < k → l[t]! = m[t]!) ∧ Below w.heap.size w wr) (fun i _ => n - (intOf i).toNat)
    case atStart => exact ⟨0, Nat.zero_le _, rfl, fun t ht => by omega, Below.refl _ _⟩
    case round =>
      obtain ⟨k, hk, rfl, HEQ, hbel⟩ := hrel
      by_cases hlt : k < n
      · obtain ⟨b1, o1, rfl, hb1, hc1⟩ := hva k hlt
        obtain ⟨b2, o2, rfl, hb2, hc2⟩ := hub k hlt
        have hc1 := hc1.below hb1 hbel
        have hc2 := hc2.below hb2 hbel
        have HX : Hid (l[k]! = m[k]! → ∀ t, t < k + 1 → l[t]! = m[t]!) := fun h t ht => by
          by_cases e : t = k
          · rw [e]; exact h
          · exact HEQ.out t (by omega)
        have HY : Hid (¬ l[k]! = m[k]! → ¬ l = m) := fun h e => h (by rw [e])
        generalize l[k]! = x at hc1 HX HY
        generalize m[k]! = y at hc2 HX HY
        have k0 := cell_regrown hc1.c0
        have k1 := cell_regrown hc1.c1
        have j0 := cell_regrown hc2.c0
        have j1 := cell_regrown hc2.c1
        have hE := fun d os => eqW_any x y wr d os
        have hkn : (k : Int) < (n : Int) := by omega
        have hk0 : (0 : Int) ≤ (k : Int) := by omega
        clear hva hub hc1 hc2
        by_cases hxy : x = y
        · have hd : decide (x = y) = true := by simp [hxy]
          have HX' : Hid _ := HX.out hxy
          rw [hd] at hE
          clear HX HY hd hxy
          go_wp2
          refine wp_region_quiet_below (by kernel_rfl) (by kernel_rfl) ?_
          repeat (go_big_quiet_step (exact hE _ _))
          refine wpQuiet_nil ?_
          rintro w' ⟨⟨dq, osq⟩, rfl⟩
          have hbq := below_regrown wr dq osq
          generalize grow (redrawn wr dq) osq = w4 at hbq ⊢
          go_wp2
          go_roundw
          case rel => exact ⟨k + 1, by omega, by go_num, HX'.out, hbel.trans (hbq.mono hbel.size)⟩
          case measure => simp [intOf]; omega
        · have hd : decide (x = y) = false := by simp [hxy]
          have HY' : Hid _ := HY.out hxy
          rw [hd] at hE
          clear HX HY hd hxy
          go_wp2
          refine wp_region_quiet_below (by kernel_rfl) (by kernel_rfl) ?_
          repeat (go_big_quiet_step (exact hE _ _))
          refine wpQuiet_nil ?_
          rintro w' ⟨⟨dq, osq⟩, rfl⟩
          have hbq := below_regrown wr dq osq
          generalize grow (redrawn wr dq) osq = w4 at hbq ⊢
          go_wp2
          go_ret
          exact ⟨by rw [decide_eq_false HY'.out]; rfl, hbel.trans (hbq.mono hbel.size)⟩
      · obtain rfl : k = n := by omega
        go_wp2
        go_ret
        refine ⟨?_, hbel⟩
        have : l = m := wrs_ext l m hlen (fun t ht => HEQ.out t (by rw [HN.out]; omega))
        simp [this]
  · have hne : ((l.length : Int) != (m.length : Int)) = true := by simp; omega
    have hneq : ¬ l = m := fun e => hlen (by rw [e])
    go_enter Tryz.func9, Tryz.ntmps9
    go_wp2
    go_ret
    exact ⟨by simp [hneq], Below.refl _ _⟩

theorem flatW_set : ∀ (l : List Wr) (t : Nat) (e : Wr), t < l.length → ((flatW l).set (t * 2) (.int .i64 e.block)).set (t * 2 + 1) (.string e.text) = flatW (l.set t e)
  | [], t, e, h => by simp at h
  | x :: l, 0, e, _ => by simp [flatW_cons, encW]
  | x :: l, t + 1, e, h => by
    have ih := flatW_set l t e (by simpa using h)
    rw [List.set_cons_succ, flatW_cons, flatW_cons, ← ih]
    simp only [encW, List.cons_append, List.nil_append]
    rw [show (t + 1) * 2 = t * 2 + 1 + 1 by omega]
    simp only [List.set_cons_succ]


/-- each of its cells is there and may be written -/
theorem rowW_cells {w : World} {base g n cap : Nat} {xs : List Value} (h : w.ownsRow base 42 2 (.slice (some ⟨g, 0, none⟩) n cap) n xs) (t : Nat) (ht : t < n * 2) : (∃ u, w.cell? ⟨g, t, none⟩ = some u) ∧ w.frozen? ⟨g, t, none⟩ = false :=
  ⟨⟨_, (h.cellAt t ht).trans (List.getElem?_eq_getElem (by have := h.1; omega))⟩, h.frozenAt t⟩
end

section
open Go.RowKit Go.Sort

/-- the marked write whose first number is m -/
def mkW (m : Nat) : Wr := ⟨m, mkT (m + 1)⟩
def marksW (k : Nat) : Nat → List Wr
  | 0 => []
  | n + 1 => marksW k n ++ [mkW (k + 2 * n)]
theorem marksW_len (k n : Nat) : (marksW k n).length = n := by
  induction n with
  | zero => rfl
  | succ n ih => simp [marksW, ih]
def markdW (k j : Nat) (l : List Wr) : List Wr := marksW k j ++ l.drop j
theorem markdW_len {k j : Nat} {l : List Wr} (h : j ≤ l.length) : (markdW k j l).length = l.length := by
  simp [markdW, marksW_len]; omega
theorem markdW_step {k j : Nat} {l : List Wr} (h : j < l.length) : (markdW k j l).set j (mkW (k + 2 * j)) = markdW k (j + 1) l := by
  unfold markdW
  rw [List.set_append_right _ _ (by rw [marksW_len]; exact Nat.le_refl _), marksW_len, Nat.sub_self, List.drop_eq_getElem_cons h, List.set_cons_zero]
  simp [marksW]
theorem markdW_all (k : Nat) (l : List Wr) : markdW k l.length l = marksW k l.length := by simp [markdW]
theorem marksW_get (k n t : Nat) (h : t < n) : (marksW k n)[t]! = mkW (k + 2 * t) := by
  induction n with
  | zero => omega
  | succ n ih =>
    rw [getElem!_pos _ _ (by rw [marksW_len]; exact h)]
    simp only [marksW]
    by_cases ht : t < n
    · rw [List.getElem_append_left (by rw [marksW_len]; exact ht), ← ih ht, getElem!_pos _ _ (by rw [marksW_len]; exact ht)]
    · obtain rfl : t = n := by omega
      rw [List.getElem_append_right (by rw [marksW_len]; exact Nat.le_refl _)]
      simp [marksW_len]

set_option maxRecDepth 100000 in
set_option maxHeartbeats 1000000 in
theorem markWrS_any (v : Value) (l : List Wr) (k : Nat) (base : Nat) (w : World) (hv : WrRow w base v l) (hl : l.length ≤ 1048577) (hk0 : 0 < k) (hk1 : k ≤ 100000000) :
    Calls Tryz.prog 13 #[v, .int .i64 k] w fun e w' => e = .returned (.int .i64 ((k + 2 * l.length : Nat) : Int)) ∧ WrRow w' base v (marksW k l.length) ∧ w.grownBy w' v.ownBlock := by
  rcases hv.2 with ⟨rfl, h0⟩ | ⟨g, cap, cur, rfl, hg, hh, hnc, hcp, hcs, htake⟩
  · obtain rfl : l = [] := List.length_eq_zero_iff.1 h0
    go_enter Tryz.func13, Tryz.ntmps13
    go_wp2
    refine wp_loop_rounds 1 ?_
    rw [rounds_succ]
    go_wp2
    go_ret
    exact ⟨by simp, hv, ⟨rfl, rfl, rfl, Nat.le_refl _, fun _ _ _ => rfl⟩⟩
  · obtain ⟨n, HN⟩ : ∃ n, Hid (n = l.length) := ⟨_, rfl⟩
    have hv1 : w.ownsRow base 42 2 (.slice (some ⟨g, 0, none⟩) n cap) n (flatW (markdW k 0 l)) := by
      have : markdW k 0 l = l := by simp [markdW, marksW]
      rw [this, HN.out]; exact hv
    have HM : Hid (∀ j, j < n → (markdW k j l).set j (mkW (k + 2 * j)) = markdW k (j + 1) l) := fun j hj => markdW_step (by rw [← HN.out]; exact hj)
    have HLN : Hid (∀ j, j ≤ n → (markdW k j l).length = n) := fun j hj => by rw [HN.out] at hj ⊢; exact markdW_len hj
    have HE : Hid (markdW k n l = marksW k l.length) := by show _ = _; rw [HN.out]; exact markdW_all k l
    clear hv hh hcs htake
    rw [← HN.out] at hl hnc ⊢
    go_enter Tryz.func13, Tryz.ntmps13
    go_wp2
    go_loopw [1, 5] (fun q i wr => ∃ (j m : Nat), j ≤ n ∧ i = .int .i64 j ∧ q = .int .i64 m ∧ Hid (m = k + 2 * j) ∧ wr.ownsRow base 42 2 (.slice (some ⟨g, 0, none⟩) n cap) n (flatW (markdW k j l)) ∧ w.grownBy wr (some g)) (fun _ i _ => n - (intOf i).toNat)
    case atStart => exact ⟨0, k, Nat.zero_le _, rfl, rfl, rfl, hv1, ⟨rfl, rfl, rfl, Nat.le_refl _, fun _ _ _ => rfl⟩⟩
    case round =>
      obtain ⟨j, m, hj, rfl, rfl, HMM, hown, hgb⟩ := hrel
      have hm0 : 0 < m := by have := HMM.out; omega
      have hm1 : m ≤ 200000000 := by have := HMM.out; omega
      by_cases hlt : j < n
      · obtain ⟨⟨u0, d0⟩, f0⟩ := rowW_cells hown (j * 2) (by omega)
        have hs0 := (hown.stored (j * 2) (.int .i64 (m : Int))).1
        have HP : Hid (∀ w3, Below _ (wr.setCell ⟨g, j * 2, none⟩ (.int .i64 (m : Int))) w3 → ((w3.setCell ⟨g, j * 2 + 1, none⟩ (.string (mkT (m + 1)))).ownsRow base 42 2 (.slice (some ⟨g, 0, none⟩) n cap) n (flatW (markdW k (j + 1) l))) ∧ (∀ t, t < n * 2 → (∃ u, w3.cell? ⟨g, t, none⟩ = some u) ∧ w3.frozen? ⟨g, t, none⟩ = false)) := fun w3 hb => by
          have h3 := own_below hs0 hb
          refine ⟨?_, fun t ht => rowW_cells h3 t ht⟩
          have h4 := (h3.stored (j * 2 + 1) (.string (mkT (m + 1)))).1
          have e := flatW_set (markdW k j l) j (mkW m) (by rw [HLN.out j hj]; exact hlt)
          rw [← HM.out j hlt, ← HMM.out, ← e]
          exact h4
        have HT := fun w' => markText_at ((m : Int) + 1) (m + 1) (by omega) w' (by omega) (by omega)
        have hgb2 := gbi_trans hgb (gbi_set wr g (j * 2) (.int .i64 (m : Int)))
        have HGB : Hid _ := hgb2
        clear hs0 hown hgb2
        go_wp2_with (go_at_call 24; refine (HT _).mono ?_; rintro e w3 ⟨rfl, b3⟩; obtain ⟨h3, hcc⟩ := HP.out w3 b3; obtain ⟨⟨u2, d2⟩, f2⟩ := hcc (j * 2 + 1) (by omega); have HS : Hid _ := h3; clear h3 hcc)
        go_roundw
        case rel => exact ⟨j + 1, m + 2, by omega, by go_num, by go_num, by show m + 2 = _; rw [HMM.out]; omega, HS.out, gbi_trans (gbi_trans HGB.out (gb_belowE b3)) (gbi_set _ _ _ _)⟩
        case measure => simp [intOf]; omega
      · obtain rfl : n = j := by omega
        rw [HE.out] at hown
        go_wp2
        go_ret
        refine ⟨by rw [HMM.out]; rfl, ?_, hgb⟩
        rw [← HN.out] at hown
        unfold WrRow
        rw [marksW_len]
        exact hown

set_option maxRecDepth 100000 in
set_option maxHeartbeats 1000000 in
theorem heldWrS_marks (v : Value) (n k : Nat) (w : World) (hn : n ≤ 1048577) (hk0 : 0 < k) (hk1 : k ≤ 100000000) (hv : WrsAt w v (marksW k n)) :
    Calls Tryz.prog 15 #[v, .int .i64 k] w fun e w' => e = .returned (.int .i64 ((k + 2 * n : Nat) : Int)) ∧ Below w.heap.size w w' := by
  obtain ⟨a, cap, rfl, -, hva⟩ := hv
  rw [marksW_len] at hva ⊢
  have HV : Hid (∀ t, t < n → ∃ b off, a = some ⟨b, off, none⟩ ∧ b < w.heap.size ∧ CellsW w b (off + t * 2) (mkW (k + 2 * t))) := fun t ht => by
    obtain ⟨b, off, h1, h2, h3⟩ := hva t ht
    rw [marksW_get k n t ht] at h3
    exact ⟨b, off, h1, h2, h3⟩
  clear hva
  go_enter Tryz.func15, Tryz.ntmps15
  go_wp2
  go_loopw [1, 5] (fun q i wr => ∃ (j m : Nat), j ≤ n ∧ i = .int .i64 j ∧ q = .int .i64 m ∧ Hid (m = k + 2 * j) ∧ Below w.heap.size w wr) (fun _ i _ => n - (intOf i).toNat)
  case atStart => exact ⟨0, k, Nat.zero_le _, rfl, rfl, rfl, Below.refl _ _⟩
  case round =>
    obtain ⟨j, m, hj, rfl, rfl, HMM, hbel⟩ := hrel
    have hm0 : 0 < m := by have := HMM.out; omega
    have hm1 : m ≤ 200000000 := by have := HMM.out; omega
    by_cases hlt : j < n
    · obtain ⟨b, off, rfl, hb, hc⟩ := HV.out j hlt
      rw [← HMM.out] at hc
      have hc1 := hc.below hb hbel
      have k0 := hc1.c0
      have k1 := hc1.c1
      dsimp only [mkW] at k0 k1
      have HT : ∀ (dd : Nat) (os : Array Obj), Calls Tryz.prog 24 #[.int .i64 ((m : Int) + 1)] (grow (redrawn wr dd) os) fun e w'' => e = .returned (.string (mkT (m + 1))) ∧ ∃ p : Regrown, w'' = grow (redrawn wr p.d) p.os := fun dd os => Calls.regrown_of (markText_at ((m : Int) + 1) (m + 1) (by omega) _ (by omega) (by omega))
      have q2 := cell_regrown k1
      generalize mkT (m + 1) = tx at k1 q2 HT
      have hj0 : (0 : Int) ≤ (j : Int) := by omega
      have hjn : (j : Int) < (n : Int) := by omega
      clear hc hc1
      go_wp2
      refine wp_region_quiet_below (by kernel_rfl) (by kernel_rfl) ?_
      repeat (go_big_quiet_step (exact HT _ _))
      refine wpQuiet_nil ?_
      rintro w' ⟨⟨dq, osq⟩, rfl⟩
      have hbq := below_regrown wr dq osq
      generalize grow (redrawn wr dq) osq = w3 at hbq ⊢
      go_wp2
      go_roundw
      case rel => exact ⟨j + 1, m + 2, by omega, by go_num, by go_num, by show m + 2 = _; rw [HMM.out]; omega, hbel.trans (hbq.mono hbel.size)⟩
      case measure => simp [intOf]; omega
    · obtain rfl : n = j := by omega
      go_wp2
      go_ret
      exact ⟨by rw [HMM.out]; rfl, hbel⟩
end

section
open Go.RowKit Go.Sort

/-- the value v reads as the transaction t -/
def TxnAt (w : World) (v : Value) (t : Tx) : Prop := ∃ s, v = .agg #[.int .i64 t.seq, s] ∧ WrsAt w s t.outs
theorem TxnAt.below {w w' : World} {v : Value} {t : Tx} (h : TxnAt w v t) (b : Below w.heap.size w w') : TxnAt w' v t := by
  obtain ⟨s, rfl, hs⟩ := h
  exact ⟨s, rfl, hs.below b⟩
theorem blk2 {w : World} {g : Nat} {a b : Value} {T : TypeId} {fr : Nat × Nat} (h : w.heap[g]? = some (.cells #[a, b] T fr)) : w.cell? ⟨g, 0, none⟩ = some a ∧ w.cell? ⟨g, 1, none⟩ = some b := ⟨Joins.cell_of_block h 0, Joins.cell_of_block h 1⟩

theorem in_re (x l h : Int) (w : World) (dd : Nat) (os : Array Obj) : Calls Tryz.prog 62 #[.int .i64 x, .int .i64 l, .int .i64 h] (grow (redrawn w dd) os) fun e w'' => e = .returned (.bool (inB x l h)) ∧ ∃ p : Regrown, w'' = grow (redrawn w p.d) p.os := Calls.regrown_of ((in_any x l h _).mono fun e w' h => ⟨h.1, by rw [← h.2]; exact Below.refl _ _⟩)

set_option maxRecDepth 100000 in
set_option maxHeartbeats 2000000 in
theorem l9Ok_any (v : Value) (t : Tx) (w : World) (hv : TxnAt w v t) :
    Calls Tryz.prog 43 #[v] w fun e w' => e = .returned (.bool (txnB t)) ∧ Below w.heap.size w w' := by
  obtain ⟨s, rfl, a, ca, rfl, -, ha⟩ := hv
  obtain ⟨sq, l⟩ := t
  dsimp only at *
  have HT : Hid (txnB ⟨sq, l⟩ = (inB sq 1 1000000 && (inB l.length 1 17 && risB 0 l))) := rfl
  have HST : Hid (∀ k, k < l.length → risB (leastK l k) (l.drop k) = (decide (leastK l k ≤ l[k]!.block ∧ l[k]!.block ≤ 16 ∧ l[k]!.text.size ≤ 400) && risB (leastK l (k + 1)) (l.drop (k + 1)))) := fun k hk => ris_step hk
  have HEN : Hid (∀ n, risB n (l.drop l.length) = true) := fun n => ris_end l n
  have HLS : Hid (∀ k, leastK l (k + 1) = l[k]!.block + 1) := leastK_succ l
  obtain ⟨n, HN⟩ : ∃ n, Hid (n = l.length) := ⟨_, rfl⟩
  rw [← HN.out] at ha HT HST HEN ⊢
  obtain ⟨r, HR⟩ : ∃ r, Hid (r = txnB ⟨sq, l⟩) := ⟨_, rfl⟩
  rw [← HR.out] at HT ⊢
  have B0 := below_lit w (.cells #[.int .i64 sq, .slice a n ca] 38)
  have S0 : (w.alloc (.cells #[.int .i64 sq, .slice a n ca] 38)).heap.size = w.heap.size + 1 := by simp
  cases h1 : inB sq 1 1000000 with
  | false =>
    have hr : Hid (r = false) := by show _ = _; rw [HT.out, h1]; rfl
    clear HT
    go_enter Tryz.func43, Tryz.ntmps43
    go_wp2_with (go_at_call 62; refine (in_any _ _ _ _).mono ?_; rintro e w' ⟨rfl, rfl⟩)
    go_ret
    exact ⟨ret_bool hr.out.symm, B0⟩
  | true =>
    cases h2 : inB n 1 17 with
    | false =>
      have hr : Hid (r = false) := by show _ = _; rw [HT.out, h1, h2]; rfl
      clear HT
      go_enter Tryz.func43, Tryz.ntmps43
      go_wp2_with (go_at_call 62; refine (in_any _ _ _ _).mono ?_; rintro e w' ⟨rfl, rfl⟩)
      go_ret
      exact ⟨ret_bool hr.out.symm, B0⟩
    | true =>
      have hn17 := inB_le h2
      have hr : Hid (risB (leastK l 0) (l.drop 0) = r) := by show _ = _; rw [HT.out, h1, h2, leastK_zero]; rfl
      have hl0 : Hid (0 ≤ leastK l 0) := by show 0 ≤ _; rw [leastK_zero]; omega
      clear HT
      go_enter Tryz.func43, Tryz.ntmps43
      go_wp2_with (go_at_call 62; refine (in_any _ _ _ _).mono ?_; rintro e w' ⟨rfl, rfl⟩)
      have HB0 : Hid ((w.alloc (.cells #[.int .i64 sq, .slice a n ca] 38)).heap[w.heap.size]? = some (.cells #[.int .i64 sq, .slice a n ca] 38)) := (MapKept.heap_alloc w _).1
      generalize w.alloc (.cells #[.int .i64 sq, .slice a n ca] 38) = W at B0 S0 HB0 ⊢
      clear h1 h2
      go_loopw [3] (fun i wr => ∃ k : Nat, k ≤ n ∧ i = .int .i64 k ∧ Hid (risB (leastK l k) (l.drop k) = r) ∧ Hid (0 ≤ leastK l k) ∧ Hid (wr.heap[w.heap.size]? = some (.cells #[.int .i64 sq, .slice a n ca] 38)) ∧ Below w.heap.size w wr) (fun i _ => n - (intOf i).toNat)
      case atStart => exact ⟨0, Nat.zero_le _, rfl, hr, hl0, HB0, B0⟩
      case round =>
        obtain ⟨k, hk, rfl, HRK, HLK, HB, hbel⟩ := hrel
        obtain ⟨x0, x1⟩ := blk2 HB.out
        by_cases hlt : k < n
        · obtain ⟨b1, o1, rfl, hb1, hc1⟩ := ha k hlt
          have hc1 := hc1.below hb1 hbel
          have HS := HST.out k hlt
          rw [HRK.out] at HS
          have HSUC := HLS.out k
          have HPV : 0 < k → CellsW wr b1 (o1 + (k - 1) * 2) l[k - 1]! ∧ leastK l k = l[k - 1]!.block + 1 := fun h0 => by
            obtain ⟨b2, o2, e2, hb2, hc2⟩ := ha (k - 1) (by omega)
            cases e2
            refine ⟨hc2.below hb2 hbel, ?_⟩
            have := HLS.out (k - 1)
            rwa [show k - 1 + 1 = k by omega] at this
          have HLK' := HLK.out
          have HK0 : k = 0 → leastK l k = 0 := fun h => by rw [h]; rfl
          generalize l[k]! = y at hc1 HS HSUC
          obtain ⟨yb, yt⟩ := y
          have c0 := hc1.c0
          have c1 := hc1.c1
          dsimp only at c0 c1 HS HSUC
          have q1 := cell_regrown x1
          have q2 := cell_regrown c0
          have q3 := cell_regrown c1
          have hIN := fun dd os => in_re yb 0 16 wr dd os
          have hkn : (k : Int) < (n : Int) := by omega
          have hk0 : (0 : Int) ≤ (k : Int) := by omega
          have hyi : inB yb 0 16 = decide (0 ≤ yb ∧ yb ≤ 16) := by
            cases h : inB yb 0 16 with
            | false => symm; apply decide_eq_false; have := inB_no h; omega
            | true => symm; exact decide_eq_true (inB_le h)
          clear hc1 ha hlt
          by_cases hin : 0 ≤ yb ∧ yb ≤ 16
          · rw [decide_eq_true hin] at hyi
            rw [hyi] at hIN
            have HNX : Hid (leastK l k ≤ yb → yt.size ≤ 400 → risB (leastK l (k + 1)) (l.drop (k + 1)) = r ∧ 0 ≤ leastK l (k + 1)) := fun h1 h2 => by
              rw [decide_eq_true ⟨h1, hin.2, h2⟩, Bool.true_and] at HS
              exact ⟨HS.symm, by rw [HSUC]; omega⟩
            have HNO : Hid (¬ (leastK l k ≤ yb ∧ yt.size ≤ 400) → r = false) := fun h => by
              rw [HS, decide_eq_false (fun h2 => h ⟨h2.1, h2.2.2⟩), Bool.false_and]
            have hin0 := hin.1
            clear hin hyi HS HSUC
            by_cases hkz : k = 0
            · have hd0 : decide (0 < k) = false := decide_eq_false (by omega)
              have hle := HK0 hkz
              by_cases hsz : yt.size ≤ 400
              · have hf4 : ¬ ((400 : Int) < (yt.size : Int)) := by omega
                obtain ⟨h3, h4⟩ := HNX.out (by rw [hle]; exact hin0) hsz
                have HX1 : Hid _ := h3
                have HX2 : Hid _ := h4
                clear HNX HNO hkz hle h3 h4 HPV HK0 HLK' hsz hin0
                go_wp2
                refine wp_region_quiet_below (by kernel_rfl) (by kernel_rfl) ?_
                repeat (go_big_quiet_step (with_reducible exact hIN _ _))
                refine wpQuiet_nil ?_
                rintro w' ⟨⟨dq, osq⟩, rfl⟩
                have hbq := below_regrown wr dq osq
                generalize grow (redrawn wr dq) osq = w3 at hbq ⊢
                have hbel3 := hbel.trans (hbq.mono hbel.size)
                have HB3 : Hid _ := (hbq.block _ (lt_of_block HB.out)).trans HB.out
                go_wp2
                go_roundw
                case rel => exact ⟨k + 1, by omega, by go_num, HX1, HX2, HB3, hbel3⟩
                case measure => simp [intOf]; omega
              · have hf4 : (400 : Int) < (yt.size : Int) := by omega
                have hr : Hid (r = false) := HNO.out (fun h => hsz h.2)
                clear HNX HNO hkz hle HPV HK0 HLK' hsz hin0
                go_wp2
                refine wp_region_quiet_below (by kernel_rfl) (by kernel_rfl) ?_
                repeat (go_big_quiet_step (with_reducible exact hIN _ _))
                refine wpQuiet_nil ?_
                rintro w' ⟨⟨dq, osq⟩, rfl⟩
                have hbq := below_regrown wr dq osq
                generalize grow (redrawn wr dq) osq = w3 at hbq ⊢
                have hbel3 := hbel.trans (hbq.mono hbel.size)
                go_wp2
                go_ret
                exact ⟨ret_bool hr.out.symm, hbel3⟩
            · have hd0 : decide (0 < k) = true := decide_eq_true (by omega)
              obtain ⟨hp, hle⟩ := HPV (by omega)
              have p0 := hp.c0
              generalize l[k - 1]! = z at p0 hle
              obtain ⟨zb, zt⟩ := z
              dsimp only at p0 hle
              have q4 := cell_regrown p0
              obtain ⟨m, rfl⟩ : ∃ m, k = m + 1 := ⟨k - 1, by omega⟩
              rw [Nat.add_sub_cancel] at p0 q4
              clear hp HPV HK0
              by_cases hge : yb ≤ zb
              · have hr : Hid (r = false) := HNO.out (fun h => by have := h.1; omega)
                clear HNX HNO hle HLK' hin0 hkz
                go_wp2
                refine wp_region_quiet_below (by kernel_rfl) (by kernel_rfl) ?_
                repeat (go_big_quiet_step (with_reducible exact hIN _ _))
                refine wpQuiet_nil ?_
                rintro w' ⟨⟨dq, osq⟩, rfl⟩
                have hbq := below_regrown wr dq osq
                generalize grow (redrawn wr dq) osq = w3 at hbq ⊢
                have hbel3 := hbel.trans (hbq.mono hbel.size)
                go_wp2
                go_ret
                exact ⟨ret_bool hr.out.symm, hbel3⟩
              · have hgd : decide (yb ≤ zb) = false := decide_eq_false hge
                by_cases hsz : yt.size ≤ 400
                · have hf4 : ¬ ((400 : Int) < (yt.size : Int)) := by omega
                  obtain ⟨h3, h4⟩ := HNX.out (by omega) hsz
                  have HX1 : Hid _ := h3
                  have HX2 : Hid _ := h4
                  clear HNX HNO hle HLK' hsz hin0 hkz hge h3 h4
                  go_wp2
                  refine wp_region_quiet_below (by kernel_rfl) (by kernel_rfl) ?_
                  repeat (go_big_quiet_step (with_reducible exact hIN _ _))
                  refine wpQuiet_nil ?_
                  rintro w' ⟨⟨dq, osq⟩, rfl⟩
                  have hbq := below_regrown wr dq osq
                  generalize grow (redrawn wr dq) osq = w3 at hbq ⊢
                  have hbel3 := hbel.trans (hbq.mono hbel.size)
                  have HB3 : Hid _ := (hbq.block _ (lt_of_block HB.out)).trans HB.out
                  go_wp2
                  go_roundw
                  case rel => exact ⟨m + 1 + 1, by omega, by go_num, HX1, HX2, HB3, hbel3⟩
                  case measure => simp [intOf]; omega
                · have hf4 : (400 : Int) < (yt.size : Int) := by omega
                  have hr : Hid (r = false) := HNO.out (fun h => hsz h.2)
                  clear HNX HNO hle HLK' hsz hin0 hkz hge
                  go_wp2
                  refine wp_region_quiet_below (by kernel_rfl) (by kernel_rfl) ?_
                  repeat (go_big_quiet_step (with_reducible exact hIN _ _))
                  refine wpQuiet_nil ?_
                  rintro w' ⟨⟨dq, osq⟩, rfl⟩
                  have hbq := below_regrown wr dq osq
                  generalize grow (redrawn wr dq) osq = w3 at hbq ⊢
                  have hbel3 := hbel.trans (hbq.mono hbel.size)
                  go_wp2
                  go_ret
                  exact ⟨ret_bool hr.out.symm, hbel3⟩
          · have hr : Hid (r = false) := by show _ = _; rw [HS, decide_eq_false (fun h2 => hin ⟨by omega, h2.2.1⟩), Bool.false_and]
            rw [decide_eq_false hin] at hyi
            rw [hyi] at hIN
            clear hin hyi HS HSUC HPV HK0 HLK'
            go_wp2
            refine wp_region_quiet_below (by kernel_rfl) (by kernel_rfl) ?_
            repeat (go_big_quiet_step (with_reducible exact hIN _ _))
            refine wpQuiet_nil ?_
            rintro w' ⟨⟨dq, osq⟩, rfl⟩
            have hbq := below_regrown wr dq osq
            generalize grow (redrawn wr dq) osq = w3 at hbq ⊢
            have hbel3 := hbel.trans (hbq.mono hbel.size)
            go_wp2
            go_ret
            exact ⟨ret_bool hr.out.symm, hbel3⟩
        · obtain rfl : k = n := by omega
          have hrr : Hid (r = true) := by show _ = _; rw [← HRK.out, HEN.out]
          go_wp2
          go_ret
          exact ⟨ret_bool hrr.out.symm, hbel⟩

theorem sFix4 (n : Int) (w : World) (h0 : 0 ≤ n) (h1 : n ≤ 4294967295) : Calls Tryz.prog 46 #[.int .i64 n, .int .i64 4] w fun e w' => e = .returned (.string ⟨(fixL 4 n).toArray⟩) ∧ Below w.heap.size w w' := sFixed_yes n 4 w (by decide) h0 (by omega)

theorem sCrcV (s : ByteArray) (hs : s.size ≤ 1048576) (w : World) : Calls Tryz.prog 47 #[.string s] w fun e w' => e = .returned (.int .i64 (crcV s)) ∧ w = w' := sCrc s hs w

set_option maxRecDepth 100000 in
set_option maxHeartbeats 2000000 in
theorem sShowTxn (v : Value) (t : Tx) (w : World) (hv : TxnAt w v t) :
    Calls Tryz.prog 29 #[v] w fun e w' => e = .returned (.string (showN t)) ∧ Below w.heap.size w w' := by
  have HOK := fun w' (b : Below w.heap.size w w') => l9Ok_any v t w' (hv.below b)
  obtain ⟨s, rfl, a, ca, rfl, -, ha⟩ := hv
  cases htx : txnB t with
  | false =>
    have hr : Hid (showN t = ⟨#[]⟩) := showN_no htx
    rw [htx] at HOK
    generalize showN t = r at hr ⊢
    generalize t.seq = sq at *
    generalize t.outs.length = n at *
    have B0 := below_lit w (.cells #[.int .i64 sq, .slice a n ca] 38)
    have H1 := HOK _ B0
    rw [show (w.alloc (.cells #[.int .i64 sq, .slice a n ca] 38)).heap.size = w.heap.size + 1 by simp] at H1
    have S0 : (w.alloc (.cells #[.int .i64 sq, .slice a n ca] 38)).heap.size = w.heap.size + 1 := by simp
    go_enter Tryz.func29, Tryz.ntmps29
    go_wp2_with fail
    refine H1.mono ?_
    rintro e w1 ⟨rfl, b1⟩
    rw [← S0] at b1
    go_wp2
    go_ret
    exact ⟨by rw [hr.out]; rfl, B0.trans (b1.mono (by omega))⟩
  | true =>
    rw [htx] at HOK
    obtain ⟨h1, h2, h3⟩ := txnB_parts htx
    have hx := ris_at _ _ h3
    have HST : Hid (∀ k, k < t.outs.length → txT t k ++ varT t.outs[k]!.block ++ pieceT t.outs[k]!.text = txT t (k + 1)) := fun k hk => by
      rw [txT_step t k hk, app_assoc]
    have HZ : Hid (∀ k, (txT t k).size ≤ 8000) := fun k => txT_size t (fun x hx' => (hx x hx').2.2) h2.2 k
    have H0 : Hid ((⟨#[116]⟩ : ByteArray) ++ varT t.seq ++ varT t.outs.length = txT t 0) := (txT_zero t).symm
    have HE : Hid (showN t = cutT ((⟨(fixL 4 (crcV (txT t t.outs.length))).toArray⟩ : ByteArray) ++ txT t t.outs.length)) := by
      show _ = _; rw [showN_yes htx, txT_all]; rfl
    have HSZ : Hid (((⟨(fixL 4 (crcV (txT t t.outs.length))).toArray⟩ : ByteArray) ++ txT t t.outs.length).size = 4 + (txT t t.outs.length).size) := sumT_size _
    have HTX : Hid (∀ k, k < t.outs.length → t.outs[k]!.text.size ≤ 400) := fun k hk => (hx _ (by rw [getElem!_pos t.outs k hk]; exact List.getElem_mem hk)).2.2
    obtain ⟨r, HR⟩ : ∃ r, Hid (r = showN t) := ⟨_, rfl⟩
    rw [← HR.out] at HE ⊢
    generalize txT t = tx at HST HZ H0 HE HSZ
    clear htx h3 hx
    obtain ⟨sq, l⟩ := t
    dsimp only at *
    obtain ⟨n, HN⟩ : ∃ n, Hid (n = l.length) := ⟨_, rfl⟩
    rw [← HN.out] at ha h2 HTX HST H0 HE HSZ HOK ⊢
    have B0 := below_lit w (.cells #[.int .i64 sq, .slice a n ca] 38)
    have S0 : (w.alloc (.cells #[.int .i64 sq, .slice a n ca] 38)).heap.size = w.heap.size + 1 := by simp
    have HB0 : Hid ((w.alloc (.cells #[.int .i64 sq, .slice a n ca] 38)).heap[w.heap.size]? = some (.cells #[.int .i64 sq, .slice a n ca] 38)) := (MapKept.heap_alloc w _).1
    have H1 := HOK _ B0
    rw [S0] at H1
    go_enter Tryz.func29, Tryz.ntmps29
    go_wp2_with fail
    refine H1.mono ?_
    rintro e W ⟨rfl, b1⟩
    rw [← S0] at b1
    have HB1 : Hid (W.heap[w.heap.size]? = some (.cells #[.int .i64 sq, .slice a n ca] 38)) := (b1.block _ (by omega)).trans HB0.out
    have BW : Below w.heap.size w W := B0.trans (b1.mono (by omega))
    obtain ⟨c0, c1⟩ := blk2 HB1.out
    clear B0 S0 HB0 H1 HOK b1
    have g0 := cell_regrown c0
    have g1 := cell_regrown c1
    have z1 := varT_size sq
    have z2 := varT_size n
    have V1 := fun dd os => sVarT_re sq W dd os
    have V2 := fun dd os => sVarT_re n W dd os
    generalize varT sq = t1 at *
    generalize varT n = t2 at *
    go_wp2
    refine wp_region_quiet_below (by kernel_rfl) (by kernel_rfl) ?_
    repeat (go_big_quiet_step (first | with_reducible exact V1 _ _ | with_reducible exact V2 _ _))
    refine wpQuiet_nil ?_
    rintro w' ⟨⟨dq, osq⟩, rfl⟩
    have hbq := below_regrown W dq osq
    generalize grow (redrawn W dq) osq = w5 at hbq ⊢
    have HB5 : Hid _ := (hbq.block _ (lt_of_block HB1.out)).trans HB1.out
    have b5 : Below w.heap.size w w5 := BW.trans (hbq.mono BW.size)
    rw [H0.out]
    clear V1 V2 g0 g1 c0 c1 HB1 z1 z2 H0 BW hbq
    go_wp2
    go_loopw [3, 4] (fun sv i wr => ∃ k : Nat, k ≤ n ∧ i = .int .i64 k ∧ sv = .string (tx k) ∧ Hid (wr.heap[w.heap.size]? = some (.cells #[.int .i64 sq, .slice a n ca] 38)) ∧ Below w.heap.size w wr) (fun _ i _ => n - (intOf i).toNat)
    case atStart => exact ⟨0, Nat.zero_le _, rfl, rfl, HB5, b5⟩
    case round =>
      obtain ⟨k, hk, rfl, rfl, HB, hbel⟩ := hrel
      obtain ⟨d0, d1⟩ := blk2 HB.out
      by_cases hlt : k < n
      · obtain ⟨b1, o1, rfl, hb1, hc1⟩ := ha k hlt
        have hc1 := hc1.below hb1 hbel
        have HS := HST.out k hlt
        have hz := HZ.out k
        have hnm := HTX.out k hlt
        generalize l[k]! = e at hc1 HS hnm
        obtain ⟨e0, e1⟩ := e
        have k0 := hc1.c0
        have k1 := hc1.c1
        dsimp only at k0 k1 HS hnm
        have f0 := cell_regrown k0
        have f1 := cell_regrown k1
        have f2 := cell_regrown d1
        have z1 := varT_size e0
        have z2 := pieceT_size e1
        have V1 := fun dd os => sVarT_re e0 wr dd os
        have V2 := fun dd os => sPiece_re e1 wr (by omega) dd os
        generalize varT e0 = t1 at *
        generalize pieceT e1 = t2 at *
        have HS : Hid _ := HS
        generalize tx k = tk at HS hz ⊢
        have hkn : (k : Int) < (n : Int) := by omega
        have hk0 : (0 : Int) ≤ (k : Int) := by omega
        clear hc1 ha
        go_wp2
        refine wp_region_quiet_below (by kernel_rfl) (by kernel_rfl) ?_
        repeat (go_big_quiet_step (first | with_reducible exact V1 _ _ | with_reducible exact V2 _ _))
        refine wpQuiet_nil ?_
        rintro w' ⟨⟨dq, osq⟩, rfl⟩
        have hbq := below_regrown wr dq osq
        generalize grow (redrawn wr dq) osq = w6 at hbq ⊢
        have HB6 : Hid _ := (hbq.block _ (lt_of_block HB.out)).trans HB.out
        have b6 := hbel.trans (hbq.mono hbel.size)
        rw [HS.out]
        clear V1 V2 f0 f1 f2 k0 k1 d0 d1 z1 z2 HS
        go_wp2
        go_roundw
        case rel => exact ⟨k + 1, by omega, by go_num, rfl, HB6, b6⟩
        case measure => simp [intOf]; omega
      · obtain rfl : k = n := by omega
        have hz := HZ.out k
        have hcv := crcV_in (tx k)
        have HC := fun w' => sCrcV (tx k) (by omega) w'
        have HF := fun w' => sFix4 (crcV (tx k)) w' hcv.1 hcv.2
        have HSZ := HSZ.out
        generalize tx k = tk at *
        generalize crcV tk = cv at *
        generalize (⟨(fixL 4 cv).toArray⟩ : ByteArray) = ft at *
        have HE : Hid _ := HE.out
        have hfs : ft.size = 4 := by rw [app_size] at HSZ; omega
        clear HSZ HST HZ
        by_cases hbig : 4000 < (ft ++ tk).size
        · have hr : Hid (r = ⟨#[]⟩) := by show _ = _; rw [HE.out]; unfold cutT; rw [if_pos hbig]
          have hb4 : (4000 : Int) < 4 + (tk.size : Int) := by rw [app_size] at hbig; omega
          clear HE
          go_wp2_with (first
            | (go_at_call 47; refine (HC _).mono ?_; rintro e w' ⟨rfl, rfl⟩)
            | (go_at_call 46; refine (HF _).mono ?_; rintro e w7 ⟨rfl, b7⟩))
          go_ret
          exact ⟨by rw [hr.out]; rfl, hbel.trans (b7.mono hbel.size)⟩
        · have hr : Hid (r = ft ++ tk) := by show _ = _; rw [HE.out]; unfold cutT; rw [if_neg hbig]
          have hb4 : ¬ ((4000 : Int) < 4 + (tk.size : Int)) := by rw [app_size] at hbig; omega
          clear HE
          go_wp2_with (first
            | (go_at_call 47; refine (HC _).mono ?_; rintro e w' ⟨rfl, rfl⟩)
            | (go_at_call 46; refine (HF _).mono ?_; rintro e w7 ⟨rfl, b7⟩))
          go_ret
          exact ⟨by rw [hr.out]; rfl, hbel.trans (b7.mono hbel.size)⟩
end

section
open Go.RowKit Go.Sort

theorem results_txn {fn : Func} {p : Tmp} (h : fn.results = #[.cell p 38]) (tmps : Array Value) (w : World) (g : Nat) (cs : Array Value) (hc : cs.size = 2)
    (hp : tmps.getD p undef = .pointer (some ⟨g, 0, none⟩)) (hg : w.heap[g]? = some (.cells cs 38 (0, 0))) :
    (results fn tmps).run Tryz.prog w = .ok (.agg cs) w := by
  have hi : (Tryz.prog.info? 38).map (·.size) = some cs.size := by rw [hc]; kernel_rfl
  have hr := run_loadVar_row (P := Tryz.prog) w g 38 38 cs (0, 0) _ hg Tryz.underlying38 rfl hi
  have hp' : tmps[p]?.getD undef = .pointer (some ⟨g, 0, none⟩) := by simpa using hp
  simp [results, h, hp', asAddr, hr]
theorem results_txnb {fn : Func} {p q : Tmp} (h : fn.results = #[.cell p 38, .tmp q]) (tmps : Array Value) (w : World) (g : Nat) (cs : Array Value) (f : Value) (hc : cs.size = 2)
    (hp : tmps.getD p undef = .pointer (some ⟨g, 0, none⟩)) (hq : tmps.getD q undef = f) (hg : w.heap[g]? = some (.cells cs 38 (0, 0))) :
    (results fn tmps).run Tryz.prog w = .ok (.tuple #[.agg cs, f]) w := by
  have hi : (Tryz.prog.info? 38).map (·.size) = some cs.size := by rw [hc]; kernel_rfl
  have hr := run_loadVar_row (P := Tryz.prog) w g 38 38 cs (0, 0) _ hg Tryz.underlying38 rfl hi
  have hp' : tmps[p]?.getD undef = .pointer (some ⟨g, 0, none⟩) := by simpa using hp
  have hq' : tmps[q]?.getD undef = f := by simpa using hq
  simp [results, h, hp', hq', asAddr, hr]
end

end Go.Proofs.YtpijjinoeghgoaaGreatDoor
