/- Rows of entries: how they lie; a row behind a row. Rows of entries: what laws.toEnt, toEntS, eqEnt, eqEntS, szEnt, szEntS do. Rows of entries: what laws.toEntS, szEnt, szEntS do. Rows of entries: what laws.szEnt, szEntS, markText do. Marks of texts: what laws.markText answers. Rows of entries: what laws.markEntS does. Rows of entries: what laws.heldEntS does. -/
import Derived.Test.YtchcdgkpaipkgaaGreatDoorRows
import Derived.Test.YtchcdgkpaipkgaaGreatDoorMin
import Derived.Test.YtchcdgkpaipkgaaGreatDoorMa
import Derived.Laws.AppendOwnNone
import Derived.WalkKit
import Derived.WalkSpells
import Derived.WalkLawsBesides
import Derived.Deep.QuietTactic
import Derived.BigQuiet
import Derived.Deep.Onto
import Derived.Lib.QuietBelow
namespace Go.Proofs.YtchcdgkpaipkgaaGreatDoor

section
open Go.RowKit

/-- an entry's cells -/
def encE (e : En) : List Value := [.int .i64 e.hash, .int .i64 e.index, .string e.name, .int .i64 e.id]
theorem encE_len (e : En) : (encE e).length = 4 := rfl
theorem encE_one (e : En) : ∀ v ∈ encE e, v.oneCell' = true := by
  intro v hv
  simp only [encE, List.mem_cons, List.not_mem_nil, or_false] at hv
  rcases hv with rfl | rfl | rfl | rfl <;> rfl
def flatE (l : List En) : List Value := l.flatMap encE
theorem flatE_len (l : List En) : (flatE l).length = l.length * 4 := by
  unfold flatE
  induction l with
  | nil => rfl
  | cons c l ih => rw [List.flatMap_cons, List.length_append, ih, encE_len, List.length_cons]; omega
theorem flatE_append (l m : List En) : flatE (l ++ m) = flatE l ++ flatE m := by simp [flatE]
theorem flatE_cons (e : En) (l : List En) : flatE (e :: l) = encE e ++ flatE l := by simp [flatE]
theorem flatE_one (e : En) : flatE [e] = encE e := by simp [flatE]
theorem flatE_cell (l : List En) (v : Value) (hv : v ∈ flatE l) : v.oneCell' = true := by
  unfold flatE at hv
  obtain ⟨e, _, he⟩ := List.mem_flatMap.1 hv
  exact encE_one e v he
/-- the cells of entry e at place o -/
structure CellsE (w : World) (b o : Nat) (e : En) : Prop where
  c0 : w.cell? ⟨b, o, none⟩ = some (.int .i64 e.hash)
  c1 : w.cell? ⟨b, o + 1, none⟩ = some (.int .i64 e.index)
  c2 : w.cell? ⟨b, o + 2, none⟩ = some (.string e.name)
  c3 : w.cell? ⟨b, o + 3, none⟩ = some (.int .i64 e.id)
theorem flatE_at : ∀ (l : List En) (j : Nat), j < l.length → ∀ t, t < 4 → (flatE l)[j * 4 + t]? = (encE l[j]!)[t]?
  | [], j, h, _, _ => by simp at h
  | e :: l, 0, _, t, ht => by
    rw [flatE_cons, List.getElem?_append_left (by rw [encE_len]; omega), Nat.zero_mul, Nat.zero_add]; rfl
  | e :: l, j + 1, h, t, ht => by
    have ih := flatE_at l j (by simpa using h) t ht
    rw [flatE_cons, List.getElem?_append_right (by rw [encE_len]; omega), encE_len, show (j + 1) * 4 + t - 4 = j * 4 + t by omega, ih]
    rfl

/-- the slice v reads as the entries l -/
def EntsAt (w : World) (v : Value) (l : List En) : Prop :=
  ∃ a cap, v = .slice a l.length cap ∧ (a = none → cap = 0) ∧ ∀ t, t < l.length → ∃ b off, a = some ⟨b, off, none⟩ ∧ b < w.heap.size ∧ CellsE w b (off + t * 4) l[t]!

/-- the slice v is a row of entries that lies from block base on and is the call's own -/
def EntRow (w : World) (base : Nat) (v : Value) (l : List En) : Prop := w.ownsRow base 66 4 v l.length (flatE l)

theorem EntRow.at {w : World} {base : Nat} {v : Value} {l : List En} (h : EntRow w base v l) : EntsAt w v l := by
  rcases h.2 with ⟨rfl, h0⟩ | ⟨g, cap, cur, rfl, hg, hh, hnc, hcp, hcs, htake⟩
  · exact ⟨none, 0, by rw [h0], fun _ => rfl, fun t ht => by omega⟩
  · refine ⟨some ⟨g, 0, none⟩, cap, rfl, fun h => (by cases h), fun t ht => ⟨g, 0, rfl, lt_of_block hh, ?_⟩⟩
    have key : ∀ s, s < 4 → w.cell? ⟨g, 0 + t * 4 + s, none⟩ = (encE l[t]!)[s]? := fun s hs => by
      rw [Nat.zero_add, World.ownsRow.cellAt h _ (by omega), flatE_at l t ht s hs]
    exact ⟨key 0 (by omega), key 1 (by omega), key 2 (by omega), key 3 (by omega)⟩
theorem CellsE.below {w w' : World} {b o : Nat} {e : En} (h : CellsE w b o e) (hl : b < w.heap.size) (hb : Below w.heap.size w w') : CellsE w' b o e :=
  ⟨(hb.cell (p := ⟨b, o, none⟩) hl).trans h.c0, (hb.cell (p := ⟨b, o + 1, none⟩) hl).trans h.c1, (hb.cell (p := ⟨b, o + 2, none⟩) hl).trans h.c2, (hb.cell (p := ⟨b, o + 3, none⟩) hl).trans h.c3⟩
theorem EntsAt.below {w w' : World} {v : Value} {l : List En} (h : EntsAt w v l) (b : Below w.heap.size w w') : EntsAt w' v l := by
  obtain ⟨a, cap, rfl, hn, hc⟩ := h
  refine ⟨a, cap, rfl, hn, fun t ht => ?_⟩
  obtain ⟨bb, off, h1, h2, h3⟩ := hc t ht
  exact ⟨bb, off, h1, Nat.lt_of_lt_of_le h2 b.size, h3.below h2 b⟩
theorem EntRow.below {w w' : World} {base : Nat} {v : Value} {l : List En} (h : EntRow w base v l) (b : Below w.heap.size w w') : EntRow w' base v l :=
  ⟨h.1, by
    rcases h.2 with h0 | ⟨g, cap, cur, e, hg, hh, r⟩
    · exact .inl h0
    · exact .inr ⟨g, cap, cur, e, hg, (b.block g (lt_of_block hh)).trans hh, r⟩⟩
theorem EntRow.mono {w : World} {base base' : Nat} {v : Value} {l : List En} (h : EntRow w base v l) (hb : base' ≤ base) : EntRow w base' v l :=
  ⟨h.1, by
    rcases h.2 with h0 | ⟨g, cap, cur, e, hg, r⟩
    · exact .inl h0
    · exact .inr ⟨g, cap, cur, e, Nat.le_trans hb hg, r⟩⟩

theorem Tryz.infoE : (Tryz.prog.info? 66).map (fun i => (i.zero, i.size, i.bytes)) = some (some (.agg #[.int .i64 0, .int .i64 0, .string ⟨#[]⟩, .int .i64 0]), 4, 40) := by kernel_rfl

/-- a new row that is empty, as the walk has it -/
theorem lit_ents (w : World) : EntRow (w.alloc (.cells #[] 66)) w.heap.size (.slice (some ⟨w.heap.size, 0, none⟩) 0 0) [] :=
  World.ownsRow_lit (base := w.heap.size) (e := 66) (size := 4) w #[] 0 (Nat.le_refl _) (by unfold maxLen; omega) rfl
/-- a new block with one entry -/
theorem one_ent (w : World) (e : En) : EntsAt (w.alloc (.cells #[.int .i64 e.hash, .int .i64 e.index, .string e.name, .int .i64 e.id] 66)) (.slice (some ⟨w.heap.size, 0, none⟩) 1 1) [e] := by
  refine ⟨_, _, rfl, fun h => (by cases h), fun t ht => ⟨w.heap.size, 0, rfl, by simp, ?_⟩⟩
  obtain rfl : t = 0 := by simpa using ht
  refine ⟨?_, ?_, ?_, ?_⟩ <;> rw [World.cell?_alloc_mark] <;> rfl

/-- 'append(out, x...)', out a row of the call's own, x any row of entries -/
theorem append_ents (w : World) {ops : Array Oper} {rest : List Oper} {o : Oper} {a : Act} {Q : Exit → Act → World → Prop} (hgd : o.guard = none) (s x : Operand)
    (ho : o.op = .call { callee := .builtin .append, args := #[s, x], argTypes := #[48, 48] }) (base : Nat)
    (v u : Value) (l m : List En) (hl : l.length + m.length ≤ 1099511627776) (hown : EntRow w base v l) (hu : EntsAt w u m) (hs : a.eval s = v) (hx : a.eval x = u)
    (hbase : base ≤ w.heap.size)
    (h : ∀ v' w', EntRow w' base v' (l ++ m) → Below base w w' → wpList Tryz.prog ops Q rest (a.put o.dst v') w') :
    wpList Tryz.prog ops Q (o :: rest) a w := by
  obtain ⟨i0, hi, hz0, hz1, hz2⟩ := info_parts Tryz.infoE
  obtain ⟨ad, cap, rfl, hn, hc⟩ := hu
  cases ad with
  | none =>
    have hc0 := hn rfl
    have hm : m = [] := by
      cases m with
      | nil => rfl
      | cons e m => obtain ⟨b, off, h1, _⟩ := hc 0 (by simp); cases h1
    subst hm hc0
    refine wpList_append_own_none hgd s x 48 ho base 66 i0 4 Tryz.underlying48 hi v l.length (flatE l) hs hown hx ?_
    refine h v w (by rw [List.append_nil]; exact hown) (Below.refl _ _)
  | some ad =>
    have hcl : ∀ j y, (flatE m)[j]? = some y → w.cell? (ad.add j) = some y := by
      intro j y hy
      have hj : j < m.length * 4 := by
        have := (List.getElem?_eq_some_iff.1 hy).1
        rwa [flatE_len] at this
      obtain ⟨b1, off1, e, _, hcj⟩ := hc (j / 4) (by omega)
      cases e
      have hjj : j = j / 4 * 4 + j % 4 := by omega
      have h4 := flatE_at m (j / 4) (by omega) (j % 4) (by omega)
      rw [← hjj, hy] at h4
      rw [Addr.add_lit, hjj, ← Nat.add_assoc]
      have : j % 4 < 4 := by omega
      generalize j % 4 = s at *
      rcases s with _ | _ | _ | _ | s
      · exact hcj.c0.trans h4.symm
      · exact hcj.c1.trans h4.symm
      · exact hcj.c2.trans h4.symm
      · exact hcj.c3.trans h4.symm
      · omega
    refine wpList_append_own _ hgd s x 48 ho base 66 i0 _ 4 40 Tryz.underlying48 hi hz0 hz1 hz2 rfl (by decide) v l.length (flatE l) hs hown ad m.length cap (flatE m) hx (flatE_len m) hcl (flatE_cell m) (by unfold maxLen; omega) (by omega) hbase ?_
    intro v' w' hown' hgrow _
    refine h v' w' ?_ ?_
    · unfold EntRow
      rw [flatE_append, List.length_append]
      exact hown'
    · refine (Below.refl base w).grown hgrow hbase ?_
      intro k hk
      exact (World.ownsRow.lt hown k hk).1
end

section
open Go.RowKit Go.Sort


set_option maxRecDepth 100000 in
set_option maxHeartbeats 1000000 in
theorem eqEnt_any (a b : En) (w : World) :
    Calls Tryz.prog 64 #[.agg #[.int .i64 a.hash, .int .i64 a.index, .string a.name, .int .i64 a.id], .agg #[.int .i64 b.hash, .int .i64 b.index, .string b.name, .int .i64 b.id]] w fun x w' => x = .returned (.bool (decide (a = b))) ∧ Below w.heap.size w w' := by
  obtain ⟨h, i, s, d⟩ := a
  obtain ⟨h', i', s', d'⟩ := b
  have hb := (below_lit w (.cells #[.int .i64 h, .int .i64 i, .string s, .int .i64 d] 66)).alloc (by simp) (.cells #[.int .i64 h', .int .i64 i', .string s', .int .i64 d'] 66)
  have HR : Hid (∀ r : Bool, (r = true ↔ h = h' ∧ i = i' ∧ s = s' ∧ d = d') → decide ((⟨h, i, s, d⟩ : En) = ⟨h', i', s', d'⟩) = r) := fun r hr => by
    rw [Bool.eq_iff_iff, hr, decide_eq_true_eq, En.mk.injEq]
  dsimp only
  generalize decide ((⟨h, i, s, d⟩ : En) = ⟨h', i', s', d'⟩) = r at HR ⊢
  by_cases e1 : h = h'
  · by_cases e2 : i = i'
    · by_cases e3 : s = s'
      · by_cases e4 : d = d'
        · have f1 : (h != h') = false := by simp [e1]
          have f2 : (i != i') = false := by simp [e2]
          have f3 : (s.toList == s'.toList) = true := by simp [e3]
          have f4 : (d != d') = false := by simp [e4]
          have hr := HR.out true (by simp [e1, e2, e3, e4])
          clear e1 e2 e3 e4
          go_enter Tryz.func64, Tryz.ntmps64
          go_wp2
          go_ret
          exact ⟨by rw [hr]; rfl, hb⟩
        · have f1 : (h != h') = false := by simp [e1]
          have f2 : (i != i') = false := by simp [e2]
          have f3 : (s.toList == s'.toList) = true := by simp [e3]
          have f4 : (d != d') = true := by simp [e4]
          have hr := HR.out false (by simp [e4])
          clear e1 e2 e3 e4
          go_enter Tryz.func64, Tryz.ntmps64
          go_wp2
          go_ret
          exact ⟨by rw [hr]; rfl, hb⟩
      · have f1 : (h != h') = false := by simp [e1]
        have f2 : (i != i') = false := by simp [e2]
        have f3 : (s.toList == s'.toList) = false := by rw [beq_eq_false_iff_ne]; exact fun e => e3 (list_ext (by simpa [ByteArray.toList_eq] using e))
        have hr := HR.out false (by simp [e3])
        clear e1 e2 e3
        go_enter Tryz.func64, Tryz.ntmps64
        go_wp2
        go_ret
        exact ⟨by rw [hr]; rfl, hb⟩
    · have f1 : (h != h') = false := by simp [e1]
      have f2 : (i != i') = true := by simp [e2]
      have hr := HR.out false (by simp [e2])
      clear e1 e2
      go_enter Tryz.func64, Tryz.ntmps64
      go_wp2
      go_ret
      exact ⟨by rw [hr]; rfl, hb⟩
  · have f1 : (h != h') = true := by simp [e1]
    have hr := HR.out false (by simp [e1])
    clear e1
    go_enter Tryz.func64, Tryz.ntmps64
    go_wp2
    go_ret
    exact ⟨by rw [hr]; rfl, hb⟩

theorem ents_ext (l m : List En) (hl : l.length = m.length) (h : ∀ t, t < l.length → l[t]! = m[t]!) : l = m := by
  apply List.ext_getElem hl
  intro t h1 h2
  have := h t h1
  rwa [getElem!_pos l t h1, getElem!_pos m t h2] at this

theorem eqE_any (a b : En) (w : World) (d : Nat) (os : Array Obj) :
    Calls Tryz.prog 64 #[.agg #[.int .i64 a.hash, .int .i64 a.index, .string a.name, .int .i64 a.id], .agg #[.int .i64 b.hash, .int .i64 b.index, .string b.name, .int .i64 b.id]] (grow (redrawn w d) os) fun x w'' => x = .returned (.bool (decide (a = b))) ∧ ∃ p : Regrown, w'' = grow (redrawn w p.d) p.os :=
  Calls.regrown_of (eqEnt_any a b _)

set_option maxRecDepth 100000 in
set_option maxHeartbeats 1000000 in
theorem eqEntS_any (v u : Value) (l m : List En) (w : World) (hl : l.length ≤ 9223372036854775807) (hv : EntsAt w v l) (hu : EntsAt w u m) :
    Calls Tryz.prog 58 #[v, u] w fun e w' => e = .returned (.bool (decide (l = m))) ∧ Below w.heap.size w w' := by
  obtain ⟨a, ca, rfl, -, hva⟩ := hv
  obtain ⟨b, cb, rfl, -, hub⟩ := hu
  by_cases hlen : l.length = m.length
  · have hlen' : (l.length : Int) = (m.length : Int) := by omega
    obtain ⟨n, HN⟩ : ∃ n, Hid (n = m.length) := ⟨_, rfl⟩
    rw [hlen] at hva hl ⊢
    rw [← HN.out] at hva hub hl ⊢
    go_enter Tryz.func58, Tryz.ntmps58
    go_wp2
    go_loopw [5] (fun i wr => ∃ k : Nat, k ≤ n ∧ i = .int .i64 k ∧ Hid (∀ t, t < k → l[t]! = m[t]!) ∧ Below w.heap.size w wr) (fun i _ => n - (intOf i).toNat)
    case atStart => exact ⟨0, Nat.zero_le _, rfl, fun t ht => by omega, Below.refl _ _⟩
    case round =>
      obtain ⟨k, hk, rfl, HEQ, hbel⟩ := hrel
      by_cases hlt : k < n
      · obtain ⟨b1, o1, rfl, hb1, hc1⟩ := hva k hlt
        obtain ⟨b2, o2, rfl, hb2, hc2⟩ := hub k hlt
        have hc1 := hc1.below hb1 hbel
        have hc2 := hc2.below hb2 hbel
        have HX : Hid (l[k]! = m[k]! → ∀ t, t < k + 1 → l[t]! = m[t]!) := fun h t ht => by
          by_cases e : t = k
          · rw [e]; exact h
          · exact HEQ.out t (by omega)
        have HY : Hid (¬ l[k]! = m[k]! → ¬ l = m) := fun h e => h (by rw [e])
        generalize l[k]! = x at hc1 HX HY
        generalize m[k]! = y at hc2 HX HY
        have k0 := cell_regrown hc1.c0
        have k1 := cell_regrown hc1.c1
        have k2 := cell_regrown hc1.c2
        have k3 := cell_regrown hc1.c3
        have j0 := cell_regrown hc2.c0
        have j1 := cell_regrown hc2.c1
        have j2 := cell_regrown hc2.c2
        have j3 := cell_regrown hc2.c3
        have hE := fun d os => eqE_any x y wr d os
        have hkn : (k : Int) < (n : Int) := by omega
        have hk0 : (0 : Int) ≤ (k : Int) := by omega
        clear hva hub hc1 hc2
        by_cases hxy : x = y
        · have hd : decide (x = y) = true := by simp [hxy]
          have HX' : Hid _ := HX.out hxy
          rw [hd] at hE
          clear HX HY hd hxy
          go_wp2
          refine wp_region_quiet_below (by kernel_rfl) (by kernel_rfl) ?_
          repeat (go_big_quiet_step (exact hE _ _))
          refine wpQuiet_nil ?_
          rintro w' ⟨⟨dq, osq⟩, rfl⟩
          have hbq := below_regrown wr dq osq
          generalize grow (redrawn wr dq) osq = w4 at hbq ⊢
          go_wp2
          go_roundw
          case rel => exact ⟨k + 1, by omega, by go_num, HX'.out, hbel.trans (hbq.mono hbel.size)⟩
          case measure => simp [intOf]; omega
        · have hd : decide (x = y) = false := by simp [hxy]
          have HY' : Hid _ := HY.out hxy
          rw [hd] at hE
          clear HX HY hd hxy
          go_wp2
          refine wp_region_quiet_below (by kernel_rfl) (by kernel_rfl) ?_
          repeat (go_big_quiet_step (exact hE _ _))
          refine wpQuiet_nil ?_
          rintro w' ⟨⟨dq, osq⟩, rfl⟩
          have hbq := below_regrown wr dq osq
          generalize grow (redrawn wr dq) osq = w4 at hbq ⊢
          go_wp2
          go_ret
          exact ⟨by rw [decide_eq_false HY'.out]; rfl, hbel.trans (hbq.mono hbel.size)⟩
      · obtain rfl : k = n := by omega
        go_wp2
        go_ret
        refine ⟨?_, hbel⟩
        have : l = m := ents_ext l m hlen (fun t ht => HEQ.out t (by rw [HN.out]; omega))
        simp [this]
  · have hne : ((l.length : Int) != (m.length : Int)) = true := by simp; omega
    have hneq : ¬ l = m := fun e => hlen (by rw [e])
    go_enter Tryz.func58, Tryz.ntmps58
    go_wp2
    go_ret
    exact ⟨by simp [hneq], Below.refl _ _⟩
end

section
open Go.RowKit Go.Sort

theorem own_below {w w' : World} {base size n : Nat} {e : TypeId} {v : Value} {xs : List Value} (h : w.ownsRow base e size v n xs) (b : Below w.heap.size w w') : w'.ownsRow base e size v n xs :=
  ⟨h.1, by
    rcases h.2 with h0 | ⟨g, cap, cur, e, hg, hh, r⟩
    · exact .inl h0
    · exact .inr ⟨g, cap, cur, e, hg, (b.block g (lt_of_block hh)).trans hh, r⟩⟩
theorem flatE_set : ∀ (l : List En) (t : Nat) (e : En), t < l.length → ((((flatE l).set (t * 4) (.int .i64 e.hash)).set (t * 4 + 1) (.int .i64 e.index)).set (t * 4 + 2) (.string e.name)).set (t * 4 + 3) (.int .i64 e.id) = flatE (l.set t e)
  | [], t, e, h => by simp at h
  | x :: l, 0, e, _ => by simp [flatE_cons, encE]
  | x :: l, t + 1, e, h => by
    have ih := flatE_set l t e (by simpa using h)
    rw [List.set_cons_succ, flatE_cons, flatE_cons, ← ih]
    simp only [encE, List.cons_append, List.nil_append]
    rw [show (t + 1) * 4 = t * 4 + 1 + 1 + 1 + 1 by omega]
    simp only [List.set_cons_succ]

/-- the four cells of one entry of a row of the call's own written anew -/
theorem row_put {w : World} {base g n cap : Nat} {l : List En} (h : w.ownsRow base 66 4 (.slice (some ⟨g, 0, none⟩) n cap) n (flatE l)) (t : Nat) (ht : t < l.length) (e : En) :
    ((((w.setCell ⟨g, t * 4, none⟩ (.int .i64 e.hash)).setCell ⟨g, t * 4 + 1, none⟩ (.int .i64 e.index)).setCell ⟨g, t * 4 + 2, none⟩ (.string e.name)).setCell ⟨g, t * 4 + 3, none⟩ (.int .i64 e.id)).ownsRow base 66 4 (.slice (some ⟨g, 0, none⟩) n cap) n (flatE (l.set t e)) := by
  have h1 := (h.stored (t * 4) (.int .i64 e.hash)).1
  have h2 := (h1.stored (t * 4 + 1) (.int .i64 e.index)).1
  have h3 := (h2.stored (t * 4 + 2) (.string e.name)).1
  have h4 := (h3.stored (t * 4 + 3) (.int .i64 e.id)).1
  rw [flatE_set l t e ht] at h4
  exact h4
/-- each of its cells is there and may be written -/
theorem row_cells {w : World} {base g n cap : Nat} {xs : List Value} (h : w.ownsRow base 66 4 (.slice (some ⟨g, 0, none⟩) n cap) n xs) (t : Nat) (ht : t < n * 4) : (∃ u, w.cell? ⟨g, t, none⟩ = some u) ∧ w.frozen? ⟨g, t, none⟩ = false :=
  ⟨⟨_, (h.cellAt t ht).trans (List.getElem?_eq_getElem (by have := h.1; omega))⟩, h.frozenAt t⟩

/-- the first j of l, then empty ones -/
def fillE (j : Nat) (l : List En) : List En := l.take j ++ List.replicate (l.length - j) default
theorem fillE_len (j : Nat) (l : List En) : (fillE j l).length = l.length := by unfold fillE; simp; omega
theorem fillE_step (j : Nat) (l : List En) (h : j < l.length) : (fillE j l).set j l[j]! = fillE (j + 1) l := by
  have e : min j l.length = j := by omega
  unfold fillE
  rw [List.set_append_right _ _ (by rw [List.length_take, e]; exact Nat.le_refl _), List.take_succ_eq_append_getElem h, getElem!_pos l j h, List.length_take, e, Nat.sub_self]
  rw [show l.length - j = (l.length - (j + 1)) + 1 by omega, List.replicate_succ, List.set_cons_zero, List.append_assoc]
  rfl
theorem flatE_zero (n : Nat) : (madeCells #[.int .i64 0, .int .i64 0, .string ⟨#[]⟩, .int .i64 0] (n * 4)).toList = flatE (List.replicate n default) := by
  apply List.ext_getElem?
  intro j
  by_cases hj : j < n * 4
  · have h1 := flatE_at (List.replicate n default) (j / 4) (by simp; omega) (j % 4) (by omega)
    have h2 : (List.replicate n (default : En))[j / 4]! = default := by
      rw [getElem!_pos _ _ (by simp; omega)]; simp
    rw [h2, show j / 4 * 4 + j % 4 = j by omega] at h1
    rw [h1]
    simp only [madeCells, Array.toList_map, List.getElem?_map, Array.toList_range, List.getElem?_range hj, Option.map_some]
    have : j % 4 < 4 := by omega
    show some (#[Value.int .i64 0, .int .i64 0, .string ⟨#[]⟩, .int .i64 0][j % 4]!) = _
    generalize j % 4 = s at *
    rcases s with _ | _ | _ | _ | s
    · rfl
    · rfl
    · rfl
    · rfl
    · omega
  · rw [List.getElem?_eq_none (by rw [Array.length_toList, size_madeCells]; omega), List.getElem?_eq_none (by rw [flatE_len]; simp; omega)]
end

section
open Go.RowKit Go.Sort
end

section
open Go.RowKit

def digs (k : Nat) (acc : List UInt8) : List UInt8 := if k = 0 then acc else digs (k / 10) (UInt8.ofNat (48 + k % 10) :: acc)
  termination_by k
  decreasing_by omega
theorem digs_zero (acc : List UInt8) : digs 0 acc = acc := by unfold digs; rfl
theorem digs_pos {k : Nat} (h : 0 < k) (acc : List UInt8) : digs k acc = digs (k / 10) (UInt8.ofNat (48 + k % 10) :: acc) := by
  rw [digs, if_neg (by omega)]
def mkT (k : Nat) : ByteArray := ⟨(109 :: digs k []).toArray⟩

set_option maxRecDepth 100000 in
set_option maxHeartbeats 1000000 in
theorem markText_any (k : Nat) (w : World) (h0 : 0 < k) (h1 : k ≤ 1000000000) :
    Calls Tryz.prog 37 #[.int .i64 k] w fun e w' => e = .returned (.string (mkT k)) ∧ Below w.heap.size w w' := by
  have hk : ¬ ((k : Int) ≤ 0) := by omega
  go_enter Tryz.func37, Tryz.ntmps37
  go_wp2
  go_loopw [0, 3] (fun q sv wr => ∃ (m : Nat) (l : List UInt8), m + l.length ≤ k ∧ q = .int .i64 m ∧ sv = .string ⟨l.toArray⟩ ∧ Hid (digs m l = digs k []) ∧ Below w.heap.size w wr) (fun q _ _ => (intOf q).toNat)
  case atStart => exact ⟨k, [], by simp, rfl, rfl, rfl, Below.refl _ _⟩
  case round =>
    obtain ⟨m, l, hm, rfl, rfl, HD, hbel⟩ := hrel
    by_cases hlt : 0 < m
    · have hm0 : (0 : Int) < (m : Int) := by omega
      have HG : Hid (digs (m / 10) (UInt8.ofNat (48 + m % 10) :: l) = digs k []) := by show _ = _; rw [← digs_pos hlt]; exact HD.out
      have hcv := one_string (P := Tryz.prog) wr (E := 5) (S := 63) (T := 9) (48 + (m : Int) % 10) (by omega) (by omega) Tryz.underlying63 Tryz.underlying5 Tryz.underlying9
      have hbl := below_lit wr (.cells #[.int .u8 (48 + (m : Int) % 10)] 5)
      go_wp2
      refine ⟨⟨m / 10, UInt8.ofNat (48 + m % 10) :: l, by simp; omega, by go_num, ?_, HG.out, hbel.trans (hbl.mono hbel.size)⟩, by simp [intOf]; omega⟩
      refine congrArg Value.string (list_ext ?_)
      simp [UInt8.ofNat_add]
    · have hm1 : m = 0 := by omega
      have HE : Hid (l = digs k []) := by show _ = _; rw [← HD.out, hm1, digs_zero]
      have hm0 : ¬ ((0 : Int) < (m : Int)) := by omega
      clear hm1
      go_wp2
      go_ret
      refine ⟨?_, hbel⟩
      rw [HE.out]
      refine congrArg (fun x => Ending.returned (Value.string x)) (list_ext ?_)
      simp [mkT]
end

section
open Go.RowKit

theorem markText_at (z : Int) (k : Nat) (hz : z = (k : Int)) (w : World) (h0 : 0 < k) (h1 : k ≤ 1000000000) :
    Calls Tryz.prog 37 #[.int .i64 z] w fun e w' => e = .returned (.string (mkT k)) ∧ Below w.heap.size w w' := by
  rw [hz]; exact markText_any k w h0 h1
theorem gb_belowE {w w' : World} {g : Nat} (b : Below w.heap.size w w') : w.grownBy w' (some g) := ⟨b.os, b.tape, b.output, b.size, fun k hk _ => b.block k hk⟩

/-- the marked entry whose first number is m -/
def mkE (m : Nat) : En := ⟨m, m + 1, mkT (m + 2), m + 3⟩
def marksE (k : Nat) : Nat → List En
  | 0 => []
  | n + 1 => marksE k n ++ [mkE (k + 4 * n)]
theorem marksE_len (k n : Nat) : (marksE k n).length = n := by
  induction n with
  | zero => rfl
  | succ n ih => simp [marksE, ih]
def markdE (k j : Nat) (l : List En) : List En := marksE k j ++ l.drop j
theorem markdE_len {k j : Nat} {l : List En} (h : j ≤ l.length) : (markdE k j l).length = l.length := by
  simp [markdE, marksE_len]; omega
theorem markdE_step {k j : Nat} {l : List En} (h : j < l.length) : (markdE k j l).set j (mkE (k + 4 * j)) = markdE k (j + 1) l := by
  unfold markdE
  rw [List.set_append_right _ _ (by rw [marksE_len]; exact Nat.le_refl _), marksE_len, Nat.sub_self, List.drop_eq_getElem_cons h, List.set_cons_zero]
  simp [marksE]
theorem markdE_all (k : Nat) (l : List En) : markdE k l.length l = marksE k l.length := by simp [markdE]

set_option maxRecDepth 100000 in
set_option maxHeartbeats 1000000 in
theorem markEntS_any (v : Value) (l : List En) (k : Nat) (base : Nat) (w : World) (hv : EntRow w base v l) (hl : l.length ≤ 1048577) (hk0 : 0 < k) (hk1 : k ≤ 100000000) :
    Calls Tryz.prog 52 #[v, .int .i64 k] w fun e w' => e = .returned (.int .i64 ((k + 4 * l.length : Nat) : Int)) ∧ EntRow w' base v (marksE k l.length) ∧ w.grownBy w' v.ownBlock := by
  rcases hv.2 with ⟨rfl, h0⟩ | ⟨g, cap, cur, rfl, hg, hh, hnc, hcp, hcs, htake⟩
  · obtain rfl : l = [] := List.length_eq_zero_iff.1 h0
    go_enter Tryz.func52, Tryz.ntmps52
    go_wp2
    refine wp_loop_rounds 1 ?_
    rw [rounds_succ]
    go_wp2
    go_ret
    exact ⟨by simp, hv, ⟨rfl, rfl, rfl, Nat.le_refl _, fun _ _ _ => rfl⟩⟩
  · obtain ⟨n, HN⟩ : ∃ n, Hid (n = l.length) := ⟨_, rfl⟩
    have hv1 : w.ownsRow base 66 4 (.slice (some ⟨g, 0, none⟩) n cap) n (flatE (markdE k 0 l)) := by
      have : markdE k 0 l = l := by simp [markdE, marksE]
      rw [this, HN.out]; exact hv
    have HM : Hid (∀ j, j < n → (markdE k j l).set j (mkE (k + 4 * j)) = markdE k (j + 1) l) := fun j hj => markdE_step (by rw [← HN.out]; exact hj)
    have HLN : Hid (∀ j, j ≤ n → (markdE k j l).length = n) := fun j hj => by rw [HN.out] at hj ⊢; exact markdE_len hj
    have HE : Hid (markdE k n l = marksE k l.length) := by show _ = _; rw [HN.out]; exact markdE_all k l
    clear hv hh hcs htake
    rw [← HN.out] at hl hnc ⊢
    go_enter Tryz.func52, Tryz.ntmps52
    go_wp2
    go_loopw [1, 5] (fun q i wr => ∃ (j m : Nat), j ≤ n ∧ i = .int .i64 j ∧ q = .int .i64 m ∧ Hid (m = k + 4 * j) ∧ wr.ownsRow base 66 4 (.slice (some ⟨g, 0, none⟩) n cap) n (flatE (markdE k j l)) ∧ w.grownBy wr (some g)) (fun _ i _ => n - (intOf i).toNat)
    case atStart => exact ⟨0, k, Nat.zero_le _, rfl, rfl, rfl, hv1, ⟨rfl, rfl, rfl, Nat.le_refl _, fun _ _ _ => rfl⟩⟩
    case round =>
      obtain ⟨j, m, hj, rfl, rfl, HMM, hown, hgb⟩ := hrel
      have hm0 : 0 < m := by have := HMM.out; omega
      have hm1 : m ≤ 200000000 := by have := HMM.out; omega
      by_cases hlt : j < n
      · obtain ⟨⟨u0, d0⟩, f0⟩ := row_cells hown (j * 4) (by omega)
        obtain ⟨⟨u1, d1⟩, f1⟩ := row_cells hown (j * 4 + 1) (by omega)
        have hs0 := (hown.stored (j * 4) (.int .i64 (m : Int))).1
        have hs1 := (hs0.stored (j * 4 + 1) (.int .i64 ((m : Int) + 1))).1
        have HP : Hid (∀ w3, Below _ ((wr.setCell ⟨g, j * 4, none⟩ (.int .i64 (m : Int))).setCell ⟨g, j * 4 + 1, none⟩ (.int .i64 ((m : Int) + 1))) w3 → (((w3.setCell ⟨g, j * 4 + 2, none⟩ (.string (mkT (m + 2)))).setCell ⟨g, j * 4 + 3, none⟩ (.int .i64 ((m : Int) + 1 + 1 + 1))).ownsRow base 66 4 (.slice (some ⟨g, 0, none⟩) n cap) n (flatE (markdE k (j + 1) l))) ∧ (∀ t, t < n * 4 → (∃ u, w3.cell? ⟨g, t, none⟩ = some u) ∧ w3.frozen? ⟨g, t, none⟩ = false)) := fun w3 hb => by
          have h3 := own_below hs1 hb
          refine ⟨?_, fun t ht => row_cells h3 t ht⟩
          have h4 := (h3.stored (j * 4 + 2) (.string (mkT (m + 2)))).1
          have h5 := (h4.stored (j * 4 + 3) (.int .i64 ((m : Int) + 3))).1
          have e := flatE_set (markdE k j l) j (mkE m) (by rw [HLN.out j hj]; exact hlt)
          rw [← HM.out j hlt, ← HMM.out, ← e, show (m : Int) + 1 + 1 + 1 = (m : Int) + 3 by omega]
          exact h5
        have hw1 : IntKind.i64.wrap ((m : Int) + 1) = (m : Int) + 1 := by rw [IntKind.wrap_i64]; omega
        have HT := fun w' => markText_at ((m : Int) + 1 + 1) (m + 2) (by omega) w' (by omega) (by omega)
        have hgb2 := gbi_trans (gbi_trans hgb (gbi_set wr g (j * 4) (.int .i64 (m : Int)))) (gbi_set _ g (j * 4 + 1) (.int .i64 ((m : Int) + 1)))
        have HGB : Hid _ := hgb2
        clear hs0 hs1 hown hgb2
        go_wp2_with (go_at_call 37; refine (HT _).mono ?_; rintro e w3 ⟨rfl, b3⟩; obtain ⟨h3, hcc⟩ := HP.out w3 b3; obtain ⟨⟨u2, d2⟩, f2⟩ := hcc (j * 4 + 2) (by omega); obtain ⟨⟨u3, d3⟩, f3⟩ := hcc (j * 4 + 3) (by omega); have HS : Hid _ := h3; clear h3 hcc)
        go_roundw
        case rel => exact ⟨j + 1, m + 4, by omega, by go_num, by go_num, by show m + 4 = _; rw [HMM.out]; omega, HS.out, gbi_trans (gbi_trans (gbi_trans HGB.out (gb_belowE b3)) (gbi_set _ _ _ _)) (gbi_set _ _ _ _)⟩
        case measure => simp [intOf]; omega
      · obtain rfl : n = j := by omega
        rw [HE.out] at hown
        go_wp2
        go_ret
        refine ⟨by rw [HMM.out]; rfl, ?_, hgb⟩
        rw [← HN.out] at hown
        unfold EntRow
        rw [marksE_len]
        exact hown
end

section
open Go.RowKit Go.Sort

theorem marksE_get (k n t : Nat) (h : t < n) : (marksE k n)[t]! = mkE (k + 4 * t) := by
  induction n with
  | zero => omega
  | succ n ih =>
    rw [getElem!_pos _ _ (by rw [marksE_len]; exact h)]
    simp only [marksE]
    by_cases ht : t < n
    · rw [List.getElem_append_left (by rw [marksE_len]; exact ht), ← ih ht, getElem!_pos _ _ (by rw [marksE_len]; exact ht)]
    · obtain rfl : t = n := by omega
      rw [List.getElem_append_right (by rw [marksE_len]; exact Nat.le_refl _)]
      simp [marksE_len]

set_option maxRecDepth 100000 in
set_option maxHeartbeats 1000000 in
theorem heldEntS_marks (v : Value) (n k : Nat) (w : World) (hn : n ≤ 1048577) (hk0 : 0 < k) (hk1 : k ≤ 100000000) (hv : EntsAt w v (marksE k n)) :
    Calls Tryz.prog 53 #[v, .int .i64 k] w fun e w' => e = .returned (.int .i64 ((k + 4 * n : Nat) : Int)) ∧ Below w.heap.size w w' := by
  obtain ⟨a, cap, rfl, -, hva⟩ := hv
  rw [marksE_len] at hva ⊢
  have HV : Hid (∀ t, t < n → ∃ b off, a = some ⟨b, off, none⟩ ∧ b < w.heap.size ∧ CellsE w b (off + t * 4) (mkE (k + 4 * t))) := fun t ht => by
    obtain ⟨b, off, h1, h2, h3⟩ := hva t ht
    rw [marksE_get k n t ht] at h3
    exact ⟨b, off, h1, h2, h3⟩
  clear hva
  go_enter Tryz.func53, Tryz.ntmps53
  go_wp2
  go_loopw [1, 5] (fun q i wr => ∃ (j m : Nat), j ≤ n ∧ i = .int .i64 j ∧ q = .int .i64 m ∧ Hid (m = k + 4 * j) ∧ Below w.heap.size w wr) (fun _ i _ => n - (intOf i).toNat)
  case atStart => exact ⟨0, k, Nat.zero_le _, rfl, rfl, rfl, Below.refl _ _⟩
  case round =>
    obtain ⟨j, m, hj, rfl, rfl, HMM, hbel⟩ := hrel
    have hm0 : 0 < m := by have := HMM.out; omega
    have hm1 : m ≤ 200000000 := by have := HMM.out; omega
    by_cases hlt : j < n
    · obtain ⟨b, off, rfl, hb, hc⟩ := HV.out j hlt
      rw [← HMM.out] at hc
      have hc1 := hc.below hb hbel
      have k0 := hc1.c0
      have k1 := hc1.c1
      have k2 := hc1.c2
      have k3 := hc1.c3
      dsimp only [mkE] at k0 k1 k2 k3
      have HC : Hid (∀ w', Below wr.heap.size wr w' → w'.cell? ⟨b, off + j * 4 + 3, none⟩ = some (.int .i64 ((m : Int) + 3))) := fun w' hb' => (hc.below hb (hbel.trans (hb'.mono hbel.size))).c3
      have HT : ∀ (dd : Nat) (os : Array Obj), Calls Tryz.prog 37 #[.int .i64 ((m : Int) + 1 + 1)] (grow (redrawn wr dd) os) fun e w'' => e = .returned (.string (mkT (m + 2))) ∧ ∃ p : Regrown, w'' = grow (redrawn wr p.d) p.os := fun dd os => Calls.regrown_of (markText_at ((m : Int) + 1 + 1) (m + 2) (by omega) _ (by omega) (by omega))
      have q2 := cell_regrown k2
      generalize mkT (m + 2) = tx at k2 q2 HT
      have hj0 : (0 : Int) ≤ (j : Int) := by omega
      have hjn : (j : Int) < (n : Int) := by omega
      have h3 : ((m : Int) + 3 != (m : Int) + 1 + 1 + 1) = false := by simp; omega
      clear hc hc1
      go_wp2
      refine wp_region_quiet_below (by kernel_rfl) (by kernel_rfl) ?_
      repeat (go_big_quiet_step (exact HT _ _))
      refine wpQuiet_nil ?_
      rintro w' ⟨⟨dq, osq⟩, rfl⟩
      have hbq := below_regrown wr dq osq
      generalize grow (redrawn wr dq) osq = w3 at hbq ⊢
      have d3 := HC.out w3 hbq
      go_wp2
      go_roundw
      case rel => exact ⟨j + 1, m + 4, by omega, by go_num, by go_num, by show m + 4 = _; rw [HMM.out]; omega, hbel.trans (hbq.mono hbel.size)⟩
      case measure => simp [intOf]; omega
    · obtain rfl : n = j := by omega
      go_wp2
      go_ret
      exact ⟨by rw [HMM.out]; rfl, hbel⟩
end

end Go.Proofs.YtchcdgkpaipkgaaGreatDoor
