/- Rows of entries: how they lie; a row behind a row. Rows of entries: what laws.toEnt, toEntS, eqEnt, eqEntS, szEnt, szEntS do. Rows of entries: what laws.toEntS, szEnt, szEntS do. Rows of entries: what laws.szEnt, szEntS, markText do. Marks of texts: what laws.markText answers. Rows of entries: what laws.markEntS does. Rows of entries: what laws.heldEntS does. -/
import Derived.Test.YtnfbnnbkhihfjaaDoorRows
import Derived.Test.YtnfbnnbkhihfjaaDoorMin
import Derived.Test.YtnfbnnbkhihfjaaDoorMa
import Derived.Laws.AppendOwnNone
import Derived.WalkKit
import Derived.WalkSpells
import Derived.WalkLawsBesides
import Derived.Deep.QuietTactic
import Derived.BigQuiet
import Derived.Deep.Onto
import Derived.Lib.QuietBelow
namespace Go.Proofs.YtnfbnnbkhihfjaaDoor

section
open Go.RowKit

/-- an entry's cells -/
def encE (e : En) : List Value := [.int .i64 e.hash, .int .i64 e.index, .string e.name, .int .i64 e.id]
theorem encE_len (e : En) : (encE e).length = 4 := rfl
theorem encE_one (e : En) : ∀ v ∈ encE e, v.oneCell' = true := by
  intro v hv
  simp only [encE, List.mem_cons, List.not_mem_nil, or_false] at hv
  rcases hv with rfl | rfl | rfl | rfl <;> rfl
def flatE (l : List En) : List Value := l.flatMap encE
theorem flatE_len (l : List En) : (flatE l).length = l.length * 4 := by
  unfold flatE
  induction l with
  | nil => rfl
  | cons c l ih => rw [List.flatMap_cons, List.length_append, ih, encE_len, List.length_cons]; omega
theorem flatE_append (l m : List En) : flatE (l ++ m) = flatE l ++ flatE m := by simp [flatE]
theorem flatE_cons (e : En) (l : List En) : flatE (e :: l) = encE e ++ flatE l := by simp [flatE]
theorem flatE_one (e : En) : flatE [e] = encE e := by simp [flatE]
theorem flatE_cell (l : List En) (v : Value) (hv : v ∈ flatE l) : v.oneCell' = true := by
  unfold flatE at hv
  obtain ⟨e, _, he⟩ := List.mem_flatMap.1 hv
  exact encE_one e v he
/-- the cells of entry e at place o -/
structure CellsE (w : World) (b o : Nat) (e : En) : Prop where
  c0 : w.cell? ⟨b, o, none⟩ = some (.int .i64 e.hash)
  c1 : w.cell? ⟨b, o + 1, none⟩ = some (.int .i64 e.index)
  c2 : w.cell? ⟨b, o + 2, none⟩ = some (.string e.name)
  c3 : w.cell? ⟨b, o + 3, none⟩ = some (.int .i64 e.id)
theorem flatE_at : ∀ (l : List En) (j : Nat), j < l.length → ∀ t, t < 4 → (flatE l)[j * 4 + t]? = (encE l[j]!)[t]?
  | [], j, h, _, _ => by simp at h
  | e :: l, 0, _, t, ht => by
    rw [flatE_cons, List.getElem?_append_left (by rw [encE_len]; omega), Nat.zero_mul, Nat.zero_add]; rfl
  | e :: l, j + 1, h, t, ht => by
    have ih := flatE_at l j (by simpa using h) t ht
    rw [flatE_cons, List.getElem?_append_right (by rw [encE_len]; omega), encE_len, show (j + 1) * 4 + t - 4 = j * 4 + t by omega, ih]
    rfl

/-- the slice v reads as the entries l -/
def EntsAt (w : World) (v : Value) (l : List En) : Prop :=
  ∃ a cap, v = .slice a l.length cap ∧ (a = none → cap = 0) ∧ ∀ t, t < l.length → ∃ b off, a = some ⟨b, off, none⟩ ∧ b < w.heap.size ∧ CellsE w b (off + t * 4) l[t]!

/-- the slice v is a row of entries that lies from block base on and is the call's own -/
def EntRow (w : World) (base : Nat) (v : Value) (l : List En) : Prop := w.ownsRow base 43 4 v l.length (flatE l)

theorem EntRow.at {w : World} {base : Nat} {v : Value} {l : List En} (h : EntRow w base v l) : EntsAt w v l := by
  rcases h.2 with ⟨rfl, h0⟩ | ⟨g, cap, cur, rfl, hg, hh, hnc, hcp, hcs, htake⟩
  · exact ⟨none, 0, by rw [h0], fun _ => rfl, fun t ht => by omega⟩
  · refine ⟨some ⟨g, 0, none⟩, cap, rfl, fun h => (by cases h), fun t ht => ⟨g, 0, rfl, lt_of_block hh, ?_⟩⟩
    have key : ∀ s, s < 4 → w.cell? ⟨g, 0 + t * 4 + s, none⟩ = (encE l[t]!)[s]? := fun s hs => by
      rw [Nat.zero_add, World.ownsRow.cellAt h _ (by omega), flatE_at l t ht s hs]
    exact ⟨key 0 (by omega), key 1 (by omega), key 2 (by omega), key 3 (by omega)⟩
theorem CellsE.below {w w' : World} {b o : Nat} {e : En} (h : CellsE w b o e) (hl : b < w.heap.size) (hb : Below w.heap.size w w') : CellsE w' b o e :=
  ⟨(hb.cell (p := ⟨b, o, none⟩) hl).trans h.c0, (hb.cell (p := ⟨b, o + 1, none⟩) hl).trans h.c1, (hb.cell (p := ⟨b, o + 2, none⟩) hl).trans h.c2, (hb.cell (p := ⟨b, o + 3, none⟩) hl).trans h.c3⟩
theorem EntsAt.below {w w' : World} {v : Value} {l : List En} (h : EntsAt w v l) (b : Below w.heap.size w w') : EntsAt w' v l := by
  obtain ⟨a, cap, rfl, hn, hc⟩ := h
  refine ⟨a, cap, rfl, hn, fun t ht => ?_⟩
  obtain ⟨bb, off, h1, h2, h3⟩ := hc t ht
  exact ⟨bb, off, h1, Nat.lt_of_lt_of_le h2 b.size, h3.below h2 b⟩
theorem EntRow.below {w w' : World} {base : Nat} {v : Value} {l : List En} (h : EntRow w base v l) (b : Below w.heap.size w w') : EntRow w' base v l :=
  ⟨h.1, by
    rcases h.2 with h0 | ⟨g, cap, cur, e, hg, hh, r⟩
    · exact .inl h0
    · exact .inr ⟨g, cap, cur, e, hg, (b.block g (lt_of_block hh)).trans hh, r⟩⟩
theorem EntRow.mono {w : World} {base base' : Nat} {v : Value} {l : List En} (h : EntRow w base v l) (hb : base' ≤ base) : EntRow w base' v l :=
  ⟨h.1, by
    rcases h.2 with h0 | ⟨g, cap, cur, e, hg, r⟩
    · exact .inl h0
    · exact .inr ⟨g, cap, cur, e, Nat.le_trans hb hg, r⟩⟩

theorem Tryd.infoE : (Tryd.prog.info? 43).map (fun i => (i.zero, i.size, i.bytes)) = some (some (.agg #[.int .i64 0, .int .i64 0, .string ⟨#[]⟩, .int .i64 0]), 4, 40) := by kernel_rfl

/-- a new row that is empty, as the walk has it -/
theorem lit_ents (w : World) : EntRow (w.alloc (.cells #[] 43)) w.heap.size (.slice (some ⟨w.heap.size, 0, none⟩) 0 0) [] :=
  World.ownsRow_lit (base := w.heap.size) (e := 43) (size := 4) w #[] 0 (Nat.le_refl _) (by unfold maxLen; omega) rfl
/-- a new block with one entry -/
theorem one_ent (w : World) (e : En) : EntsAt (w.alloc (.cells #[.int .i64 e.hash, .int .i64 e.index, .string e.name, .int .i64 e.id] 43)) (.slice (some ⟨w.heap.size, 0, none⟩) 1 1) [e] := by
  refine ⟨_, _, rfl, fun h => (by cases h), fun t ht => ⟨w.heap.size, 0, rfl, by simp, ?_⟩⟩
  obtain rfl : t = 0 := by simpa using ht
  refine ⟨?_, ?_, ?_, ?_⟩ <;> rw [World.cell?_alloc_mark] <;> rfl

/-- 'append(out, x...)', out a row of the call's own, x any row of entries -/
theorem append_ents (w : World) {ops : Array Oper} {rest : List Oper} {o : Oper} {a : Act} {Q : Exit → Act → World → Prop} (hgd : o.guard = none) (s x : Operand)
    (ho : o.op = .call { callee := .builtin .append, args := #[s, x], argTypes := #[34, 34] }) (base : Nat)
    (v u : Value) (l m : List En) (hl : l.length + m.length ≤ 1099511627776) (hown : EntRow w base v l) (hu : EntsAt w u m) (hs : a.eval s = v) (hx : a.eval x = u)
    (hbase : base ≤ w.heap.size)
    (h : ∀ v' w', EntRow w' base v' (l ++ m) → Below base w w' → wpList Tryd.prog ops Q rest (a.put o.dst v') w') :
    wpList Tryd.prog ops Q (o :: rest) a w := by
  obtain ⟨i0, hi, hz0, hz1, hz2⟩ := info_parts Tryd.infoE
  obtain ⟨ad, cap, rfl, hn, hc⟩ := hu
  cases ad with
  | none =>
    have hc0 := hn rfl
    have hm : m = [] := by
      cases m with
      | nil => rfl
      | cons e m => obtain ⟨b, off, h1, _⟩ := hc 0 (by simp); cases h1
    subst hm hc0
    refine wpList_append_own_none hgd s x 34 ho base 43 i0 4 Tryd.underlying34 hi v l.length (flatE l) hs hown hx ?_
    refine h v w (by rw [List.append_nil]; exact hown) (Below.refl _ _)
  | some ad =>
    have hcl : ∀ j y, (flatE m)[j]? = some y → w.cell? (ad.add j) = some y := by
      intro j y hy
      have hj : j < m.length * 4 := by
        have := (List.getElem?_eq_some_iff.1 hy).1
        rwa [flatE_len] at this
      obtain ⟨b1, off1, e, _, hcj⟩ := hc (j / 4) (by omega)
      cases e
      have hjj : j = j / 4 * 4 + j % 4 := by omega
      have h4 := flatE_at m (j / 4) (by omega) (j % 4) (by omega)
      rw [← hjj, hy] at h4
      rw [Addr.add_lit, hjj, ← Nat.add_assoc]
      have : j % 4 < 4 := by omega
      generalize j % 4 = s at *
      rcases s with _ | _ | _ | _ | s
      · exact hcj.c0.trans h4.symm
      · exact hcj.c1.trans h4.symm
      · exact hcj.c2.trans h4.symm
      · exact hcj.c3.trans h4.symm
      · omega
    refine wpList_append_own _ hgd s x 34 ho base 43 i0 _ 4 40 Tryd.underlying34 hi hz0 hz1 hz2 rfl (by decide) v l.length (flatE l) hs hown ad m.length cap (flatE m) hx (flatE_len m) hcl (flatE_cell m) (by unfold maxLen; omega) (by omega) hbase ?_
    intro v' w' hown' hgrow _
    refine h v' w' ?_ ?_
    · unfold EntRow
      rw [flatE_append, List.length_append]
      exact hown'
    · refine (Below.refl base w).grown hgrow hbase ?_
      intro k hk
      exact (World.ownsRow.lt hown k hk).1
end

section
open Go.RowKit Go.Sort



theorem ents_ext (l m : List En) (hl : l.length = m.length) (h : ∀ t, t < l.length → l[t]! = m[t]!) : l = m := by
  apply List.ext_getElem hl
  intro t h1 h2
  have := h t h1
  rwa [getElem!_pos l t h1, getElem!_pos m t h2] at this
end

section
open Go.RowKit Go.Sort

theorem own_below {w w' : World} {base size n : Nat} {e : TypeId} {v : Value} {xs : List Value} (h : w.ownsRow base e size v n xs) (b : Below w.heap.size w w') : w'.ownsRow base e size v n xs :=
  ⟨h.1, by
    rcases h.2 with h0 | ⟨g, cap, cur, e, hg, hh, r⟩
    · exact .inl h0
    · exact .inr ⟨g, cap, cur, e, hg, (b.block g (lt_of_block hh)).trans hh, r⟩⟩
theorem flatE_set : ∀ (l : List En) (t : Nat) (e : En), t < l.length → ((((flatE l).set (t * 4) (.int .i64 e.hash)).set (t * 4 + 1) (.int .i64 e.index)).set (t * 4 + 2) (.string e.name)).set (t * 4 + 3) (.int .i64 e.id) = flatE (l.set t e)
  | [], t, e, h => by simp at h
  | x :: l, 0, e, _ => by simp [flatE_cons, encE]
  | x :: l, t + 1, e, h => by
    have ih := flatE_set l t e (by simpa using h)
    rw [List.set_cons_succ, flatE_cons, flatE_cons, ← ih]
    simp only [encE, List.cons_append, List.nil_append]
    rw [show (t + 1) * 4 = t * 4 + 1 + 1 + 1 + 1 by omega]
    simp only [List.set_cons_succ]

/-- the four cells of one entry of a row of the call's own written anew -/
theorem row_put {w : World} {base g n cap : Nat} {l : List En} (h : w.ownsRow base 43 4 (.slice (some ⟨g, 0, none⟩) n cap) n (flatE l)) (t : Nat) (ht : t < l.length) (e : En) :
    ((((w.setCell ⟨g, t * 4, none⟩ (.int .i64 e.hash)).setCell ⟨g, t * 4 + 1, none⟩ (.int .i64 e.index)).setCell ⟨g, t * 4 + 2, none⟩ (.string e.name)).setCell ⟨g, t * 4 + 3, none⟩ (.int .i64 e.id)).ownsRow base 43 4 (.slice (some ⟨g, 0, none⟩) n cap) n (flatE (l.set t e)) := by
  have h1 := (h.stored (t * 4) (.int .i64 e.hash)).1
  have h2 := (h1.stored (t * 4 + 1) (.int .i64 e.index)).1
  have h3 := (h2.stored (t * 4 + 2) (.string e.name)).1
  have h4 := (h3.stored (t * 4 + 3) (.int .i64 e.id)).1
  rw [flatE_set l t e ht] at h4
  exact h4
/-- each of its cells is there and may be written -/
theorem row_cells {w : World} {base g n cap : Nat} {xs : List Value} (h : w.ownsRow base 43 4 (.slice (some ⟨g, 0, none⟩) n cap) n xs) (t : Nat) (ht : t < n * 4) : (∃ u, w.cell? ⟨g, t, none⟩ = some u) ∧ w.frozen? ⟨g, t, none⟩ = false :=
  ⟨⟨_, (h.cellAt t ht).trans (List.getElem?_eq_getElem (by have := h.1; omega))⟩, h.frozenAt t⟩

/-- the first j of l, then empty ones -/
def fillE (j : Nat) (l : List En) : List En := l.take j ++ List.replicate (l.length - j) default
theorem fillE_len (j : Nat) (l : List En) : (fillE j l).length = l.length := by unfold fillE; simp; omega
theorem fillE_step (j : Nat) (l : List En) (h : j < l.length) : (fillE j l).set j l[j]! = fillE (j + 1) l := by
  have e : min j l.length = j := by omega
  unfold fillE
  rw [List.set_append_right _ _ (by rw [List.length_take, e]; exact Nat.le_refl _), List.take_succ_eq_append_getElem h, getElem!_pos l j h, List.length_take, e, Nat.sub_self]
  rw [show l.length - j = (l.length - (j + 1)) + 1 by omega, List.replicate_succ, List.set_cons_zero, List.append_assoc]
  rfl
theorem flatE_zero (n : Nat) : (madeCells #[.int .i64 0, .int .i64 0, .string ⟨#[]⟩, .int .i64 0] (n * 4)).toList = flatE (List.replicate n default) := by
  apply List.ext_getElem?
  intro j
  by_cases hj : j < n * 4
  · have h1 := flatE_at (List.replicate n default) (j / 4) (by simp; omega) (j % 4) (by omega)
    have h2 : (List.replicate n (default : En))[j / 4]! = default := by
      rw [getElem!_pos _ _ (by simp; omega)]; simp
    rw [h2, show j / 4 * 4 + j % 4 = j by omega] at h1
    rw [h1]
    simp only [madeCells, Array.toList_map, List.getElem?_map, Array.toList_range, List.getElem?_range hj, Option.map_some]
    have : j % 4 < 4 := by omega
    show some (#[Value.int .i64 0, .int .i64 0, .string ⟨#[]⟩, .int .i64 0][j % 4]!) = _
    generalize j % 4 = s at *
    rcases s with _ | _ | _ | _ | s
    · rfl
    · rfl
    · rfl
    · rfl
    · omega
  · rw [List.getElem?_eq_none (by rw [Array.length_toList, size_madeCells]; omega), List.getElem?_eq_none (by rw [flatE_len]; simp; omega)]
end

section
open Go.RowKit Go.Sort
end

section
open Go.RowKit

def digs (k : Nat) (acc : List UInt8) : List UInt8 := if k = 0 then acc else digs (k / 10) (UInt8.ofNat (48 + k % 10) :: acc)
  termination_by k
  decreasing_by omega
theorem digs_zero (acc : List UInt8) : digs 0 acc = acc := by unfold digs; rfl
theorem digs_pos {k : Nat} (h : 0 < k) (acc : List UInt8) : digs k acc = digs (k / 10) (UInt8.ofNat (48 + k % 10) :: acc) := by
  rw [digs, if_neg (by omega)]
def mkT (k : Nat) : ByteArray := ⟨(109 :: digs k []).toArray⟩

set_option maxRecDepth 100000 in
set_option maxHeartbeats 1000000 in
theorem markText_any (k : Nat) (w : World) (h0 : 0 < k) (h1 : k ≤ 1000000000) :
    Calls Tryd.prog 13 #[.int .i64 k] w fun e w' => e = .returned (.string (mkT k)) ∧ Below w.heap.size w w' := by
  have hk : ¬ ((k : Int) ≤ 0) := by omega
  go_enter Tryd.func13, Tryd.ntmps13
  go_wp2
  go_loopw [0, 3] (fun q sv wr => ∃ (m : Nat) (l : List UInt8), m + l.length ≤ k ∧ q = .int .i64 m ∧ sv = .string ⟨l.toArray⟩ ∧ Hid (digs m l = digs k []) ∧ Below w.heap.size w wr) (fun q _ _ => (intOf q).toNat)
  case atStart => exact ⟨k, [], by simp, rfl, rfl, rfl, Below.refl _ _⟩
  case round =>
    obtain ⟨m, l, hm, rfl, rfl, HD, hbel⟩ := hrel
    by_cases hlt : 0 < m
    · have hm0 : (0 : Int) < (m : Int) := by omega
      have HG : Hid (digs (m / 10) (UInt8.ofNat (48 + m % 10) :: l) = digs k []) := by show _ = _; rw [← digs_pos hlt]; exact HD.out
      have hcv := one_string (P := Tryd.prog) wr (E := 5) (S := 39) (T := 9) (48 + (m : Int) % 10) (by omega) (by omega) Tryd.underlying39 Tryd.underlying5 Tryd.underlying9
      have hbl := below_lit wr (.cells #[.int .u8 (48 + (m : Int) % 10)] 5)
      go_wp2
      refine ⟨⟨m / 10, UInt8.ofNat (48 + m % 10) :: l, by simp; omega, by go_num, ?_, HG.out, hbel.trans (hbl.mono hbel.size)⟩, by simp [intOf]; omega⟩
      refine congrArg Value.string (list_ext ?_)
      simp [UInt8.ofNat_add]
    · have hm1 : m = 0 := by omega
      have HE : Hid (l = digs k []) := by show _ = _; rw [← HD.out, hm1, digs_zero]
      have hm0 : ¬ ((0 : Int) < (m : Int)) := by omega
      clear hm1
      go_wp2
      go_ret
      refine ⟨?_, hbel⟩
      rw [HE.out]
      refine congrArg (fun x => Ending.returned (Value.string x)) (list_ext ?_)
      simp [mkT]
end

section
open Go.RowKit

theorem markText_at (z : Int) (k : Nat) (hz : z = (k : Int)) (w : World) (h0 : 0 < k) (h1 : k ≤ 1000000000) :
    Calls Tryd.prog 13 #[.int .i64 z] w fun e w' => e = .returned (.string (mkT k)) ∧ Below w.heap.size w w' := by
  rw [hz]; exact markText_any k w h0 h1
theorem gb_belowE {w w' : World} {g : Nat} (b : Below w.heap.size w w') : w.grownBy w' (some g) := ⟨b.os, b.tape, b.output, b.size, fun k hk _ => b.block k hk⟩

/-- the marked entry whose first number is m -/
def mkE (m : Nat) : En := ⟨m, m + 1, mkT (m + 2), m + 3⟩
def marksE (k : Nat) : Nat → List En
  | 0 => []
  | n + 1 => marksE k n ++ [mkE (k + 4 * n)]
theorem marksE_len (k n : Nat) : (marksE k n).length = n := by
  induction n with
  | zero => rfl
  | succ n ih => simp [marksE, ih]
def markdE (k j : Nat) (l : List En) : List En := marksE k j ++ l.drop j
theorem markdE_len {k j : Nat} {l : List En} (h : j ≤ l.length) : (markdE k j l).length = l.length := by
  simp [markdE, marksE_len]; omega
theorem markdE_step {k j : Nat} {l : List En} (h : j < l.length) : (markdE k j l).set j (mkE (k + 4 * j)) = markdE k (j + 1) l := by
  unfold markdE
  rw [List.set_append_right _ _ (by rw [marksE_len]; exact Nat.le_refl _), marksE_len, Nat.sub_self, List.drop_eq_getElem_cons h, List.set_cons_zero]
  simp [marksE]
theorem markdE_all (k : Nat) (l : List En) : markdE k l.length l = marksE k l.length := by simp [markdE]
end

section
open Go.RowKit Go.Sort

theorem marksE_get (k n t : Nat) (h : t < n) : (marksE k n)[t]! = mkE (k + 4 * t) := by
  induction n with
  | zero => omega
  | succ n ih =>
    rw [getElem!_pos _ _ (by rw [marksE_len]; exact h)]
    simp only [marksE]
    by_cases ht : t < n
    · rw [List.getElem_append_left (by rw [marksE_len]; exact ht), ← ih ht, getElem!_pos _ _ (by rw [marksE_len]; exact ht)]
    · obtain rfl : t = n := by omega
      rw [List.getElem_append_right (by rw [marksE_len]; exact Nat.le_refl _)]
      simp [marksE_len]
end

end Go.Proofs.YtnfbnnbkhihfjaaDoor
