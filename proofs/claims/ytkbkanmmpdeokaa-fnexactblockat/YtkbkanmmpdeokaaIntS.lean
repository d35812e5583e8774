/- Rows of integers: what laws.eqIntS, markIntS, heldIntS and toIntS do to them. -/
import Derived.Test.YtkbkanmmpdeokaaRows
import Derived.Test.YtkbkanmmpdeokaaNum
import Derived.WalkKit
import Derived.WalkSpells
import Derived.WalkLawsBesides
import Derived.Deep.QuietTactic
import Derived.BigQuiet
import Derived.Deep.Onto
namespace Go.Proofs.Ytkbkanmmpdeokaa
open Go.RowKit

theorem below_drewN {B : Nat} {w w' : World} (h : Below B w w') (n : Nat) : Below B w (w'.drewN n) := ⟨h.os, h.tape, h.output, h.size, h.block⟩

theorem gbi_trans {w w1 w2 : World} {r : Option Nat} (a : w.grownBy w1 r) (b : w1.grownBy w2 r) : w.grownBy w2 r :=
  ⟨b.os.trans a.os, b.tape.trans a.tape, b.output.trans a.output, Nat.le_trans a.size b.size, fun k hk hn => (b.block k (Nat.lt_of_lt_of_le hk a.size) hn).trans (a.block k hk hn)⟩
theorem gbi_set (w : World) (p j : Nat) (v : Value) : w.grownBy (w.setCell ⟨p, j, none⟩ v) (some p) :=
  ⟨rfl, rfl, rfl, by simp [World.setCell], fun k _ hn => Below.heap_setCell _ _ _ _ (fun e => hn (by rw [e]))⟩

def intsV (l : List Int) : List Value := l.map fun z => .int .i64 z
theorem intsV_length (l : List Int) : (intsV l).length = l.length := by simp [intsV]
theorem intsV_append (l m : List Int) : intsV (l ++ m) = intsV l ++ intsV m := by simp [intsV]
theorem intsV_get (l : List Int) (t : Nat) (h : t < l.length) : (intsV l)[t]? = some (.int .i64 (l.getD t 0)) := by
  simp [intsV, List.getD, h]

/-- the slice v reads as the integers l -/
def IntsAt (w : World) (v : Value) (l : List Int) : Prop :=
  ∃ a cap, v = .slice a l.length cap ∧ ∀ t, t < l.length → ∃ b off, a = some ⟨b, off, none⟩ ∧ b < w.heap.size ∧ w.cell? ⟨b, off + t, none⟩ = some (.int .i64 (l.getD t 0))

/-- the slice v is a row of integers that lies from block base on and is the call's own -/
def IntRow (w : World) (base : Nat) (v : Value) (l : List Int) : Prop := w.ownsRow base 3 1 v l.length (intsV l)

theorem IntRow.at {w : World} {base : Nat} {v : Value} {l : List Int} (h : IntRow w base v l) : IntsAt w v l := by
  rcases h.2 with ⟨rfl, h0⟩ | ⟨g, cap, cur, rfl, hg, hh, hnc, hcp, hcs, htake⟩
  · exact ⟨none, 0, by rw [h0], fun t ht => by omega⟩
  · refine ⟨some ⟨g, 0, none⟩, cap, rfl, fun t ht => ⟨g, 0, rfl, lt_of_block hh, ?_⟩⟩
    rw [Nat.zero_add, World.ownsRow.cellAt h t (by omega)]
    exact intsV_get l t ht

theorem IntsAt.below {w w' : World} {v : Value} {l : List Int} (h : IntsAt w v l) (b : Below w.heap.size w w') : IntsAt w' v l := by
  obtain ⟨a, cap, rfl, hc⟩ := h
  refine ⟨a, cap, rfl, fun t ht => ?_⟩
  obtain ⟨bb, off, h1, h2, h3⟩ := hc t ht
  exact ⟨bb, off, h1, Nat.lt_of_lt_of_le h2 b.size, (b.cell (p := ⟨bb, off + t, none⟩) h2).trans h3⟩

theorem IntRow.below {w w' : World} {base : Nat} {v : Value} {l : List Int} (h : IntRow w base v l) (b : Below w.heap.size w w') : IntRow w' base v l :=
  ⟨h.1, by
    rcases h.2 with h0 | ⟨g, cap, cur, e, hg, hh, r⟩
    · exact .inl h0
    · exact .inr ⟨g, cap, cur, e, hg, (b.block g (lt_of_block hh)).trans hh, r⟩⟩

theorem ints_ext (l m : List Int) (hl : l.length = m.length) (h : ∀ t, t < l.length → l.getD t 0 = m.getD t 0) : l = m := by
  apply List.ext_getElem hl
  intro t h1 h2
  have := h t h1
  simpa [List.getD, h1, h2] using this

set_option maxRecDepth 100000 in
set_option maxHeartbeats 400000 in
theorem eqIntS_any (v u : Value) (l m : List Int) (w : World) (hl : l.length ≤ 9223372036854775807) (hv : IntsAt w v l) (hu : IntsAt w u m) :
    Calls Try.prog 27 #[v, u] w fun e w' => e = .returned (.bool (decide (l = m))) ∧ Below w.heap.size w w' := by
  obtain ⟨a, ca, rfl, hva⟩ := hv
  obtain ⟨b, cb, rfl, hub⟩ := hu
  by_cases hlen : l.length = m.length
  · have hlen' : (l.length : Int) = (m.length : Int) := by omega
    obtain ⟨n, HN⟩ : ∃ n, Hid (n = m.length) := ⟨_, rfl⟩
    rw [hlen] at hva hl ⊢
    rw [← HN.out] at hva hub hl ⊢
    go_enter Try.func27, Try.ntmps27
    go_wp2
    go_loopw [5] (fun i wr => ∃ k : Nat, k ≤ n ∧ i = .int .i64 k ∧ (∀ t, t < k → l.getD t 0 = m.getD t 0) ∧ Below w.heap.size w wr) (fun i _ => n - (intOf i).toNat)
    case atStart => exact ⟨0, Nat.zero_le _, rfl, fun t ht => by omega, Below.refl _ _⟩
    case round =>
      obtain ⟨k, hk, rfl, heq, hbel⟩ := hrel
      by_cases hlt : k < n
      · obtain ⟨b1, o1, rfl, hb1, hc1⟩ := hva k hlt
        obtain ⟨b2, o2, rfl, hb2, hc2⟩ := hub k hlt
        have hc1' := (hbel.cell (p := ⟨b1, o1 + k, none⟩) hb1).trans hc1
        have hc2' := (hbel.cell (p := ⟨b2, o2 + k, none⟩) hb2).trans hc2
        obtain ⟨x, HX⟩ : ∃ x, Hid (x = l.getD k 0) := ⟨_, rfl⟩
        obtain ⟨y, HY⟩ : ∃ y, Hid (y = m.getD k 0) := ⟨_, rfl⟩
        rw [← HX.out] at hc1'
        rw [← HY.out] at hc2'
        have hkn : (k : Int) < (n : Int) := by omega
        have hk0 : (0 : Int) ≤ (k : Int) := by omega
        by_cases hxy : x = y
        · subst hxy
          go_wp2
          go_quiet (fail)
          go_wp2
          go_roundw
          case rel => exact ⟨k + 1, by omega, by go_num, fun t ht => by
            by_cases htk : t < k
            · exact heq t htk
            · obtain rfl : t = k := by omega
              rw [← HX.out, ← HY.out], below_drewN hbel _⟩
          case measure => simp [intOf]; omega
        · have hne : (x != y) = true := by simpa using hxy
          go_wp2
          go_quiet (fail)
          go_wp2
          go_ret
          refine ⟨?_, below_drewN hbel _⟩
          have : ¬ l = m := fun e => hxy (by rw [HX.out, HY.out, e])
          simp [this]
      · obtain rfl : k = n := by omega
        go_wp2
        go_ret
        refine ⟨?_, hbel⟩
        have : l = m := ints_ext l m hlen (fun t ht => heq t (by rw [HN.out]; omega))
        simp [this]
  · have hne : ((l.length : Int) != (m.length : Int)) = true := by simp; omega
    have hneq : ¬ l = m := fun e => hlen (by rw [e])
    go_enter Try.func27, Try.ntmps27
    go_wp2
    go_ret
    exact ⟨by simp [hneq], Below.refl _ _⟩

/-- the numbers from k on -/
def marks (k : Int) : Nat → List Int
  | 0 => []
  | n + 1 => marks k n ++ [k + n]
theorem marks_length (k : Int) (n : Nat) : (marks k n).length = n := by
  induction n with
  | zero => rfl
  | succ n ih => simp [marks, ih]
theorem marks_get (k : Int) (n t : Nat) (h : t < n) : (marks k n).getD t 0 = k + t := by
  induction n with
  | zero => omega
  | succ n ih =>
    by_cases ht : t < n
    · rw [← ih ht]; simp [marks, List.getD, List.getElem?_append, marks_length, ht]
    · obtain rfl : t = n := by omega
      simp [marks, List.getD, marks_length]

/-- the first j of them marked -/
def markd (k : Int) (j : Nat) (l : List Int) : List Int := marks k j ++ l.drop j
theorem markd_length (k : Int) (j : Nat) (l : List Int) (h : j ≤ l.length) : (markd k j l).length = l.length := by
  simp [markd, marks_length]; omega
theorem markd_all (k : Int) (l : List Int) : markd k l.length l = marks k l.length := by simp [markd]
theorem markd_step (k : Int) (j : Nat) (l : List Int) (h : j < l.length) : (intsV (markd k j l)).set j (.int .i64 (k + j)) = intsV (markd k (j + 1) l) := by
  apply List.ext_getElem?
  intro t
  simp only [intsV, markd, marks, List.getElem?_set, List.length_map, List.length_append, marks_length, List.length_drop, List.getElem?_map, List.getElem?_append, List.length_cons, List.length_nil, List.getElem?_drop]
  by_cases h1 : t < j
  · have h2 : ¬ j = t := by omega
    have h3 : t < j + (0 + 1) := by omega
    simp [h1, h2, h3]
  · by_cases h2 : j = t
    · subst h2; simp; omega
    · have h3 : ¬ t < j + (0 + 1) := by omega
      simp only [h1, h2, h3, if_false]
      congr 2; omega

set_option maxRecDepth 100000 in
set_option maxHeartbeats 400000 in
theorem markIntS_any (v : Value) (l : List Int) (k : Int) (base : Nat) (w : World) (hl : l.length ≤ 9223372036854775807) (hk0 : 0 ≤ k) (hk1 : k + l.length ≤ 9223372036854775807) (hv : IntRow w base v l) :
    Calls Try.prog 28 #[v, .int .i64 k] w fun e w' => e = .returned (.int .i64 (k + l.length)) ∧ IntRow w' base v (marks k l.length) ∧ w.grownBy w' v.ownBlock := by
  rcases hv.2 with ⟨rfl, h0⟩ | ⟨g, cap, cur, rfl, hg, hh, hnc, hcp, hcs, htake⟩
  · obtain rfl : l = [] := List.length_eq_zero_iff.1 h0
    go_enter Try.func28, Try.ntmps28
    go_wp2
    refine wp_loop_rounds 1 ?_
    rw [rounds_succ]
    go_wp2
    go_ret
    exact ⟨by simp, hv, ⟨rfl, rfl, rfl, Nat.le_refl _, fun _ _ _ => rfl⟩⟩
  · obtain ⟨n, HN⟩ : ∃ n, Hid (n = l.length) := ⟨_, rfl⟩
    have hv1 : w.ownsRow base 3 1 (.slice (some ⟨g, 0, none⟩) n cap) n (intsV (markd k 0 l)) := by
      have : markd k 0 l = l := by simp [markd, marks]
      rw [this, HN.out]; exact hv
    clear hv hh hcs htake
    have HM : Hid (∀ j, j < n → (intsV (markd k j l)).set j (.int .i64 (k + j)) = intsV (markd k (j + 1) l)) := fun j hj => markd_step k j l (by rw [← HN.out]; exact hj)
    have HA : Hid (IntRow = fun w base v l => w.ownsRow base 3 1 v l.length (intsV l)) := rfl
    have HE : Hid (markd k n l = marks k l.length) := by show _ = _; rw [HN.out]; exact markd_all k l
    rw [← HN.out] at hk1 hl hnc ⊢
    go_enter Try.func28, Try.ntmps28
    go_wp2
    go_loopw [1, 5] (fun q i wr => ∃ j : Nat, j ≤ n ∧ i = .int .i64 j ∧ q = .int .i64 (k + j) ∧ wr.ownsRow base 3 1 (.slice (some ⟨g, 0, none⟩) n cap) n (intsV (markd k j l)) ∧ w.grownBy wr (some g)) (fun _ i _ => n - (intOf i).toNat)
    case atStart => exact ⟨0, Nat.zero_le _, rfl, by simp, hv1, ⟨rfl, rfl, rfl, Nat.le_refl _, fun _ _ _ => rfl⟩⟩
    case round =>
      obtain ⟨j, hj, rfl, rfl, hown, hgb⟩ := hrel
      by_cases hlt : j < n
      · have hfz := hown.frozenAt j
        obtain ⟨u, hcl⟩ : ∃ u, wr.cell? ⟨g, j, none⟩ = some u := ⟨_, (hown.cellAt j (by omega)).trans (List.getElem?_eq_getElem (by have := hown.1; omega))⟩
        have hst := (hown.stored j (.int .i64 (k + j))).1
        rw [HM.out j hlt] at hst
        have HS : Hid ((wr.setCell ⟨g, j, none⟩ (.int .i64 (k + j))).ownsRow base 3 1 (.slice (some ⟨g, 0, none⟩) n cap) n (intsV (markd k (j + 1) l))) := hst
        clear hst
        go_wp2
        go_roundw
        case rel => exact ⟨j + 1, by omega, by go_num, by go_num, HS.out, gbi_trans hgb (gbi_set _ _ _ _)⟩
        case measure => simp [intOf]; omega
      · obtain rfl : j = n := by omega
        go_wp2
        go_ret
        refine ⟨rfl, ?_, hgb⟩
        rw [HE.out] at hown
        rw [← HN.out] at hown
        unfold IntRow
        rw [marks_length]
        exact hown

set_option maxRecDepth 100000 in
set_option maxHeartbeats 400000 in
theorem heldIntS_marks (v : Value) (n : Nat) (k : Int) (w : World) (hl : n ≤ 9223372036854775807) (hk0 : 0 ≤ k) (hk1 : k + n ≤ 9223372036854775807) (hv : IntsAt w v (marks k n)) :
    Calls Try.prog 29 #[v, .int .i64 k] w fun e w' => e = .returned (.int .i64 (k + n)) ∧ w = w' := by
  obtain ⟨a, cap, rfl, hva⟩ := hv
  rw [marks_length] at hva ⊢
  have HV : Hid (∀ t, t < n → ∃ b off, a = some ⟨b, off, none⟩ ∧ b < w.heap.size ∧ w.cell? ⟨b, off + t, none⟩ = some (.int .i64 (k + t))) := fun t ht => by
    obtain ⟨b, off, h1, h2, h3⟩ := hva t ht
    rw [marks_get k n t ht] at h3
    exact ⟨b, off, h1, h2, h3⟩
  clear hva
  go_enter Try.func29, Try.ntmps29
  go_wp2
  go_loop [1, 5] (fun q i => ∃ j : Nat, j ≤ n ∧ i = .int .i64 j ∧ q = .int .i64 (k + j)) (fun _ i => n - (intOf i).toNat)
  case atStart => exact ⟨0, Nat.zero_le _, rfl, by simp⟩
  case round =>
    obtain ⟨j, hj, rfl, rfl⟩ := hrel
    by_cases hlt : j < n
    · obtain ⟨b, off, rfl, hb, hc⟩ := HV.out j hlt
      go_wp2
      go_round
      case rel => exact ⟨j + 1, by omega, by go_num, by go_num⟩
      case measure => simp [intOf]; omega
    · obtain rfl : j = n := by omega
      go_wp2
      go_ret
      exact ⟨rfl, rfl⟩

theorem Try.infoInt : (Try.prog.info? 3).map (fun i => (i.zero, i.size, i.bytes)) = some (some (.int .i64 0), 1, 8) := by kernel_rfl

theorem cell_one_int (w : World) (u : Value) : ∀ j y, [u][j]? = some y → (w.alloc (.cells #[u] 3)).cell? ((⟨w.heap.size, 0, none⟩ : Addr).add j) = some y := by
  intro j y h
  rw [Addr.add_lit, Nat.zero_add, World.cell?_alloc_mark]
  simpa using h

/-- 'append(out, x)', out a row of integers of the call's own -/
theorem append_int (w : World) {ops : Array Oper} {rest : List Oper} {o : Oper} {a : Act} {Q : Exit → Act → World → Prop} (hgd : o.guard = none) (s x : Operand)
    (ho : o.op = .call { callee := .builtin .append, args := #[s, x], argTypes := #[31, 31] }) (base : Nat)
    (v : Value) (l : List Int) (X : Int) (hl : l.length + 1 ≤ 1099511627776) (hown : IntRow w base v l) (hs : a.eval s = v) (hx : a.eval x = .slice (some ⟨w.heap.size, 0, none⟩) 1 1)
    (hbase : base ≤ w.heap.size)
    (h : ∀ v' w', IntRow w' base v' (l ++ [X]) → Below base w w' → wpList Try.prog ops Q rest (a.put o.dst v') w') :
    wpList Try.prog ops Q (o :: rest) a (w.alloc (.cells #[.int .i64 X] 3)) := by
  obtain ⟨i0, hi, hz0, hz1, hz2⟩ := info_parts Try.infoInt
  refine wpList_append_own _ hgd s x 31 ho base 3 i0 (.int .i64 0) 1 8 Try.underlying31 hi hz0 hz1 hz2 rfl (by decide) v l.length (intsV l) hs (World.ownsRow.alloc hown _) ⟨w.heap.size, 0, none⟩ 1 1 [.int .i64 X] hx rfl (cell_one_int _ _) ?_ (by unfold maxLen; omega) (by omega) (by simp; omega) ?_
  · intro u hu; simp at hu; subst hu; rfl
  · intro v' w' hown' hgrow _
    refine h v' w' ?_ ?_
    · unfold IntRow
      rw [intsV_append, List.length_append]
      exact hown'
    · refine ((Below.refl base w).alloc hbase _).grown hgrow (by simp; omega) ?_
      intro k hk
      rcases hown.2 with ⟨rfl, _⟩ | ⟨g, cap, cur, rfl, hg, _⟩
      · simp [Value.ownBlock] at hk
      · simp [Value.ownBlock] at hk; omega

/-- the first j of l, then zeros -/
def filld (j : Nat) (l : List Int) : List Int := l.take j ++ List.replicate (l.length - j) 0
theorem filld_step (j : Nat) (l : List Int) (h : j < l.length) : (intsV (filld j l)).set j (.int .i64 (l.getD j 0)) = intsV (filld (j + 1) l) := by
  apply List.ext_getElem?
  intro t
  simp only [intsV, filld, List.getElem?_set, List.length_map, List.length_append, List.length_take, List.length_replicate, List.getElem?_map, List.getElem?_append, List.getElem?_take, List.getElem?_replicate]
  have hm : min j l.length = j := by omega
  have hm1 : min (j + 1) l.length = j + 1 := by omega
  rw [hm, hm1]
  by_cases h1 : t < j
  · have h2 : ¬ j = t := by omega
    have h3 : t < j + 1 := by omega
    simp [h1, h2, h3]
  · by_cases h2 : j = t
    · subst h2; simp [List.getD, h]; omega
    · have h3 : ¬ t < j + 1 := by omega
      simp only [h1, h2, h3, if_false]
      by_cases h4 : t < l.length
      · have h5 : t - j < l.length - j := by omega
        have h6 : t - (j + 1) < l.length - (j + 1) := by omega
        simp [h5, h6]
      · have h5 : ¬ t - j < l.length - j := by omega
        have h6 : ¬ t - (j + 1) < l.length - (j + 1) := by omega
        simp [h5, h6]

end Go.Proofs.Ytkbkanmmpdeokaa
