/- Rows of rows of whole numbers: how they lie; what laws.eqIntSS, markIntSS, heldIntSS do to them. Patterns: the rows of flags by which a fit is found. Patterns: spec.l14Is. spec.l14Same: are two rows of integers the same? Rows of rows of whole numbers: laws.markIntSS, heldIntSS. -/
import Derived.Test.YtlkemmdcjnaepaaDoorRows
import Derived.Test.YtlkemmdcjnaepaaDoorG00
import Derived.Test.YtlkemmdcjnaepaaDoorG19
import Derived.Test.YtlkemmdcjnaepaaDoorG04
import Derived.Deep.Cut
import Derived.Deep.CutRange
import Derived.Deep.RegionWith
import Derived.WalkKit
import Derived.WalkSpells
import Derived.WalkLawsBesides
import Derived.Deep.QuietTactic
import Derived.BigQuiet
namespace Go.Proofs.YtlkemmdcjnaepaaDoor

section
open Go.RowKit

def vD (us : List Value) (t : Nat) : Value := us.getD t (.slice none 0 0)
def lD (ls : List (List Int)) (t : Nat) : List Int := ls.getD t []
/-- the slice v reads as the rows ls -/
def RwsAt (w : World) (v : Value) (ls : List (List Int)) : Prop :=
  ∃ (us : List Value) (a : Option Addr) (cap : Nat), v = .slice a ls.length cap ∧ ∀ t, t < ls.length → (∃ b off, a = some ⟨b, off, none⟩ ∧ b < w.heap.size ∧ w.cell? ⟨b, off + t, none⟩ = some (vD us t)) ∧ IntsAt w (vD us t) (lD ls t)
/-- the slice v is a row of rows us, all of them the call's own, from block base on -/
structure RwsRow (w : World) (base : Nat) (v : Value) (us : List Value) (ls : List (List Int)) : Prop where
  out : w.ownsRow base 39 1 v ls.length us
  inn : ∀ t, t < ls.length → IntRow w base (vD us t) (lD ls t)
  ap : ∀ s t, s < ls.length → t < ls.length → s ≠ t → (vD us s).ownBlock = none ∨ (vD us s).ownBlock ≠ (vD us t).ownBlock
theorem ls_ext (ls ms : List (List Int)) (hl : ls.length = ms.length) (h : ∀ t, t < ls.length → lD ls t = lD ms t) : ls = ms := by
  apply List.ext_getElem hl
  intro t h1 h2
  have := h t h1
  simpa [lD, List.getD, h1, h2] using this
theorem RwsAt.below {w w' : World} {v : Value} {ls : List (List Int)} (h : RwsAt w v ls) (b : Below w.heap.size w w') : RwsAt w' v ls := by
  obtain ⟨us, a, cap, rfl, hc⟩ := h
  refine ⟨us, a, cap, rfl, fun t ht => ?_⟩
  obtain ⟨⟨bb, off, h1, h2, h3⟩, h4⟩ := hc t ht
  exact ⟨⟨bb, off, h1, Nat.lt_of_lt_of_le h2 b.size, (b.cell (p := ⟨bb, off + t, none⟩) h2).trans h3⟩, h4.below b⟩
theorem RwsRow.ulen {w : World} {base : Nat} {v : Value} {us : List Value} {ls : List (List Int)} (h : RwsRow w base v us ls) : us.length = ls.length := by have := h.out.1; omega
theorem RwsRow.at {w : World} {base : Nat} {v : Value} {us : List Value} {ls : List (List Int)} (h : RwsRow w base v us ls) : RwsAt w v ls := by
  have hu := h.ulen
  rcases h.out.2 with ⟨rfl, h0⟩ | ⟨g, cap, cur, rfl, hg, hh, hnc, hcp, hcs, htake⟩
  · exact ⟨us, none, 0, by rw [h0], fun t ht => by omega⟩
  · refine ⟨us, some ⟨g, 0, none⟩, cap, rfl, fun t ht => ⟨⟨g, 0, rfl, lt_of_block hh, ?_⟩, (h.inn t ht).at⟩⟩
    rw [Nat.zero_add, World.ownsRow.cellAt h.out t (by omega), List.getElem?_eq_getElem (by omega)]
    simp [vD, List.getD, show t < us.length by omega]
theorem own_of_below {w w' : World} {base : Nat} {e : TypeId} {size n : Nat} {v : Value} {xs : List Value} (h : w.ownsRow base e size v n xs) (b : Below w.heap.size w w') : w'.ownsRow base e size v n xs :=
  ⟨h.1, by
    rcases h.2 with h0 | ⟨g, cap, cur, e, hg, hh, r⟩
    · exact .inl h0
    · exact .inr ⟨g, cap, cur, e, hg, (b.block g (lt_of_block hh)).trans hh, r⟩⟩
theorem RwsRow.below {w w' : World} {base : Nat} {v : Value} {us : List Value} {ls : List (List Int)} (h : RwsRow w base v us ls) (b : Below w.heap.size w w') : RwsRow w' base v us ls :=
  ⟨own_of_below h.out b, fun t ht => (h.inn t ht).below b, h.ap⟩
/-- rows of unlike cells lie apart -/
theorem own_ne {w : World} {b1 b2 : Nat} {e1 e2 : TypeId} {s1 s2 n1 n2 : Nat} {v u : Value} {xs ys : List Value} (h1 : w.ownsRow b1 e1 s1 v n1 xs) (h2 : w.ownsRow b2 e2 s2 u n2 ys) (he : e1 ≠ e2) : v.ownBlock = none ∨ v.ownBlock ≠ u.ownBlock := by
  rcases h1.2 with ⟨rfl, _⟩ | ⟨g, cap, cur, rfl, hg, hh, -⟩
  · left; rfl
  · right
    intro e
    rcases h2.2 with ⟨rfl, _⟩ | ⟨g2, cap2, cur2, rfl, hg2, hh2, -⟩
    · simp [Value.ownBlock] at e
    · simp [Value.ownBlock] at e
      subst e
      rw [hh] at hh2
      injection hh2 with hh2
      injection hh2 with _ hh2
      exact he hh2
theorem RwsRow.kept {w w' : World} {base : Nat} {v : Value} {us : List Value} {ls : List (List Int)} {r : Option Nat} (h : RwsRow w base v us ls) (hg : w.grownBy w' r) (hr : ∀ k, r = some k → k < base) : RwsRow w' base v us ls := by
  have key : ∀ {e : TypeId} {size n : Nat} {u : Value} {xs : List Value}, w.ownsRow base e size u n xs → w'.ownsRow base e size u n xs := fun hu => World.ownsRow.kept hu hg (by
    rename_i u _
    cases e : u.ownBlock with
    | none => exact .inl rfl
    | some k =>
      right
      intro e2
      have h1 := (World.ownsRow.lt hu k e).1
      have h2 := hr k e2.symm
      omega)
  exact ⟨key h.out, fun t ht => key (h.inn t ht), h.ap⟩

def tot : List (List Int) → Nat
  | [] => 0
  | l :: ls => l.length + tot ls
theorem tot_take : ∀ (ls : List (List Int)) (t : Nat), t < ls.length → tot (ls.take (t + 1)) = tot (ls.take t) + (lD ls t).length
  | [], t, h => by simp at h
  | l :: ls, 0, _ => by simp [tot, lD]
  | l :: ls, t + 1, h => by
    have := tot_take ls t (by simpa using h)
    simp only [List.take_succ_cons, tot, this, lD, List.getD_cons_succ]
    omega
theorem tot_flat : ∀ ls : List (List Int), tot ls = ls.flatten.length
  | [] => rfl
  | l :: ls => by simp [tot, tot_flat ls]
theorem tot_take_le : ∀ (ls : List (List Int)) (t : Nat), tot (ls.take t) ≤ tot ls
  | [], t => by simp [tot]
  | l :: ls, 0 => by simp [tot]
  | l :: ls, t + 1 => by have := tot_take_le ls t; simp only [List.take_succ_cons, tot]; omega
def mrkS : Int → List (List Int) → List (List Int)
  | _, [] => []
  | k, l :: ls => marks k l.length :: mrkS (k + l.length) ls
theorem mrkS_len : ∀ (ls : List (List Int)) (k : Int), (mrkS k ls).length = ls.length
  | [], _ => rfl
  | l :: ls, k => by simp [mrkS, mrkS_len ls]
theorem mrkS_get : ∀ (ls : List (List Int)) (k : Int) (t : Nat), t < ls.length → lD (mrkS k ls) t = marks (k + (tot (ls.take t) : Nat)) (lD ls t).length
  | [], _, t, h => by simp at h
  | l :: ls, k, 0, _ => by simp [mrkS, lD, tot]
  | l :: ls, k, t + 1, h => by
    have := mrkS_get ls (k + l.length) t (by simpa using h)
    simp only [mrkS, lD, List.getD_cons_succ, List.take_succ_cons, tot] at this ⊢
    rw [this]
    congr 1
    omega
end

section
open Go.RowKit

/-- do the first i units of the pattern fit the first k ones? -/
def canB (P N : List (List Int)) (i k : Nat) : Bool := fitsN (P.take i).reverse (N.take k).reverse
theorem take_rev {P : List (List Int)} {i : Nat} (h : i < P.length) : (P.take (i + 1)).reverse = lD P i :: (P.take i).reverse := by
  rw [List.take_add_one, List.getElem?_eq_getElem h]
  simp [lD, List.getD, h]
theorem can_zero (P N : List (List Int)) (k : Nat) (h : k ≤ N.length) : canB P N 0 k = decide (k = 0) := by
  unfold canB
  show ((N.take k).reverse).isEmpty = _
  cases k with
  | zero => rfl
  | succ k => rw [take_rev (by omega)]; rfl
theorem can_star {P N : List (List Int)} {i k : Nat} (hi : i < P.length) (hk : k ≤ N.length) (h : lD P i = [42]) : canB P N (i + 1) k = (canB P N i k || (decide (0 < k) && canB P N (i + 1) (k - 1))) := by
  unfold canB
  rw [take_rev hi, h]
  cases k with
  | zero => simp [fitsN, starN]
  | succ k =>
    rw [take_rev (show k < N.length by omega)]
    simp only [fitsN, if_pos, starN, Nat.add_sub_cancel, Nat.zero_lt_succ, decide_true, Bool.true_and]
theorem can_none {P N : List (List Int)} {i : Nat} (hi : i < P.length) (h : lD P i ≠ [42]) : canB P N (i + 1) 0 = false := by
  unfold canB
  rw [take_rev hi]
  simp [fitsN, h]
theorem can_one {P N : List (List Int)} {i k : Nat} (hi : i < P.length) (hk : k < N.length) (h : lD P i ≠ [42]) : canB P N (i + 1) (k + 1) = (canB P N i k && (decide (lD P i = [63]) || decide (lD P i = lD N k))) := by
  unfold canB
  rw [take_rev hi, take_rev hk]
  simp only [fitsN, if_neg h]
  exact Bool.and_comm _ _
theorem can_end (P N : List (List Int)) : canB P N P.length N.length = fitsN P N := by
  unfold canB
  rw [List.take_length, List.take_length, fits_rev]

/-- the row of flags behind i units, the first k of them in their place -/
def rowC (P N : List (List Int)) (i k : Nat) : List Bool := (List.range (N.length + 1)).map fun t => if t < k then canB P N i t else false
theorem rowC_len (P N : List (List Int)) (i k : Nat) : (rowC P N i k).length = N.length + 1 := by simp [rowC]
theorem rowC_get {P N : List (List Int)} {i k t : Nat} (h : t < N.length + 1) : (rowC P N i k)[t]! = if t < k then canB P N i t else false := by
  rw [getElem!_pos _ t (by rw [rowC_len]; exact h)]
  simp [rowC]
theorem rowC_zero (P N : List (List Int)) (i : Nat) : rowC P N i 0 = List.replicate (N.length + 1) false := by
  apply List.ext_getElem (by simp [rowC])
  intro t h1 h2
  simp [rowC]
theorem rowC_set (P N : List (List Int)) (i k : Nat) : (rowC P N i k).set k (canB P N i k) = rowC P N i (k + 1) := by
  apply List.ext_getElem (by simp [rowC])
  intro t h1 h2
  rw [List.getElem_set]
  by_cases e : k = t
  · subst e; simp [rowC]
  · rw [if_neg e]
    simp only [rowC, List.getElem_map, List.getElem_range]
    by_cases h3 : t < k
    · rw [if_pos h3, if_pos (by omega)]
    · rw [if_neg h3, if_neg (by omega)]
theorem rowC_skip {P N : List (List Int)} {i : Nat} (h : canB P N i 0 = false) : rowC P N i 1 = rowC P N i 0 := by
  apply List.ext_getElem (by simp [rowC])
  intro t h1 h2
  simp only [rowC, List.getElem_map, List.getElem_range]
  by_cases e : t < 1
  · obtain rfl : t = 0 := by omega
    simp [h]
  · rw [if_neg e, if_neg (by omega)]
theorem rowC_start (P N : List (List Int)) : (List.replicate (N.length + 1) false).set 0 true = rowC P N 0 (N.length + 1) := by
  apply List.ext_getElem (by simp [rowC])
  intro t h1 h2
  have ht : t < N.length + 1 := by simpa using h1
  rw [List.getElem_set]
  simp only [rowC, List.getElem_map, List.getElem_range, if_pos ht, List.getElem_replicate]
  rw [can_zero P N t (by omega)]
  by_cases e : 0 = t
  · subst e; rfl
  · rw [if_neg e, decide_eq_false (fun h => e h.symm)]
end

section
open Go.RowKit

set_option maxRecDepth 100000 in
theorem l14Is_any (v : Value) (l : List Int) (c : Int) (w : World) (hv : IntsAt w v l) :
    Calls Tryd.prog 68 #[v, .int .i64 c] w fun e w' => e = .returned (.bool (decide (l = [c]))) ∧ w = w' := by
  obtain ⟨a, cap, rfl, hc⟩ := hv
  by_cases h1 : l.length = 1
  · obtain ⟨x, rfl⟩ := List.length_eq_one_iff.1 h1
    obtain ⟨b, o, rfl, hb, hx⟩ := hc 0 (by simp)
    simp only [Nat.add_zero, List.getD_cons_zero] at hx
    cases hq : (x == c)
    · rw [decide_eq_false (fun e => by injection e with e; simp [e] at hq)]
      clear hc
      go_enter Tryd.func68, Tryd.ntmps68
      go_wp2
      go_ret
      exact ⟨rfl, rfl⟩
    · rw [decide_eq_true (by rw [eq_of_beq hq])]
      clear hc
      go_enter Tryd.func68, Tryd.ntmps68
      go_wp2
      go_ret
      exact ⟨rfl, rfl⟩
  · have h1' : ((l.length : Int) == 1) = false := by simp; omega
    rw [decide_eq_false (fun e => h1 (by rw [e]; rfl))]
    clear hc
    go_enter Tryd.func68, Tryd.ntmps68
    go_wp2
    go_ret
    exact ⟨rfl, rfl⟩
end

section
open Go.RowKit

set_option maxRecDepth 100000 in
set_option maxHeartbeats 400000 in
theorem same14_any (v u : Value) (l m : List Int) (w : World) (hl : l.length ≤ 9223372036854775807) (hv : IntsAt w v l) (hu : IntsAt w u m) :
    Calls Tryd.prog 51 #[v, u] w fun e w' => e = .returned (.bool (decide (l = m))) ∧ Below w.heap.size w w' := by
  obtain ⟨a, ca, rfl, hva⟩ := hv
  obtain ⟨b, cb, rfl, hub⟩ := hu
  by_cases hlen : l.length = m.length
  · have hlen' : (l.length : Int) = (m.length : Int) := by omega
    obtain ⟨n, HN⟩ : ∃ n, Hid (n = m.length) := ⟨_, rfl⟩
    rw [hlen] at hva hl ⊢
    rw [← HN.out] at hva hub hl ⊢
    go_enter Tryd.func51, Tryd.ntmps51
    go_wp2
    go_loopw [5] (fun i wr => ∃ k : Nat, k ≤ n ∧ i = .int .i64 k ∧ (∀ t, t < k → l.getD t 0 = m.getD t 0) ∧ Below w.heap.size w wr) (fun i _ => n - (intOf i).toNat)
    case atStart => exact ⟨0, Nat.zero_le _, rfl, fun t ht => by omega, Below.refl _ _⟩
    case round =>
      obtain ⟨k, hk, rfl, heq, hbel⟩ := hrel
      by_cases hlt : k < n
      · obtain ⟨b1, o1, rfl, hb1, hc1⟩ := hva k hlt
        obtain ⟨b2, o2, rfl, hb2, hc2⟩ := hub k hlt
        have hc1' := (hbel.cell (p := ⟨b1, o1 + k, none⟩) hb1).trans hc1
        have hc2' := (hbel.cell (p := ⟨b2, o2 + k, none⟩) hb2).trans hc2
        obtain ⟨x, HX⟩ : ∃ x, Hid (x = l.getD k 0) := ⟨_, rfl⟩
        obtain ⟨y, HY⟩ : ∃ y, Hid (y = m.getD k 0) := ⟨_, rfl⟩
        rw [← HX.out] at hc1'
        rw [← HY.out] at hc2'
        have hkn : (k : Int) < (n : Int) := by omega
        have hk0 : (0 : Int) ≤ (k : Int) := by omega
        by_cases hxy : x = y
        · subst hxy
          go_wp2
          go_quiet (fail)
          go_wp2
          go_roundw
          case rel => exact ⟨k + 1, by omega, by go_num, fun t ht => by
            by_cases htk : t < k
            · exact heq t htk
            · obtain rfl : t = k := by omega
              rw [← HX.out, ← HY.out], below_drewN hbel _⟩
          case measure => simp [intOf]; omega
        · have hne : (x != y) = true := by simpa using hxy
          go_wp2
          go_quiet (fail)
          go_wp2
          go_ret
          refine ⟨?_, below_drewN hbel _⟩
          have : ¬ l = m := fun e => hxy (by rw [HX.out, HY.out, e])
          simp [this]
      · obtain rfl : k = n := by omega
        go_wp2
        go_ret
        refine ⟨?_, hbel⟩
        have : l = m := ints_ext l m hlen (fun t ht => heq t (by rw [HN.out]; omega))
        simp [this]
  · have hne : ((l.length : Int) != (m.length : Int)) = true := by simp; omega
    have hneq : ¬ l = m := fun e => hlen (by rw [e])
    go_enter Tryd.func51, Tryd.ntmps51
    go_wp2
    go_ret
    exact ⟨by simp [hneq], Below.refl _ _⟩
end

section
open Go.RowKit

theorem own_cellD {w : World} {base n cap : Nat} {a : Option Addr} {us : List Value} (h : w.ownsRow base 39 1 (.slice a n cap) n us) (t : Nat) (ht : t < n) : ∃ b off, a = some ⟨b, off, none⟩ ∧ b < w.heap.size ∧ w.cell? ⟨b, off + t, none⟩ = some (vD us t) := by
  have hu : us.length = n := by have := h.1; omega
  rcases h.2 with ⟨e, h0⟩ | ⟨g, cap2, cur, e, hg, hh, hnc, hcp, hcs, htake⟩
  · omega
  · injection e with e1 e2 e3
    subst e1; subst e3
    refine ⟨g, 0, rfl, lt_of_block hh, ?_⟩
    rw [Nat.zero_add, World.ownsRow.cellAt h t (by omega), List.getElem?_eq_getElem (by omega)]
    simp [vD, List.getD, show t < us.length by omega]
/-- the first j rows marked -/
def mdS (k : Int) (ls : List (List Int)) (j t : Nat) : List Int := if t < j then marks (k + (tot (ls.take t) : Nat)) (lD ls t).length else lD ls t
structure MkS (w0 : World) (base : Nat) (v : Value) (us : List Value) (ls : List (List Int)) (n : Nat) (k : Int) (w : World) (j : Nat) : Prop where
  out : w.ownsRow base 39 1 v n us
  inn : ∀ t, t < n → IntRow w base (vD us t) (mdS k ls j t)
  bel : Below base w0 w
theorem MkS.step {w0 w w' : World} {base : Nat} {v : Value} {us : List Value} {ls : List (List Int)} {n : Nat} {k : Int} {j : Nat} (h : MkS w0 base v us ls n k w j) (hj : j < n)
    (ap : ∀ s t, s < n → t < n → s ≠ t → (vD us s).ownBlock = none ∨ (vD us s).ownBlock ≠ (vD us t).ownBlock) (hb : base ≤ w0.heap.size)
    (hr : IntRow w' base (vD us j) (marks (k + (tot (ls.take j) : Nat)) (lD ls j).length)) (hg : w.grownBy w' (vD us j).ownBlock) : MkS w0 base v us ls n k w' (j + 1) := by
  refine ⟨World.ownsRow.kept h.out hg (own_ne h.out (h.inn j hj) (by decide)), fun t ht => ?_, h.bel.trans (below_gbi hg (fun q hq => (World.ownsRow.lt (h.inn j hj) q hq).1) (Nat.le_trans hb h.bel.size))⟩
  by_cases e : t = j
  · subst e
    unfold mdS
    rw [if_pos (by omega)]
    exact hr
  · have := h.inn t ht
    have e2 : mdS k ls (j + 1) t = mdS k ls j t := by
      unfold mdS
      by_cases hc : t < j
      · rw [if_pos hc, if_pos (by omega)]
      · rw [if_neg hc, if_neg (by omega)]
    rw [e2]
    exact World.ownsRow.kept this hg (ap t j ht hj e)
end

end Go.Proofs.YtlkemmdcjnaepaaDoor
