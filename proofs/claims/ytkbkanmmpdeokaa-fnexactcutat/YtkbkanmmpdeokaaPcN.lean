/- Extents, pure: each extent cut in two. -/
import Derived.Test.YtkbkanmmpdeokaaRows
import Derived.Test.YtkbkanmmpdeokaaSEf
namespace Go.Proofs.Ytkbkanmmpdeokaa
open Go.RowKit

def stN (x : Ex) (n : Int) : Int := min (max n x.p) (x.p + x.n) - x.p
theorem stN_bd {x : Ex} (h : 1 ≤ x.n) (n : Int) : 0 ≤ stN x n ∧ stN x n ≤ x.n := by unfold stN; omega
theorem stN_lt {x : Ex} (n i : Int) (h1 : x.p ≤ i) (h2 : i < x.p + x.n) : i < x.p + stN x n ↔ i < n := by unfold stN; omega
def keptE (x : Ex) (n : Int) : List Ex := if 0 < stN x n then [⟨x.p, x.b, stN x n⟩] else []
def goesE (x : Ex) (n : Int) : List Int := (List.range (x.n - stN x n).toNat).map fun k : Nat => x.b + stN x n + k
def keptN (l : List Ex) (n : Int) : List Ex := l.flatMap fun x => keptE x n
def goesN (l : List Ex) (n : Int) : List Int := l.flatMap fun x => goesE x n
theorem kept_step (l : List Ex) (n : Int) (k : Nat) (hk : k < l.length) : keptN (l.take (k + 1)) n = keptN (l.take k) n ++ keptE l[k]! n := by
  rw [ex_take l k hk]; simp [keptN]
theorem goes_step (l : List Ex) (n : Int) (k : Nat) (hk : k < l.length) : goesN (l.take (k + 1)) n = goesN (l.take k) n ++ goesE l[k]! n := by
  rw [ex_take l k hk]; simp [goesN]
theorem kept_len (l : List Ex) (n : Int) : (keptN l n).length ≤ l.length := by
  induction l with
  | nil => simp [keptN]
  | cons x l ih =>
    have e : keptN (x :: l) n = keptE x n ++ keptN l n := by simp [keptN]
    rw [e, List.length_append, List.length_cons]
    have : (keptE x n).length ≤ 1 := by unfold keptE; split <;> simp
    omega
theorem kept_mem {l : List Ex} {n : Int} {r : Ex} (h : r ∈ keptN l n) : ∃ x ∈ l, 0 < stN x n ∧ r = ⟨x.p, x.b, stN x n⟩ := by
  obtain ⟨x, hx, hr⟩ := List.mem_flatMap.1 h
  unfold keptE at hr
  by_cases c : 0 < stN x n
  · rw [if_pos c] at hr
    exact ⟨x, hx, c, List.mem_singleton.1 hr⟩
  · rw [if_neg c] at hr; cases hr
theorem kept_at {l : List Ex} (h : ∀ r ∈ l, 1 ≤ r.n) (n i c : Int) : ExAt (keptN l n) i c ↔ ExAt l i c ∧ i < n := by
  constructor
  · rintro ⟨r, hr, h1, h2, h3⟩
    obtain ⟨x, hx, hp, rfl⟩ := kept_mem hr
    dsimp only at h1 h2 h3
    have hb := stN_bd (h x hx) n
    exact ⟨⟨x, hx, h1, by omega, h3⟩, (stN_lt n i h1 (by omega)).1 h2⟩
  · rintro ⟨⟨x, hx, h1, h2, h3⟩, h4⟩
    have h5 := (stN_lt n i h1 h2).2 h4
    refine ⟨⟨x.p, x.b, stN x n⟩, List.mem_flatMap.2 ⟨x, hx, ?_⟩, h1, h5, h3⟩
    unfold keptE
    rw [if_pos (by omega)]
    exact List.mem_singleton.2 rfl
theorem kept_g {l : List Ex} (h : ExG l) (n : Int) : ExG (keptN l n) := by
  refine ⟨?_, fun r hr => ?_⟩
  · obtain ⟨hg, ho⟩ := h
    induction l with
    | nil => simp [keptN]
    | cons x l ih =>
      have e : keptN (x :: l) n = keptE x n ++ keptN l n := by simp [keptN]
      obtain ⟨g1, g2⟩ := List.pairwise_cons.1 hg
      rw [e]
      refine List.pairwise_append.2 ⟨?_, ih g2 fun r hr => ho r (List.mem_cons_of_mem _ hr), fun r hr s hs => ?_⟩
      · unfold keptE; split
        · exact List.pairwise_singleton _ _
        · exact List.Pairwise.nil
      · obtain ⟨y, hy, hp, rfl⟩ := kept_mem hs
        have hx1 := ho x (List.mem_cons_self ..)
        have hb := stN_bd hx1 n
        have hg1 := g1 y hy
        unfold keptE at hr
        by_cases c : 0 < stN x n
        · rw [if_pos c] at hr
          obtain rfl := List.mem_singleton.1 hr
          obtain ⟨a1, a2⟩ := hg1
          refine ⟨by dsimp only; omega, fun ⟨e1, e2⟩ => a2 ?_⟩
          dsimp only at e1 e2
          omega
        · rw [if_neg c] at hr; cases hr
  · obtain ⟨x, hx, hp, rfl⟩ := kept_mem hr
    dsimp only; omega
theorem cut_kept {l : List Ex} (h : ExR l) (n : Int) : cutN l n = keptN l n := by
  unfold cutN
  rw [if_pos h]
  obtain ⟨h1, h2⟩ := cutM_ok h n
  exact ex_uniq _ _ h1.g (kept_g h.g n) fun i c => by rw [h2, kept_at (fun r hr => (h.one r hr).2.1)]
theorem gone_goes {l : List Ex} (h : ExR l) (n : Int) : goneE l n = goesN l n := by
  unfold goneE goneN pairsN goesN
  rw [if_pos h, List.filter_flatMap, List.map_flatMap]
  have ho : ∀ r ∈ l, 1 ≤ r.n := fun r hr => (h.one r hr).2.1
  clear h
  induction l with
  | nil => rfl
  | cons x l ih =>
    rw [List.flatMap_cons, List.flatMap_cons, ih fun r hr => ho r (List.mem_cons_of_mem _ hr)]
    congr 1
    have hx := ho x (List.mem_cons_self ..)
    obtain ⟨b1, b2⟩ := stN_bd hx n
    have hst : ∀ k : Nat, (k : Int) < x.n → (n ≤ x.p + k ↔ stN x n ≤ k) := fun k hk => by unfold stN; omega
    unfold goesE
    obtain ⟨A, hA⟩ : ∃ A : Nat, stN x n = A := ⟨(stN x n).toNat, by omega⟩
    obtain ⟨N, hN⟩ : ∃ N : Nat, x.n = N := ⟨x.n.toNat, by omega⟩
    rw [hA] at b1 b2 hst ⊢
    rw [hN] at b2 hst ⊢
    rw [show ((N : Int) - (A : Int)).toNat = N - A by omega, show ((N : Nat) : Int).toNat = N by omega]
    obtain ⟨D, rfl⟩ : ∃ D, N = A + D := ⟨N - A, by omega⟩
    rw [show A + D - A = D by omega, List.range_add, List.map_append, List.filter_append, List.map_append]
    have e1 : ((List.range A).map fun k : Nat => (x.p + (k : Int), x.b + (k : Int))).filter (fun y : Int × Int => decide (n ≤ y.1)) = [] := by
      rw [List.filter_eq_nil_iff]
      rintro ⟨y1, y2⟩ hy
      obtain ⟨k, hk, e⟩ := List.mem_map.1 hy
      cases e
      have := List.mem_range.1 hk
      have := hst k (by omega)
      simp only [decide_eq_true_eq]
      omega
    have e2 : (((List.range D).map (A + ·)).map fun k : Nat => (x.p + (k : Int), x.b + (k : Int))).filter (fun y : Int × Int => decide (n ≤ y.1)) = ((List.range D).map (A + ·)).map fun k : Nat => (x.p + (k : Int), x.b + (k : Int)) := by
      rw [List.filter_eq_self]
      rintro ⟨y1, y2⟩ hy
      obtain ⟨k, hk, e⟩ := List.mem_map.1 hy
      cases e
      obtain ⟨j, hj, rfl⟩ := List.mem_map.1 hk
      have := List.mem_range.1 hj
      have := hst (A + j) (by omega)
      exact decide_eq_true (by omega)
    rw [e1, e2, List.map_nil, List.nil_append, List.map_map, List.map_map]
    apply List.map_congr_left
    intro k hk
    show x.b + ((A + k : Nat) : Int) = x.b + (A : Int) + (k : Int)
    omega
end Go.Proofs.Ytkbkanmmpdeokaa
