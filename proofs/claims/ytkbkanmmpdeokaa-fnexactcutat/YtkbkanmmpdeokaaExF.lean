/- Extents, pure: what FnExts asks of PutBlock, CutAt and BlocksOf. -/
import Derived.Test.YtkbkanmmpdeokaaRows
import Derived.Test.YtkbkanmmpdeokaaSEg
namespace Go.Proofs.Ytkbkanmmpdeokaa
open Go.RowKit

theorem exM_ext {x : List Ex} (hx : ExR x) {k : Nat} (hk : k < 12) {z : Int} (hz : 0 ≤ z ∨ z = -1) (h : ∀ c, ExAt x k c ↔ c = z ∧ 0 ≤ c) : (exM x)[k]! = z := by
  rcases hz with hz | hz
  · exact exM_some hx.g hk ((h z).2 ⟨rfl, hz⟩)
  · subst hz
    exact exM_none hk fun c hc => by have := (h c).1 hc; omega
theorem put_at {l : List Ex} (h : ExR l) {i b : Int} (hp : putOk l i b) (k : Nat) (hk : k < 12) : (exM (extsN (putM l i b)))[k]! = if (k : Int) = i then b else (exM l)[k]! := by
  obtain ⟨hr, ha⟩ := putM_ok h hp
  by_cases e : (k : Int) = i
  · rw [if_pos e]
    refine exM_ext hr hk (.inl hp.2.2.1.1) fun c => ?_
    rw [ha, e]
    constructor
    · rintro (h1 | h1)
      · exact absurd h1 (hp.2.1 c)
      · exact ⟨h1.2, by have := hp.2.2.1.1; omega⟩
    · rintro ⟨h1, -⟩
      exact .inr ⟨rfl, h1⟩
  · rw [if_neg e]
    refine exM_ext hr hk (exM_neg h k hk) fun c => ?_
    rw [ha, exM_iff h k hk]
    constructor
    · rintro (h1 | h1)
      · exact ⟨h1.1.symm, h1.2⟩
      · exact absurd h1.1 e
    · rintro ⟨h1, h2⟩
      exact .inl ⟨h1.symm, h2⟩
theorem cut_at {l : List Ex} (h : ExR l) (n : Int) (k : Nat) (hk : k < 12) : (exM (extsN (cutM l n)))[k]! = if n ≤ (k : Int) then -1 else (exM l)[k]! := by
  obtain ⟨hr, ha⟩ := cutM_ok h n
  by_cases e : n ≤ (k : Int)
  · rw [if_pos e]
    exact exM_none hk fun c hc => by have := ((ha _ _).1 hc).2; omega
  · rw [if_neg e]
    refine exM_ext hr hk (exM_neg h k hk) fun c => ?_
    rw [ha, exM_iff h k hk]
    constructor
    · rintro ⟨h1, h2⟩; exact ⟨h1.1.symm, h1.2⟩
    · rintro ⟨h1, h2⟩; exact ⟨⟨h1.symm, h2⟩, by omega⟩
theorem filt_add : ∀ (L : List Nat) (p q r : Nat → Bool), (∀ c ∈ L, r c = (p c || q c) ∧ (p c && q c) = false) → (L.filter r).length = (L.filter p).length + (L.filter q).length
  | [], _, _, _, _ => rfl
  | c :: L, p, q, r, h => by
    have ih := filt_add L p q r fun x hx => h x (List.mem_cons_of_mem _ hx)
    obtain ⟨h1, h2⟩ := h c (List.mem_cons_self ..)
    simp only [List.filter_cons]
    cases hp : p c <;> cases hq : q c <;> rw [hp, hq] at h1 h2 <;> simp at h1 h2 <;> simp [h1] <;> omega
theorem one_of : ∀ B < 24, ((List.range 24).filter fun c : Nat => decide ((c : Int) = ((B : Nat) : Int))).length = 1 := by decide
theorem put_len {l : List Ex} (h : ExR l) {i b : Int} (hp : putOk l i b) : (blocksE (extsN (putM l i b))).length = (blocksE l).length + 1 := by
  obtain ⟨hr, ha⟩ := putM_ok h hp
  have hb := hp.2.2.1
  have h1 := one_of b.toNat (by omega)
  rw [show ((b.toNat : Nat) : Int) = b by omega] at h1
  unfold blocksE
  rw [List.length_map, List.length_map, ← h1]
  refine filt_add _ _ _ _ fun c hc => ?_
  have m1 := exM_mem hr (c : Int) (by omega)
  have m2 := exM_mem h (c : Int) (by omega)
  constructor
  · rw [Bool.eq_iff_iff, Bool.or_eq_true, List.contains_iff_mem, List.contains_iff_mem, m1, m2, decide_eq_true_eq]
    constructor
    · rintro ⟨j, hj⟩
      rcases (ha _ _).1 hj with hj | hj
      · exact .inl ⟨j, hj⟩
      · exact .inr hj.2
    · rintro (⟨j, hj⟩ | e)
      · exact ⟨j, (ha _ _).2 (.inl hj)⟩
      · exact ⟨i, (ha _ _).2 (.inr ⟨rfl, e⟩)⟩
  · rw [Bool.eq_false_iff]
    intro e
    rw [Bool.and_eq_true, List.contains_iff_mem, m2, decide_eq_true_eq] at e
    obtain ⟨⟨j, hj⟩, e⟩ := e
    rw [e] at hj
    exact hp.2.2.2 j hj
/-- as many blocks as file blocks that have one -/
theorem blocksE_len {l : List Ex} (h : ExR l) : (blocksE l).length = ((List.range 12).filter fun j : Nat => decide (0 ≤ (exM l)[j]!)).length := by
  have hp : ((List.range 12).filter fun j : Nat => decide (0 ≤ (exM l)[j]!)).Pairwise (· < ·) := List.pairwise_lt_range.filter _
  have hm : ∀ j, j ∈ ((List.range 12).filter fun j : Nat => decide (0 ≤ (exM l)[j]!)) ↔ j < 12 ∧ 0 ≤ (exM l)[j]! := fun j => by
    rw [List.mem_filter, List.mem_range, decide_eq_true_eq]
  have d2 : (((List.range 12).filter fun j : Nat => decide (0 ≤ (exM l)[j]!)).map fun j : Nat => (exM l)[j]!).Nodup := by
    refine List.pairwise_map.2 (hp.imp_of_mem fun {a b} ha hb hab e => ?_)
    have h1 := (hm a).1 ha
    have h2 := (hm b).1 hb
    have := exM_own h a b h1.1 h2.1 h1.2 e
    omega
  have d1 : (blocksE l).Nodup := (blocksE_rise l).imp fun {a b} hab e => by omega
  have hperm := (List.perm_ext_iff_of_nodup d1 d2).2 fun c => by
    rw [blocksE_mem h, List.mem_map]
    constructor
    · rintro ⟨i, hi⟩
      have hb := h.bd hi
      have e : i = ((i.toNat : Nat) : Int) := by omega
      rw [e] at hi
      obtain ⟨e1, e2⟩ := (exM_iff h i.toNat (by omega) c).1 hi
      exact ⟨i.toNat, (hm _).2 ⟨by omega, by omega⟩, e1⟩
    · rintro ⟨j, hj, rfl⟩
      obtain ⟨h1, h2⟩ := (hm j).1 hj
      exact ⟨j, (exM_iff h j h1 _).2 ⟨rfl, h2⟩⟩
  rw [hperm.length_eq, List.length_map]
theorem cut_len {l : List Ex} (h : ExR l) (n : Int) : (blocksE (extsN (cutM l n))).length + (goneN l n).length = (blocksE l).length := by
  rw [blocksE_len h, blocksE_len (cutM_ok h n).1, gone_is h n, List.length_map]
  refine (filt_add _ _ _ _ fun j hj => ?_).symm
  rw [List.mem_range] at hj
  rw [cut_at h n j hj]
  by_cases e : n ≤ (j : Int)
  · rw [if_pos e]; simp [e]
  · rw [if_neg e]; simp [e]

theorem blockN_at {l : List Ex} (h : ExR l) (k : Nat) (hk : k < 12) : blockN l k = (exM l)[k]! := by
  unfold blockN; rw [if_pos ⟨h, by omega, by omega⟩]; rfl
/-- what FnExts asks of a block that is put -/
structure PutF (l x : List Ex) (i b : Int) (is : Bool) : Prop where
  r : okE x = true
  at' : ∀ k : Nat, k < 12 → blockN x k = if is = true ∧ (k : Int) = i then b else blockN l k
  n : is = true → (blocksN x).length = (blocksN l).length + 1
theorem put_facts {l : List Ex} (h : ExR l) (i b : Int) : PutF l (putN l i b) i b (putB l i b) := by
  by_cases hp : putOk l i b
  · obtain ⟨e1, e2⟩ := putN_yes h hp
    have hr := (putM_ok h hp).1
    rw [e1, e2]
    refine ⟨okE_yes hr, fun k hk => ?_, fun _ => ?_⟩
    · rw [blockN_at hr k hk, put_at h hp k hk, blockN_at h k hk]
      by_cases e : (k : Int) = i
      · rw [if_pos e, if_pos ⟨rfl, e⟩]
      · rw [if_neg e, if_neg (fun h => e h.2)]
    · unfold blocksN; rw [if_pos hr, if_pos h]; exact put_len h hp
  · obtain ⟨e1, e2⟩ := putN_no h hp
    rw [e1, e2]
    exact ⟨okE_yes h, fun k hk => by rw [if_neg (fun h => by cases h.1)], fun h => by cases h⟩
structure CutF (l y : List Ex) (g : List Int) (n : Int) : Prop where
  r : okE y = true
  at' : ∀ k : Nat, k < 12 → blockN y k = if n ≤ (k : Int) then -1 else blockN l k
  n : (blocksN y).length + g.length = (blocksN l).length
theorem cut_facts {l : List Ex} (h : ExR l) (n : Int) : CutF l (cutN l n) (goneE l n) n := by
  have hr := (cutM_ok h n).1
  unfold cutN goneE
  rw [if_pos h, if_pos h]
  refine ⟨okE_yes hr, fun k hk => ?_, ?_⟩
  · rw [blockN_at hr k hk, cut_at h n k hk, blockN_at h k hk]
  · unfold blocksN; rw [if_pos hr, if_pos h]; exact cut_len h n
theorem bad_facts {l : List Ex} (h : ¬ ExR l) : (∀ i b, putN l i b = [] ∧ blockN l i = -1) ∧ ∀ n, cutN l n = [] ∧ goneE l n = [] :=
  ⟨fun i b => ⟨(putN_bad h i b).1, by unfold blockN; rw [if_neg (fun hh => h hh.1)]⟩, fun n => ⟨by unfold cutN; rw [if_neg h], by unfold goneE; rw [if_neg h]⟩⟩
theorem blocksN_len (l : List Ex) : (blocksN l).length ≤ 24 := by
  unfold blocksN
  split
  · unfold blocksE
    rw [List.length_map]
    exact Nat.le_trans (List.length_filter_le _ _) (by simp)
  · simp
theorem cutN_len (l : List Ex) (n : Int) : (cutN l n).length ≤ 12 := by
  unfold cutN
  split
  · unfold extsN
    rw [List.length_reverse]
    exact Nat.le_trans (extsUp_len _ _) (by rw [cutM_len]; exact Nat.le_refl _)
  · simp
theorem goneE_len (l : List Ex) (n : Int) : (goneE l n).length ≤ 12 := by
  unfold goneE
  split
  · next h => rw [← goneK_all h]; exact goneK_len l n 12
  · simp
end Go.Proofs.Ytkbkanmmpdeokaa
