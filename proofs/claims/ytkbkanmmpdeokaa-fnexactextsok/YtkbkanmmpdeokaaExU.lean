/- Extents, pure: what PutBlock, CutAt and BlocksOf come to. -/
import Derived.Test.YtkbkanmmpdeokaaRows
import Derived.Test.YtkbkanmmpdeokaaExT
namespace Go.Proofs.Ytkbkanmmpdeokaa
open Go.RowKit

theorem ExAt_fun {l : List Ex} (h : ExG l) {i : Int} {c d : Int} (h1 : ExAt l i c) (h2 : ExAt l i d) : c = d := by
  induction l with
  | nil => obtain ⟨r, hr, _⟩ := h1; cases hr
  | cons r t ih =>
    rcases (ExAt_cons _ _ _ _).1 h1 with a | a <;> rcases (ExAt_cons _ _ _ _).1 h2 with b | b
    · omega
    · have := (h.behind b).1; omega
    · have := (h.behind a).1; omega
    · exact ih h.tail a b
theorem ExR.bd {l : List Ex} (h : ExR l) {i c : Int} (hc : ExAt l i c) : 0 ≤ i ∧ i < 12 ∧ 0 ≤ c ∧ c < 24 := by
  obtain ⟨r, hr, h1, h2, h3⟩ := hc
  have := h.one r hr
  omega
/-- the map tells where each file block is -/
theorem exM_iff {l : List Ex} (h : ExR l) (i : Nat) (hi : i < 12) (c : Int) : ExAt l i c ↔ (exM l)[i]! = c ∧ 0 ≤ c := by
  constructor
  · intro hc
    exact ⟨exM_some h.g hi hc, (h.bd hc).2.2.1⟩
  · rintro ⟨e, h0⟩
    by_cases hex : ∃ d, ExAt l i d
    · obtain ⟨d, hd⟩ := hex
      rw [exM_some h.g hi hd] at e
      rw [← e]; exact hd
    · have := exM_none (l := l) hi (fun d hd => hex ⟨d, hd⟩)
      omega
theorem exM_lt {l : List Ex} (h : ExR l) (k : Nat) : (exM l)[k]! < 24 := by
  by_cases hk : k < 12
  · by_cases h0 : 0 ≤ (exM l)[k]!
    · exact (h.bd ((exM_iff h k hk _).2 ⟨rfl, h0⟩)).2.2.2
    · omega
  · have : (exM l)[k]! = default := getElem!_neg _ _ (by rw [exM_len]; exact hk)
    rw [this]; decide
theorem exM_own {l : List Ex} (h : ExR l) (j k : Nat) (hj : j < 12) (hk : k < 12) (h0 : 0 ≤ (exM l)[j]!) (e : (exM l)[j]! = (exM l)[k]!) : j = k := by
  have a := (exM_iff h j hj _).2 ⟨rfl, h0⟩
  have b := (exM_iff h k hk _).2 ⟨e.symm, h0⟩
  have := h.own _ _ _ a b
  omega
theorem exM_neg {l : List Ex} (h : ExR l) (k : Nat) (hk : k < 12) : 0 ≤ (exM l)[k]! ∨ (exM l)[k]! = -1 := by
  by_cases hex : ∃ d, ExAt l k d
  · obtain ⟨d, hd⟩ := hex
    exact .inl (by rw [exM_some h.g hk hd]; exact (h.bd hd).2.2.1)
  · exact .inr (exM_none hk (fun d hd => hex ⟨d, hd⟩))
/-- right extents are the extents of their map -/
theorem exts_self {l : List Ex} (h : ExR l) : extsN (exM l) = l := by
  obtain ⟨hr, ha⟩ := extsN_right (exM_len l) (exM_lt h) (exM_own h)
  refine ex_uniq _ _ hr.g h.g fun i c => ?_
  rw [ha]
  constructor
  · rintro ⟨j, rfl, hj, rfl, h0⟩
    exact (exM_iff h j hj _).2 ⟨rfl, h0⟩
  · intro hc
    have hb := h.bd hc
    have hi : i = ((i.toNat : Nat) : Int) := by omega
    rw [hi] at hc
    obtain ⟨e, h0⟩ := (exM_iff h i.toNat (by omega) c).1 hc
    exact ⟨i.toNat, hi, by omega, e.symm, h0⟩
/-- whoever gives right extents with this map gives these -/
theorem exts_is {k : List Ex} (h : ExR k) {m : List Int} (hl : m.length = 12) (hm : ∀ j : Nat, m[j]! < 24) (hd : ∀ j t : Nat, j < 12 → t < 12 → 0 ≤ m[j]! → m[j]! = m[t]! → j = t)
    (ha : ∀ (j : Nat) c, j < 12 → (ExAt k j c ↔ m[j]! = c ∧ 0 ≤ c)) : k = extsN m := by
  obtain ⟨hr, hb⟩ := extsN_right hl hm hd
  refine ex_uniq _ _ h.g hr.g fun i c => ?_
  rw [hb]
  constructor
  · intro hc
    have hbd := h.bd hc
    have hi : i = ((i.toNat : Nat) : Int) := by omega
    rw [hi] at hc
    obtain ⟨e, h0⟩ := (ha i.toNat c (by omega)).1 hc
    exact ⟨i.toNat, hi, by omega, e.symm, h0⟩
  · rintro ⟨j, rfl, hj, rfl, h0⟩
    exact (ha j _ hj).2 ⟨rfl, h0⟩

/-- a free file block -/
def putOk (l : List Ex) (i b : Int) : Prop := (0 ≤ i ∧ i < 12) ∧ (∀ c, ¬ ExAt l i c) ∧ (0 ≤ b ∧ b < 24) ∧ ∀ j, ¬ ExAt l j b
def putM (l : List Ex) (i b : Int) : List Int := (exM l).set i.toNat b
theorem set_get (m : List Int) (k j : Nat) (x : Int) (hk : k < m.length) : (m.set k x)[j]! = if j = k then x else m[j]! := by
  by_cases hj : j < m.length
  · rw [getElem!_pos _ j (by simpa using hj), List.getElem_set, getElem!_pos m j hj]
    by_cases e : j = k
    · rw [if_pos e.symm, if_pos e]
    · rw [if_neg (fun h => e h.symm), if_neg e]
  · rw [getElem!_neg _ j (by simpa using hj), getElem!_neg m j hj, if_neg (by omega)]
theorem putM_ok {l : List Ex} (h : ExR l) {i b : Int} (hp : putOk l i b) :
    ExR (extsN (putM l i b)) ∧ ∀ j c, ExAt (extsN (putM l i b)) j c ↔ ExAt l j c ∨ (j = i ∧ c = b) := by
  obtain ⟨⟨i0, i1⟩, hf, ⟨b0, b1⟩, hn⟩ := hp
  have hg : ∀ j : Nat, (putM l i b)[j]! = if j = i.toNat then b else (exM l)[j]! := fun j => set_get _ _ _ _ (by rw [exM_len]; omega)
  have hne : ∀ j : Nat, j < 12 → (exM l)[j]! ≠ b := fun j hj e => hn j ((exM_iff h j hj b).2 ⟨e, b0⟩)
  obtain ⟨hr, ha⟩ := extsN_right (m := putM l i b) (by unfold putM; rw [List.length_set, exM_len]) (fun k => by
    rw [hg]
    split
    · exact b1
    · exact exM_lt h k) (fun j k hj hk h0 e => by
    rw [hg, hg] at e
    rw [hg] at h0
    by_cases ej : j = i.toNat <;> by_cases ek : k = i.toNat
    · omega
    · rw [if_pos ej, if_neg ek] at e
      exact absurd e.symm (hne k hk)
    · rw [if_neg ej, if_pos ek] at e
      exact absurd e (hne j hj)
    · rw [if_neg ej, if_neg ek] at e
      rw [if_neg ej] at h0
      exact exM_own h j k hj hk h0 e)
  refine ⟨hr, fun j c => ?_⟩
  rw [ha]
  constructor
  · rintro ⟨k, rfl, hk, rfl, h0⟩
    rw [hg] at h0 ⊢
    by_cases e : k = i.toNat
    · rw [if_pos e]
      exact .inr ⟨by omega, rfl⟩
    · rw [if_neg e] at h0 ⊢
      exact .inl ((exM_iff h k hk _).2 ⟨rfl, h0⟩)
  · rintro (hc | ⟨rfl, rfl⟩)
    · have hb := h.bd hc
      have hi : j = ((j.toNat : Nat) : Int) := by omega
      rw [hi] at hc
      obtain ⟨e, h0⟩ := (exM_iff h j.toNat (by omega) c).1 hc
      refine ⟨j.toNat, hi, by omega, ?_, h0⟩
      rw [hg]
      by_cases e2 : j.toNat = i.toNat
      · exact absurd (by rwa [← hi, show j = i by omega] at hc) (hf c)
      · rw [if_neg e2, e]
    · exact ⟨j.toNat, by omega, by omega, by rw [hg, if_pos rfl], b0⟩
end Go.Proofs.Ytkbkanmmpdeokaa
