/- Rows of inodes: what a write leaves. -/
import Derived.Test.YtgjehmobafkjfaaVrA
import Derived.Test.YtgjehmobafkjfaaLEp
namespace Go.Proofs.Ytgjehmobafkjfaa
open Go.RowKit

theorem flatI_set : ∀ (l : List (Ino × Value)) (t c : Nat) (y : Value) (x : Ino) (s : Value), t < l.length → c < 5 → (encI l[t]!.1 l[t]!.2).set c y = encI x s → (flatI l).set (t * 5 + c) y = flatI (l.set t (x, s))
  | [], t, _, _, _, _, h, _, _ => by simp at h
  | e :: l, 0, c, y, x, s, _, hc, he => by
    rw [flatI_cons, List.set_append_left _ _ (by rw [encI_len]; omega), List.set_cons_zero, flatI_cons, Nat.zero_mul, Nat.zero_add]
    exact congrArg (· ++ flatI l) he
  | e :: l, t + 1, c, y, x, s, h, hc, he => by
    have ih := flatI_set l t c y x s (by simpa using h) hc he
    rw [flatI_cons, List.set_append_right _ _ (by rw [encI_len]; omega), encI_len, show (t + 1) * 5 + c - 5 = t * 5 + c by omega, ih, List.set_cons_succ, flatI_cons]
theorem EntRow.kept {w w' : World} {base : Nat} {s : Value} {d : List En} {r : Option Nat} (h : EntRow w base s d) (hg : w.grownBy w' r) (hne : s.ownBlock = none ∨ s.ownBlock ≠ r) : EntRow w' base s d :=
  ⟨h.1, by
    rcases h.2 with h0 | ⟨g, cap, cur, e, hb, hh, r'⟩
    · exact .inl h0
    · refine .inr ⟨g, cap, cur, e, hb, ?_, r'⟩
      rw [← hh]
      refine hg.block g (lt_of_block hh) ?_
      subst e
      simpa [Value.ownBlock] using hne⟩
/-- a row of inodes and a row of entries lie in different blocks -/
theorem ent_ino_ne {w : World} {base base2 g n cap : Nat} {s : Value} {d : List En} {xs : List Value} (h : EntRow w base s d) (hr : w.ownsRow base2 38 5 (.slice (some ⟨g, 0, none⟩) n cap) n xs) : s.ownBlock ≠ some g := by
  intro hc
  rcases hr.2 with ⟨h0, _⟩ | ⟨g1, cap1, cur1, h0, _, hh1, _⟩
  · cases h0
  · cases h0
    rcases h.2 with ⟨rfl, _⟩ | ⟨g2, cap2, cur2, rfl, _, hh2, _⟩
    · simp [Value.ownBlock] at hc
    · simp only [Value.ownBlock, Option.some.injEq] at hc
      subst hc
      rw [hh1] at hh2
      simp at hh2
theorem at_set {α : Type} [Inhabited α] (l : List α) (i j : Nat) (x : α) (hj : j < l.length) : (l.set i x)[j]! = if i = j then x else l[j]! := by
  rw [getElem!_pos _ j (by simpa using hj), List.getElem_set]
  split
  · rfl
  · rw [getElem!_pos l j hj]
/-- the row's own cells are written, the slices of the entries stay -/
theorem InoRow.re {w w' : World} {base g n cap : Nat} {l l' : List (Ino × Value)} (h : InoRow w base (.slice (some ⟨g, 0, none⟩) n cap) l) (hg : w.grownBy w' (some g)) (hn : n = l.length) (hr : w'.ownsRow base 38 5 (.slice (some ⟨g, 0, none⟩) n cap) n (flatI l')) (hl : l'.length = l.length)
    (hs : ∀ t, t < l.length → l'[t]!.2 = l[t]!.2 ∧ l'[t]!.1.ents = l[t]!.1.ents) : InoRow w' base (.slice (some ⟨g, 0, none⟩) n cap) l' := by
  subst hn
  refine ⟨by rw [hl]; exact hr, fun t ht => ?_, ?_⟩
  · obtain ⟨e1, e2⟩ := hs t (by omega)
    rw [e1, e2]
    exact (h.ents t (by omega)).kept hg (.inr (ent_ino_ne (h.ents t (by omega)) h.row))
  · have := h.apart
    rw [List.pairwise_iff_getElem] at this ⊢
    intro i j hi hj hij
    have h1 := (hs i (by omega)).1
    have h2 := (hs j (by omega)).1
    rw [getElem!_pos l' i hi, getElem!_pos l i (by omega)] at h1
    rw [getElem!_pos l' j hj, getElem!_pos l j (by omega)] at h2
    rw [h1, h2]; exact this i j (by omega) (by omega) hij
/-- the entries of one of them are written where they lie -/
theorem InoRow.ent {w w' : World} {base : Nat} {v : Value} {l : List (Ino × Value)} (h : InoRow w base v l) {j : Nat} (hj : j < l.length) {d : List En} (hd : EntRow w' base l[j]!.2 d) (hg : w.grownBy w' l[j]!.2.ownBlock) :
    InoRow w' base v (l.set j (⟨l[j]!.1.id, l[j]!.1.kind, l[j]!.1.links, l[j]!.1.data, d⟩, l[j]!.2)) := by
  have hfl : flatI (l.set j (⟨l[j]!.1.id, l[j]!.1.kind, l[j]!.1.links, l[j]!.1.data, d⟩, l[j]!.2)) = flatI l := by
    rw [← flatI_set l j 4 l[j]!.2 ⟨l[j]!.1.id, l[j]!.1.kind, l[j]!.1.links, l[j]!.1.data, d⟩ l[j]!.2 hj (by omega) rfl]
    have := flatI_at l j hj 4 (by omega)
    apply List.ext_getElem?
    intro i
    rw [List.getElem?_set]
    split
    · rename_i hi
      subst hi
      rw [this, if_pos (by rw [flatI_len]; omega)]; rfl
    · rfl
  refine ⟨?_, fun t ht => ?_, ?_⟩
  · rw [hfl, List.length_set]
    refine ⟨h.row.1, ?_⟩
    rcases h.row.2 with h0 | ⟨g, cap, cur, e, hb, hh, r⟩
    · exact .inl h0
    · refine .inr ⟨g, cap, cur, e, hb, ?_, r⟩
      rw [← hh]
      refine hg.block g (lt_of_block hh) ?_
      have hr := h.row
      rw [e] at hr
      exact Ne.symm (ent_ino_ne (h.ents j hj) hr)
  · rw [List.length_set] at ht
    rw [at_set l j t _ ht]
    by_cases e : j = t
    · rw [if_pos e]; exact hd
    · rw [if_neg e]
      refine (h.ents t ht).kept hg ?_
      have hp := h.apart
      rw [List.pairwise_iff_getElem] at hp
      rcases Nat.lt_or_gt_of_ne e with hlt | hlt
      · have := hp j t hj ht hlt
        rw [getElem!_pos l t ht, getElem!_pos l j hj]
        rcases this with h1 | h1
        · by_cases h2 : (l[t]).2.ownBlock = none
          · exact .inl h2
          · right; rw [h1]; exact h2
        · exact .inr (Ne.symm h1)
      · have := hp t j ht hj hlt
        rw [getElem!_pos l t ht, getElem!_pos l j hj]
        exact this
  · have hp := h.apart
    rw [List.pairwise_iff_getElem] at hp ⊢
    intro i k hi hk hik
    rw [List.length_set] at hi hk
    have h1 := at_set l j i (⟨l[j]!.1.id, l[j]!.1.kind, l[j]!.1.links, l[j]!.1.data, d⟩, l[j]!.2) hi
    have h2 := at_set l j k (⟨l[j]!.1.id, l[j]!.1.kind, l[j]!.1.links, l[j]!.1.data, d⟩, l[j]!.2) hk
    rw [getElem!_pos _ i (by simpa using hi)] at h1
    rw [getElem!_pos _ k (by simpa using hk)] at h2
    have e1 : (if j = i then ((⟨l[j]!.1.id, l[j]!.1.kind, l[j]!.1.links, l[j]!.1.data, d⟩, l[j]!.2) : Ino × Value) else l[i]!).2 = l[i].2 := by
      split
      · rename_i e; subst e; rw [getElem!_pos l j hi]
      · rw [getElem!_pos l i hi]
    have e2 : (if j = k then ((⟨l[j]!.1.id, l[j]!.1.kind, l[j]!.1.links, l[j]!.1.data, d⟩, l[j]!.2) : Ino × Value) else l[k]!).2 = l[k].2 := by
      split
      · rename_i e; subst e; rw [getElem!_pos l j hk]
      · rw [getElem!_pos l k hk]
    rw [h1, h2, e1, e2]
    exact hp i k hi hk hik

end Go.Proofs.Ytgjehmobafkjfaa
