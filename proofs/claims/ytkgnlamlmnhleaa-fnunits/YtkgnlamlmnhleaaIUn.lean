/- Signs in rows: impl.Units: the last row grows in its place. -/
import Derived.Test.YtkgnlamlmnhleaaRows
import Derived.Test.YtkgnlamlmnhleaaSUn
import Derived.Test.YtkgnlamlmnhleaaICls
import Derived.Test.YtkgnlamlmnhleaaApH
namespace Go.Proofs.Ytkgnlamlmnhleaa
open Go.RowKit

theorem UnR.grow {l : List Int} {vs : List (List Int)} {u : List Int} (h : UnR l (vs ++ [u])) (a : Int) (ha : clsN a ≠ 0) : UnR (l ++ [a]) (vs ++ [u ++ [a]]) := by
  obtain ⟨b, t, hu, ht⟩ := h.one u (by simp)
  refine ⟨?_, fun x hx => ?_, fun x hx => ?_⟩
  · have := h.all
    rw [← this]
    simp
  · rcases List.mem_append.1 hx with hx | hx
    · exact h.one x (by simp [hx])
    · rw [List.mem_singleton.1 hx, hu]
      refine ⟨b, t ++ [a], rfl, fun y hy => ?_⟩
      rcases List.mem_append.1 hy with hy | hy
      · exact ht y hy
      · rw [List.mem_singleton.1 hy]; exact ha
  · cases vs with
    | nil => cases hx
    | cons v vs =>
      rcases List.mem_append.1 (show x ∈ vs ++ [u ++ [a]] from hx) with hx | hx
      · exact h.beg x (by simp [hx])
      · rw [List.mem_singleton.1 hx, hu]
        have := h.beg u (by simp)
        rw [hu] at this
        exact this
theorem take_one (l : List Int) (k : Nat) (hk : k < l.length) : l.take (k + 1) = l.take k ++ [l.getD k 0] := by
  rw [List.take_add_one, List.getElem?_eq_getElem hk]
  simp [List.getD, hk]
/-- a sign more -/
theorem units_new (l : List Int) (k : Nat) (hk : k < l.length) (h : k = 0 ∨ clsN (l.getD k 0) = 0) : unitsN (l.take (k + 1)) = unitsN (l.take k) ++ [[] ++ [l.getD k 0]] := by
  rw [take_one l k hk]
  refine (units_uniq _ _ ((units_right (l.take k)).more (l.getD k 0) [] rfl (fun x hx => by cases hx) fun hne => ?_)).symm
  rcases h with rfl | h
  · exact absurd rfl hne
  · exact h
theorem units_old (l : List Int) (k : Nat) (hk : k < l.length) (h0 : k ≠ 0) (h : clsN (l.getD k 0) ≠ 0) : ∃ vs u, unitsN (l.take k) = vs ++ [u] ∧ unitsN (l.take (k + 1)) = vs ++ [u ++ [l.getD k 0]] := by
  have hr := units_right (l.take k)
  have hne : unitsN (l.take k) ≠ [] := fun e => by
    have := hr.all
    rw [e] at this
    have h2 := congrArg List.length this
    rw [List.length_take] at h2
    simp at h2
    omega
  refine ⟨(unitsN (l.take k)).dropLast, (unitsN (l.take k)).getLast hne, (List.dropLast_concat_getLast hne).symm, ?_⟩
  rw [← List.dropLast_concat_getLast hne] at hr
  rw [take_one l k hk]
  exact (units_uniq _ _ (hr.grow (l.getD k 0) h)).symm
theorem units_take (l : List Int) (k : Nat) : (unitsN (l.take k)).length ≤ k := Nat.le_trans (units_len _) (by rw [List.length_take]; exact Nat.min_le_left _ _)

/-- the last row has grown, and is laid in its place -/
theorem RwsRow.last {w w' : World} {base : Nat} {y y' : Value} {us : List Value} {ls : List (List Int)} {u m : List Int} {g cap : Nat} (h : RwsRow w base (.slice (some ⟨g, 0, none⟩) (ls.length + 1) cap) (us ++ [y]) (ls ++ [u])) (hul : us.length = ls.length)
    (hy : IntRow w' base y' m) (hg : w.grownBy w' y.ownBlock) (hk : ∀ k, y'.ownBlock = some k → y.ownBlock = some k ∨ w.heap.size ≤ k) :
    RwsRow (w'.setCell ⟨g, ls.length, none⟩ y') base (.slice (some ⟨g, 0, none⟩) (ls.length + 1) cap) (us ++ [y']) (ls ++ [m]) := by
  have hlen : (ls ++ [u]).length = ls.length + 1 := by simp
  have hlm : (ls ++ [m]).length = ls.length + 1 := by simp
  have hlast : IntRow w base y u := by
    have := h.inn ls.length (by omega)
    rwa [← hul, vD_new, hul, lD_new] at this
  have hold : ∀ t, t < ls.length → IntRow w base (vD us t) (lD ls t) := fun t ht => by
    have := h.inn t (by omega)
    rwa [vD_old (by omega), lD_old ht] at this
  have hap : ∀ t, t < ls.length → (vD us t).ownBlock = none ∨ (vD us t).ownBlock ≠ y.ownBlock := fun t ht => by
    have := h.ap t ls.length (by omega) (by omega) (by omega)
    rwa [vD_old (by omega), ← hul, vD_new] at this
  have hout := World.ownsRow.kept h.out hg (own_ne h.out hlast (by decide))
  rw [hlen] at hout
  have hset : w'.grownBy (w'.setCell ⟨g, ls.length, none⟩ y') (some g) := gbi_set w' g ls.length y'
  have kin : ∀ {z : Value} {l : List Int}, IntRow w' base z l → IntRow (w'.setCell ⟨g, ls.length, none⟩ y') base z l := fun hz => World.ownsRow.kept hz hset (own_ne hz hout (by decide))
  refine ⟨?_, fun t ht => ?_, fun s t hs ht hst => ?_⟩
  · have h1 := (hout.stored ls.length y').1
    rw [hlm]
    rwa [← hul, List.set_append_right _ _ (by omega), Nat.sub_self, List.set_cons_zero, hul] at h1
  · by_cases e : t < ls.length
    · rw [vD_old (by omega), lD_old e]
      exact kin (World.ownsRow.kept (hold t e) hg (hap t e))
    · obtain rfl : t = ls.length := by omega
      rw [lD_new, ← hul, vD_new, hul]
      exact kin hy
  · have key : ∀ t, t < ls.length → (vD us t).ownBlock = none ∨ (vD us t).ownBlock ≠ y'.ownBlock := fun t ht => by
      cases e : (vD us t).ownBlock with
      | none => exact .inl rfl
      | some k =>
        right
        intro e2
        rcases hk k e2.symm with h1 | h1
        · have := hap t ht
          rw [e, h1] at this
          rcases this with h2 | h2
          · cases h2
          · exact h2 rfl
        · have := (World.ownsRow.lt (hold t ht) k e).2
          omega
    by_cases e1 : s < ls.length
    · by_cases e2 : t < ls.length
      · rw [vD_old (by omega), vD_old (by omega)]
        have := h.ap s t (by omega) (by omega) hst
        rwa [vD_old (by omega), vD_old (by omega)] at this
      · obtain rfl : t = ls.length := by omega
        rw [vD_old (by omega), ← hul, vD_new]
        exact key s e1
    · obtain rfl : s = ls.length := by omega
      have e2 : t < ls.length := by omega
      rw [← hul, vD_new, vD_old (t := t) (by omega)]
      cases hq : y'.ownBlock with
      | none => exact .inl rfl
      | some q =>
        right
        intro e3
        rcases key t e2 with h1 | h1
        · rw [h1] at e3; cases e3
        · exact h1 (by rw [hq]; exact e3.symm)
theorem RwsRow.tail {w : World} {base : Nat} {v y : Value} {us : List Value} {ls : List (List Int)} {u : List Int} (h : RwsRow w base v (us ++ [y]) (ls ++ [u])) :
    us.length = ls.length ∧ IntRow w base y u ∧ ∃ g cap, v = .slice (some ⟨g, 0, none⟩) (ls.length + 1) cap ∧ w.cell? ⟨g, ls.length, none⟩ = some y ∧ w.frozen? ⟨g, ls.length, none⟩ = false ∧ base ≤ g ∧ g < w.heap.size ∧ y.ownBlock ≠ some g := by
  have hu := h.ulen
  have hul : us.length = ls.length := by simpa using hu
  have hlen : (ls ++ [u]).length = ls.length + 1 := by simp
  have hlast : IntRow w base y u := by
    have := h.inn ls.length (by omega)
    rwa [← hul, vD_new, hul, lD_new] at this
  refine ⟨hul, hlast, ?_⟩
  have hne := own_ne h.out hlast (by decide)
  have hout := h.out
  rw [hlen] at hout
  rcases id hout.2 with ⟨_, h0⟩ | ⟨g, cap, cur, rfl, hg, hh, hnc, hcp, hcs, htake⟩
  · omega
  · refine ⟨g, cap, rfl, ?_, World.ownsRow.frozenAt hout ls.length, hg, lt_of_block hh, fun e => ?_⟩
    · have := World.ownsRow.cellAt hout ls.length (by omega)
      rw [this, ← hul]
      simp
    · rcases hne with h1 | h1
      · cases h1
      · exact h1 e.symm
end Go.Proofs.Ytkgnlamlmnhleaa
