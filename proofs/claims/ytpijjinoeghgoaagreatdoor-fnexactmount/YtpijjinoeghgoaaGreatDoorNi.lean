/- Volumes, spec: l6Copy. -/
import Derived.Test.YtpijjinoeghgoaaGreatDoorRows
import Derived.Test.YtpijjinoeghgoaaGreatDoorNb
import Derived.Test.YtpijjinoeghgoaaGreatDoorNg
import Derived.Test.YtpijjinoeghgoaaGreatDoorMr
namespace Go.Proofs.YtpijjinoeghgoaaGreatDoor

section
open Go.RowKit Go.Sort

theorem flatI_cell {l : List (Ino × Value)} (h : ∀ p ∈ l, p.2.oneCell' = true) (v : Value) (hv : v ∈ flatI l) : v.oneCell' = true := by
  unfold flatI at hv
  obtain ⟨p, hp, he⟩ := List.mem_flatMap.1 hv
  simp only [encI, List.mem_cons, List.not_mem_nil, or_false] at he
  rcases he with rfl | rfl | rfl | rfl | rfl
  · rfl
  · rfl
  · rfl
  · rfl
  · exact h p hp
theorem EntRow.one {w : World} {base : Nat} {v : Value} {d : List En} (h : EntRow w base v d) : v.oneCell' = true := by
  obtain ⟨a, c, rfl, -, -⟩ := h.at; rfl
theorem InoRow.one {w : World} {base : Nat} {v : Value} {l : List (Ino × Value)} (h : InoRow w base v l) : ∀ p ∈ l, p.2.oneCell' = true := fun p hp => by
  obtain ⟨t, ht, rfl⟩ := List.getElem_of_mem hp
  have := (h.ents t ht).one
  rwa [getElem!_pos l t ht] at this

/-- 'append(out, x)', out a row of the call's own, x one inode whose entries are new -/
theorem append_ino (w : World) {ops : Array Oper} {rest : List Oper} {o : Oper} {a : Act} {Q : Exit → Act → World → Prop} (hgd : o.guard = none) (s x : Operand)
    (ho : o.op = .call { callee := .builtin .append, args := #[s, x], argTypes := #[24, 24] }) (base : Nat)
    (v : Value) (l : List (Ino × Value)) (y : Ino) (u : Value) (xb : Nat) (hl : l.length + 1 ≤ 1099511627776) (hown : InoRow w base v l) (hxc : w.heap[xb]? = some (.cells #[.int .i64 y.id, .int .i64 y.kind, .int .i64 y.links, .string y.data, u] 59)) (hs : a.eval s = v) (hx : a.eval x = .slice (some ⟨xb, 0, none⟩) 1 1)
    (he : EntRow w base u y.ents) (hap : ∀ p ∈ l, ApartV p.2 u)
    (hbase : base ≤ w.heap.size)
    (h : ∀ v' w', InoRow w' base v' (l ++ [(y, u)]) → w.grownBy w' v.ownBlock → wpList Tryz.prog ops Q rest (a.put o.dst v') w') :
    wpList Tryz.prog ops Q (o :: rest) a w := by
  obtain ⟨i0, hi, hz0, hz1, hz2⟩ := info_parts Tryz.infoI
  have hcl : ∀ j z, (flatI [(y, u)])[j]? = some z → w.cell? ((⟨xb, 0, none⟩ : Addr).add j) = some z := by
    intro j z hz
    rw [Addr.add_lit, Nat.zero_add, Joins.cell_of_block hxc j]
    rw [flatI_one] at hz
    rw [← hz]; simp [encI]
  refine wpList_append_own _ hgd s x 24 ho base 59 i0 _ 5 64 Tryz.underlying24 hi hz0 hz1 hz2 rfl (by decide) v l.length (flatI l) hs hown.row ⟨xb, 0, none⟩ 1 1 (flatI [(y, u)]) hx (flatI_len _) hcl (flatI_cell (fun p hp => by rw [List.mem_singleton.1 hp]; exact he.one)) (by unfold maxLen; omega) (by omega) hbase ?_
  intro v' w' hown' hgrow _
  refine h v' w' ⟨?_, fun t ht => ?_, ?_⟩ hgrow
  · rw [flatI_append, List.length_append]; exact hown'
  · have hne : ∀ {z : Value} {d : List En}, EntRow w base z d → z.ownBlock = none ∨ z.ownBlock ≠ v.ownBlock := fun {z} {d} hz => by
      rcases hown.row.2 with ⟨rfl, _⟩ | ⟨g, cap, cur, rfl, hg, hh, r⟩
      · by_cases e : z.ownBlock = none
        · exact .inl e
        · exact .inr (by simpa [Value.ownBlock] using e)
      · right
        have hr := hown.row
        exact ent_ino_ne hz hr
    rw [List.length_append] at ht
    by_cases e : t < l.length
    · rw [getElem!_pos _ t (by simp at ht ⊢; omega), List.getElem_append_left e, ← getElem!_pos l t e]
      exact (hown.ents t e).kept hgrow (hne (hown.ents t e))
    · have e2 : t = l.length := by simp at ht; omega
      subst e2
      rw [getElem!_pos _ _ (by simp), List.getElem_append_right (Nat.le_refl _)]
      simp only [Nat.sub_self, List.getElem_cons_zero]
      exact he.kept hgrow (hne he)
  · rw [List.pairwise_append]
    exact ⟨hown.apart, List.pairwise_singleton _ _, fun p hp q hq => by rw [List.mem_singleton.1 hq]; exact hap p hp⟩
end

end Go.Proofs.YtpijjinoeghgoaaGreatDoor
