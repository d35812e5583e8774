/- Signs in rows: a row more, and spec.Units. -/
import Derived.Test.YtkgnlamlmnhleaaRows
import Derived.Test.YtkgnlamlmnhleaaUnN
import Derived.Test.YtkgnlamlmnhleaaRoM
import Derived.Test.YtkgnlamlmnhleaaTak
import Derived.Deep.Cut
import Derived.Deep.CutRange
import Derived.Deep.RegionWith
namespace Go.Proofs.Ytkgnlamlmnhleaa
open Go.RowKit

/-- a slice of whole numbers with room for its length -/
def IntsC (w : World) (v : Value) (l : List Int) : Prop := IntsAt w v l ∧ ∃ a cap, v = .slice a l.length cap ∧ l.length ≤ cap
theorem IntsC.below {w w' : World} {v : Value} {l : List Int} (h : IntsC w v l) (b : Below w.heap.size w w') : IntsC w' v l := ⟨h.1.below b, h.2⟩
theorem IntRow.c {w : World} {base : Nat} {v : Value} {l : List Int} (h : IntRow w base v l) : IntsC w v l := by
  refine ⟨h.at, ?_⟩
  rcases h.2 with ⟨rfl, h0⟩ | ⟨g, cap, cur, rfl, hg, hh, hnc, -⟩
  · exact ⟨none, 0, by rw [h0], by omega⟩
  · exact ⟨_, cap, rfl, hnc⟩
theorem elemIn : Try.prog.underlying 24 = some (.slice (Try.prog.elem 24)) := by kernel_rfl
theorem sizeIn (w : World) : (sizeOf (Try.prog.elem 24)).run Try.prog w = .ok 1 w := by kernel_rfl
theorem slice_int (a : Option Addr) (len cap f i : Nat) (w : World) (h1 : f ≤ i) (h2 : i ≤ cap) : (Instr.slice 24 (.slice a len cap) (some (.int .i64 (f : Int))) (some (.int .i64 (i : Int))) none).run Try.prog w = .ok (sliced a f i cap 1) w := by
  rw [run_slice_lh w 24 a len cap elemIn .i64 .i64 (f : Int) (i : Int) (by omega) (by omega) (by omega), sizeIn]
  simp [Result.andThen]
theorem IntsAt.cut {w : World} {a : Option Addr} {n cap : Nat} {l : List Int} (h : IntsAt w (.slice a n cap) l) (hn : n = l.length) (f i : Nat) (hf : f ≤ i) (hi : i ≤ l.length) (hc : i ≤ cap) : IntsAt w (sliced a f i cap 1) ((l.take i).drop f) := by
  obtain ⟨a', cap', e, hx⟩ := h
  cases e
  have hl : ((l.take i).drop f).length = i - f := by rw [List.length_drop, List.length_take]; omega
  refine ⟨_, _, by rw [hl]; rfl, fun t ht => ?_⟩
  rw [hl] at ht
  obtain ⟨b, off, rfl, hb, hcc⟩ := hx (f + t) (by omega)
  refine ⟨b, off + f, by rw [if_neg (by omega)]; simp [Addr.add], hb, ?_⟩
  rw [Nat.add_assoc, hcc]
  congr 2
  simp [List.getD, show f + t < i by omega]
theorem Try.infoIn1 : (Try.prog.info? 24).map (fun i => (i.zero, i.size, i.bytes)) = some (some (.slice none 0 0), 1, 24) := by kernel_rfl
theorem cell_one_row (w : World) (u : Value) : ∀ j y, [u][j]? = some y → (w.alloc (.cells #[u] 24)).cell? ((⟨w.heap.size, 0, none⟩ : Addr).add j) = some y := by
  intro j y h
  match j, h with
  | 0, h => simp at h; subst h; rw [Addr.add_lit, World.cell?_alloc_mark]; rfl
  | j + 1, h => simp at h
theorem vD_old {us : List Value} {u : Value} {t : Nat} (h : t < us.length) : vD (us ++ [u]) t = vD us t := by simp [vD, List.getD, List.getElem?_append_left h]
theorem vD_new {us : List Value} {u : Value} : vD (us ++ [u]) us.length = u := by simp [vD, List.getD]
theorem lD_old {ls : List (List Int)} {l : List Int} {t : Nat} (h : t < ls.length) : lD (ls ++ [l]) t = lD ls t := by simp [lD, List.getD, List.getElem?_append_left h]
theorem lD_new {ls : List (List Int)} {l : List Int} : lD (ls ++ [l]) ls.length = l := by simp [lD, List.getD]
/-- a row more, onto rows that are the call's own -/
theorem append_row (w : World) {ops : Array Oper} {rest : List Oper} {o : Oper} {a : Act} {Q : Exit → Act → World → Prop} (hgd : o.guard = none) (s x : Operand)
    (ho : o.op = .call { callee := .builtin .append, args := #[s, x], argTypes := #[26, 26] }) (base : Nat)
    (v u : Value) (us : List Value) (ls : List (List Int)) (l : List Int) (hl : ls.length + 1 ≤ 1099511627776) (hown : RwsRow w base v us ls) (hu : IntRow w base u l)
    (hne : ∀ t, t < ls.length → (vD us t).ownBlock = none ∨ (vD us t).ownBlock ≠ u.ownBlock) (hs : a.eval s = v) (hx : a.eval x = .slice (some ⟨w.heap.size, 0, none⟩) 1 1)
    (hbase : base ≤ w.heap.size)
    (h : ∀ v' w', RwsRow w' base v' (us ++ [u]) (ls ++ [l]) → Below base w w' → wpList Try.prog ops Q rest (a.put o.dst v') w') :
    wpList Try.prog ops Q (o :: rest) a (w.alloc (.cells #[u] 24)) := by
  obtain ⟨i0, hi, hz0, hz1, hz2⟩ := info_parts Try.infoIn1
  have hul := hown.ulen
  refine wpList_append_own _ hgd s x 26 ho base 24 i0 (.slice none 0 0) 1 24 Try.underlying26 hi hz0 hz1 hz2 rfl (by decide) v ls.length us hs (World.ownsRow.alloc hown.out _) ⟨w.heap.size, 0, none⟩ 1 1 [u] hx rfl (cell_one_row _ _) ?_ (by unfold maxLen; omega) (by omega) (by simp; omega) ?_
  · intro y hy
    obtain ⟨p, c, rfl, -⟩ := hu.at
    simp at hy; subst hy; rfl
  · intro v' w' hown' hgrow _
    have kin : ∀ {y : Value} {m : List Int}, IntRow w base y m → IntRow w' base y m := fun hy => World.ownsRow.kept (World.ownsRow.alloc hy _) hgrow (own_ne hy hown.out (by decide))
    refine h v' w' ⟨by rw [List.length_append]; exact hown', fun t ht => ?_, fun p t hp ht hpt => ?_⟩ ?_
    · rw [List.length_append, List.length_singleton] at ht
      by_cases e : t < ls.length
      · rw [vD_old (by omega), lD_old e]; exact kin (hown.inn t e)
      · obtain rfl : t = ls.length := by omega
        rw [lD_new, ← hul, vD_new]; exact kin hu
    · rw [List.length_append, List.length_singleton] at hp ht
      by_cases e1 : p < ls.length
      · by_cases e2 : t < ls.length
        · rw [vD_old (by omega), vD_old (by omega)]; exact hown.ap p t e1 e2 hpt
        · obtain rfl : t = us.length := by omega
          rw [vD_old (by omega), vD_new]; exact hne p e1
      · obtain rfl : p = us.length := by omega
        have e2 : t < ls.length := by omega
        rw [vD_new, vD_old (t := t) (by omega)]
        rcases hne t e2 with h1 | h1
        · cases hq : u.ownBlock with
          | none => exact .inl rfl
          | some q => right; rw [h1]; simp
        · right; exact fun e => h1 e.symm
    · refine ((Below.refl base w).alloc hbase _).grown hgrow (by simp; omega) fun k hk => (World.ownsRow.lt hown.out k hk).1
theorem fresh_row {w0 w : World} {base lo : Nat} {v u : Value} {us : List Value} {ls : List (List Int)} {l : List Int} (h : RwsRow w0 base v us ls) (hu : IntRow w lo u l) (hs : w0.heap.size ≤ lo) : ∀ t, t < ls.length → (vD us t).ownBlock = none ∨ (vD us t).ownBlock ≠ u.ownBlock := by
  intro t ht
  cases e : (vD us t).ownBlock with
  | none => exact .inl rfl
  | some k =>
    right
    intro e2
    have h1 := (World.ownsRow.lt (h.inn t ht) k e).2
    have h2 := (World.ownsRow.lt hu k e2.symm).1
    omega

/-- what stands while signs are put into rows: the rows up to f, the open one from f to i -/
structure UnI (l : List Int) (n f i : Nat) (us : List (List Int)) : Prop where
  right : UnR (l.take f) us
  at' : (i ≤ n ∧ f < i) ∨ (i = n + 1 ∧ f = n)
  mid : ∀ t, f < t → t < i → t < n → clsN (l.getD t 0) ≠ 0
  beg : us ≠ [] → f < n → clsN (l.getD f 0) = 0
theorem UnI.start (l : List Int) : UnI l l.length 0 1 [] := ⟨UnR.nil, by omega, fun t h1 h2 _ => by omega, fun h => absurd rfl h⟩
theorem UnI.go {l : List Int} {f i : Nat} {us : List (List Int)} (h : UnI l l.length f i us) (hi : i < l.length) (hc : clsN (l.getD i 0) ≠ 0) : UnI l l.length f (i + 1) us :=
  ⟨h.right, by have := h.at'; omega, fun t h1 h2 h3 => by
    by_cases e : t = i
    · subst e; exact hc
    · exact h.mid t h1 (by omega) h3, h.beg⟩
theorem UnI.shut {l : List Int} {f i : Nat} {us : List (List Int)} (h : UnI l l.length f i us) (hi : i ≤ l.length) (hc : i = l.length ∨ clsN (l.getD i 0) = 0) : UnI l l.length i (i + 1) (us ++ [(l.take i).drop f]) := by
  have hf : f < i := by have := h.at'; omega
  have hm : (l.take i).drop f = l.getD f 0 :: (l.take i).drop (f + 1) := by
    rw [List.drop_eq_getElem_cons (by rw [List.length_take]; omega)]
    congr 1
    simp [List.getD, show f < l.length by omega]
  refine ⟨?_, by omega, fun t h1 h2 _ => by omega, fun _ h1 => hc.resolve_left (by omega)⟩
  have key := h.right.more (l.getD f 0) ((l.take i).drop (f + 1)) hm (fun x hx => ?_) (fun hne => h.beg hne (by omega))
  · have e : l.take f ++ (l.take i).drop f = l.take i := by
      have := List.take_append_drop f (l.take i)
      rwa [List.take_take, Nat.min_eq_left (by omega)] at this
    rwa [e] at key
  · obtain ⟨q, hq, rfl⟩ := List.getElem_of_mem hx
    rw [List.length_drop, List.length_take] at hq
    have := h.mid (f + 1 + q) (by omega) (by omega) (by omega)
    simpa [List.getD, show f + 1 + q < l.length by omega] using this
theorem UnI.done {l : List Int} {f i : Nat} {us : List (List Int)} (h : UnI l l.length f i us) (hi : ¬ i ≤ l.length) : us = unitsN l := by
  have hf : f = l.length := by have := h.at'; omega
  have := h.right
  rw [hf, List.take_length] at this
  exact units_uniq us l this
theorem UnI.len {l : List Int} {f i : Nat} {us : List (List Int)} (h : UnI l l.length f i us) : us.length ≤ l.length := by
  have h1 := units_uniq us _ h.right
  have h2 := units_len (l.take f)
  rw [← h1, List.length_take] at h2
  omega
end Go.Proofs.Ytkgnlamlmnhleaa
