/- Volumes, impl: trees. -/
import Derived.Test.YtjggkhcomaiplaaDoorRows
import Derived.Test.YtjggkhcomaiplaaDoorIVb
import Derived.Test.YtjggkhcomaiplaaDoorNb
import Derived.Test.YtjggkhcomaiplaaDoorNa
import Derived.Lib.SmallJoins
namespace Go.Proofs.YtjggkhcomaiplaaDoor
open Go.RowKit Go.Maps

/-- the cells of an inode's block -/
def inoC (y : Ino) (s : Value) : Array Value := #[.int .i64 y.id, .int .i64 y.kind, .int .i64 y.links, .string y.data, s]
/-- where an Id's inode lies -/
def fofP (l : List Ino) (ps : List (Nat × Value)) (i : Int) : Option Nat := (plN l i).map fun t => ps[t]!.1
/-- at block p: a tree, its map at block m, of inodes x.ins, each in a block of its own -/
structure TreeAt (w : World) (base p m : Nat) (x : Vo) (ps : List (Nat × Value)) : Prop where
  len : ps.length = x.ins.length
  tree : w.heap[p]? = some (.cells #[.int .i64 x.next, .map (some m)] 50)
  map : MapP w m (fofP x.ins ps) x.ins.length
  ino : ∀ t, t < ps.length → w.heap[ps[t]!.1]? = some (.cells (inoC x.ins[t]! ps[t]!.2) 37)
  ents : ∀ t, t < ps.length → EntRow w base ps[t]!.2 x.ins[t]!.ents
  lo : base ≤ p ∧ base ≤ m ∧ ∀ t, t < ps.length → base ≤ ps[t]!.1
  sep : ∀ t u, t < u → u < ps.length → ps[t]!.1 ≠ ps[u]!.1 ∧ ApartV ps[t]!.2 ps[u]!.2
theorem TreeAt.below {w w' : World} {base p m : Nat} {x : Vo} {ps : List (Nat × Value)} (h : TreeAt w base p m x ps) (b : Below w.heap.size w w') : TreeAt w' base p m x ps :=
  ⟨h.len, (b.block p (lt_of_block h.tree)).trans h.tree, h.map.below b, fun t ht => (b.block _ (lt_of_block (h.ino t ht))).trans (h.ino t ht), fun t ht => (h.ents t ht).below b, h.lo, h.sep⟩
theorem fof_snoc {l : List Ino} {ps : List (Nat × Value)} (hl : ps.length = l.length) {y : Ino} (hy : ∀ z ∈ l, z.id ≠ y.id) (q : Nat) (u : Value) (i : Int) : fofP (l ++ [y]) (ps ++ [(q, u)]) i = if i = y.id then some q else fofP l ps i := by
  unfold fofP
  by_cases e : i = y.id
  · rw [if_pos e]
    have : plN (l ++ [y]) i = some l.length := by
      refine plN_some (by simp) ?_ fun k hk => ?_
      · rw [getElem!_pos _ _ (by simp)]; simp [e]
      · rw [getElem!_pos _ _ (by simp; omega), List.getElem_append_left hk, e]
        exact hy _ (List.getElem_mem hk)
    rw [this, Option.map_some, ← hl, getElem!_pos _ _ (by simp)]; simp
  · rw [if_neg e]
    rcases plZ_cases l i with ⟨k, h1, h2, h3, -⟩ | ⟨h1, h3, -⟩
    · have : plN (l ++ [y]) i = some k := by
        refine plN_some (by simp; omega) ?_ fun j hj => ?_
        · rw [getElem!_pos _ _ (by simp; omega), List.getElem_append_left h1, ← getElem!_pos l k h1]; exact h2
        · rw [getElem!_pos _ _ (by simp; omega), List.getElem_append_left (by omega)]
          unfold plN at h3
          rw [List.findIdx?_eq_some_iff_getElem] at h3
          have := h3.2.2 j hj
          simpa using this
      rw [this, h3, Option.map_some, Option.map_some, getElem!_pos _ k (by simp; omega), List.getElem_append_left (by omega), ← getElem!_pos ps k (by omega)]
    · have : plN (l ++ [y]) i = none := by
        refine plN_none fun k hk => ?_
        rw [getElem!_pos (l ++ [y]) k hk]
        by_cases hkl : k < l.length
        · rw [List.getElem_append_left hkl]; exact h1 _ (List.getElem_mem hkl)
        · simp at hk
          rw [List.getElem_append_right (by omega)]; simp; exact fun h => e h.symm
      rw [this, h3]; rfl
/-- one more inode, in a new block -/
theorem TreeAt.push {w w' : World} {base p m : Nat} {nx : Int} {l : List Ino} {ps : List (Nat × Value)} (h : TreeAt w base p m ⟨nx, l⟩ ps) {y : Ino} (hy : ∀ z ∈ l, z.id ≠ y.id) {q b2 : Nat} {u : Value} (hg : w.grownBy w' (some m)) (hq : w.heap.size ≤ q)
    (hi : w'.heap[q]? = some (.cells (inoC y u) 37)) (he : EntRow w' b2 u y.ents) (hb2 : w.heap.size ≤ b2) (hm : MapP w' m (fun j => if j = y.id then some q else fofP l ps j) (l.length + 1)) :
    TreeAt w' base p m ⟨nx, l ++ [y]⟩ (ps ++ [(q, u)]) := by
  have hlen : ps.length = l.length := h.len
  have hbs : base ≤ w.heap.size := by have := h.lo.1; have := lt_of_block h.tree; omega
  have hold : ∀ t, t < ps.length → (ps ++ [(q, u)])[t]! = ps[t]! := fun t ht => by rw [getElem!_pos _ t (by simp; omega), List.getElem_append_left ht, ← getElem!_pos ps t ht]
  have hnew : (ps ++ [(q, u)])[ps.length]! = (q, u) := by rw [getElem!_pos _ _ (by simp)]; simp
  have hiold : ∀ t, t < ps.length → (l ++ [y])[t]! = l[t]! := fun t ht => by rw [getElem!_pos _ t (by simp; omega), List.getElem_append_left (by omega), ← getElem!_pos l t (by omega)]
  have hinew : (l ++ [y])[ps.length]! = y := by rw [hlen, getElem!_pos _ _ (by simp)]; simp
  have hpm : p ≠ m := fun e => by
    obtain ⟨D, ⟨es, cl, hb, _⟩, _⟩ := h.map
    have := h.tree
    rw [e, hb] at this; cases this
  have hblk : ∀ t, t < ps.length → w'.heap[ps[t]!.1]? = some (.cells (inoC l[t]! ps[t]!.2) 37) := fun t ht => by
    have h1 := h.ino t ht
    rw [← h1]
    refine hg.block _ (lt_of_block h1) fun e => ?_
    obtain ⟨D, ⟨es, cl, hb, _⟩, _⟩ := h.map
    simp only [Option.some.injEq] at e
    rw [e, hb] at h1; cases h1
  have hent : ∀ t, t < ps.length → EntRow w' base ps[t]!.2 l[t]!.ents := fun t ht => by
    refine (h.ents t ht).kept hg ?_
    by_cases hn : ps[t]!.2.ownBlock = none
    · exact .inl hn
    · refine .inr fun e => ?_
      obtain ⟨D, ⟨es, cl, hb, _⟩, _⟩ := h.map
      rcases (h.ents t ht).2 with ⟨h0, _⟩ | ⟨g, cap, cur, h0, _, hh, _⟩
      · rw [h0] at hn; exact hn rfl
      · rw [h0] at e
        simp only [Value.ownBlock, Option.some.injEq] at e
        rw [e, hb] at hh; cases hh
  refine ⟨by simp [hlen], ?_, ?_, fun t ht => ?_, fun t ht => ?_, ⟨h.lo.1, h.lo.2.1, fun t ht => ?_⟩, fun t v htv hv => ?_⟩
  · show w'.heap[p]? = _
    rw [hg.block p (lt_of_block h.tree) (fun e => hpm (by simpa using e))]; exact h.tree
  · have e : fofP (l ++ [y]) (ps ++ [(q, u)]) = fun j => if j = y.id then some q else fofP l ps j := funext fun i => fof_snoc hlen hy q u i
    show MapP w' m (fofP (l ++ [y]) (ps ++ [(q, u)])) (l ++ [y]).length
    rw [e, List.length_append]; exact hm
  · simp only [List.length_append, List.length_cons, List.length_nil] at ht
    show w'.heap[((ps ++ [(q, u)])[t]!).1]? = some (.cells (inoC ((l ++ [y])[t]!) ((ps ++ [(q, u)])[t]!).2) _)
    by_cases e : t = ps.length
    · rw [e, hnew, hinew]; exact hi
    · rw [hold t (by omega), hiold t (by omega)]; exact hblk t (by omega)
  · simp only [List.length_append, List.length_cons, List.length_nil] at ht
    show EntRow w' base ((ps ++ [(q, u)])[t]!).2 ((l ++ [y])[t]!).ents
    by_cases e : t = ps.length
    · rw [e, hnew, hinew]; exact he.mono (by omega)
    · rw [hold t (by omega), hiold t (by omega)]; exact hent t (by omega)
  · simp only [List.length_append, List.length_cons, List.length_nil] at ht
    by_cases e : t = ps.length
    · rw [e, hnew]; show base ≤ q; omega
    · rw [hold t (by omega)]; exact h.lo.2.2 t (by omega)
  · simp only [List.length_append, List.length_cons, List.length_nil] at hv
    rw [hold t (by omega)]
    by_cases e : v = ps.length
    · rw [e, hnew]
      refine ⟨?_, apart_new (h.ents t (by omega)) he hb2⟩
      have := lt_of_block (h.ino t (by omega))
      show ps[t]!.1 ≠ q
      omega
    · rw [hold v (by omega)]; exact h.sep t v htv (by omega)

end Go.Proofs.YtjggkhcomaiplaaDoor
