/- Volumes, impl: maps of inodes behind pointers, and of counts. Volumes, impl: trees. Volumes, impl: treeOf. Volumes, impl: linksOk. -/
import Derived.Test.YtchcdgkpaipkgaaGreatDoorRows
import Derived.Test.YtchcdgkpaipkgaaGreatDoorNa
import Derived.Test.YtchcdgkpaipkgaaGreatDoorNb
import Derived.Test.YtchcdgkpaipkgaaGreatDoorMu
import Derived.Test.YtchcdgkpaipkgaaGreatDoorNc
import Derived.Maps.OwnSet
import Derived.Maps.RangeWalk
import Derived.Lib.SmallJoins
import Derived.RegionTactic
import Derived.BigRegion
namespace Go.Proofs.YtchcdgkpaipkgaaGreatDoor

section
open Go.RowKit Go.Maps

/-- the number fits int -/
def InI (i : Int) : Prop := -9223372036854775808 ≤ i ∧ i ≤ 9223372036854775807
theorem wf_of {i : Int} (h : InI i) : (Lit.int .i64 i).wf = true := by
  unfold InI at h
  have h1 : IntKind.i64.min = -9223372036854775808 := by rfl
  have h2 : IntKind.i64.max = 9223372036854775807 := by rfl
  simp [Lit.wf, h1, h2]; omega
/-- a pointer to an inode -/
def ptrV : Option Nat → Value
  | some b => .pointer (some ⟨b, 0, none⟩)
  | none => .pointer none
/-- it reads as its block -/
def ptrR : Value → Option (DataW Unit × List MemPlace)
  | .pointer (some ⟨b, 0, none⟩) => some (.lit (.int .i64 (b : Int)), [])
  | .pointer none => some (.lit (.int .i64 (-1)), [])
  | _ => none
def ptrN : Option Nat → Int
  | some b => (b : Int)
  | none => -1
theorem ptrR_V (o : Option Nat) : ptrR (ptrV o) = some (.lit (.int .i64 (ptrN o)), []) := by cases o <;> rfl
theorem ptrR_inv {v : Value} {y : DataW Unit × List MemPlace} (h : ptrR v = some y) : ∃ o, v = ptrV o := by
  unfold ptrR at h
  split at h
  · exact ⟨some _, rfl⟩
  · exact ⟨none, rfl⟩
  · cases h
theorem ptrN_inj {a b : Option Nat} (h : ptrN a = ptrN b) : a = b := by
  cases a <;> cases b <;> simp [ptrN] at h ⊢
  all_goals omega
theorem size_tight {H : Type} {P : Program} {k : TypeId} {R : Value → Option (DataW H × List MemPlace)} {w : World} {b n : Nat} {D : DataW H} (h : w.ownsMap P k R b n D) : w.ownsMap P k R b (Maps.size D) D := by
  obtain ⟨es, clock, hb, F, hs, rfl⟩ := h
  refine ⟨es, clock, hb, F, ?_, rfl⟩
  rw [Maps.size_eq, length_sorted]; simp

theorem keyLit (i : Int) : WideAt.IsKeyLit (.int .i64 i) := trivial
theorem keyI : Keyed Tryz.prog 3 := int_keyed Tryz.underlying3
theorem Tryz.zeroPI (w : World) : (zeroValue 72).run Tryz.prog w = .ok (.pointer none) w := by kernel_rfl
theorem Tryz.zeroII (w : World) : (zeroValue 3).run Tryz.prog w = .ok (.int .i64 0) w := by kernel_rfl

/-- block b is a map of pointers to inodes: F, of c entries -/
def MapP (w : World) (b : Nat) (F : Int → Option Nat) (c : Nat) : Prop :=
  ∃ D : DataW Unit, w.ownsMap Tryz.prog 3 ptrR b c D ∧ Maps.size D = c ∧ ∀ i, InI i → Maps.has D (.int .i64 i) = (F i).isSome ∧ ∀ z : DataW Unit, D.atKey (.int .i64 i) z = (match F i with | some q => .lit (.int .i64 (q : Int)) | none => z)
theorem MapP.made (w : World) : MapP (w.alloc (.map #[] 0)) w.heap.size (fun _ => none) 0 :=
  ⟨.map [], World.ownsMap_made w _ _ _, rfl, fun _ _ => ⟨rfl, fun _ => rfl⟩⟩
theorem MapP.look {w : World} {b c : Nat} {F : Int → Option Nat} (h : MapP w b F c) {i : Int} (hi : InI i) : (Instr.lookup 70 (.map (some b)) (.int .i64 i) false).run Tryz.prog w = .ok (ptrV (F i)) w := by
  obtain ⟨D, hown, -, hc⟩ := h
  obtain ⟨v, ps, hrun, hR⟩ := hown.lookup keyI Tryz.underlying70 (Tryz.zeroPI w) (zd := .lit (.int .i64 (-1))) (zp := []) rfl (keyOf_int_mk Tryz.underlying3 (wf_of hi))
  rw [hrun]
  obtain ⟨o, rfl⟩ := ptrR_inv hR
  rw [ptrR_V, (hc i hi).2] at hR
  have : o = F i := by
    apply ptrN_inj
    cases hF : F i with
    | some q => rw [hF] at hR; simp at hR; simpa [ptrN] using hR.1
    | none => rw [hF] at hR; simp at hR; simpa [ptrN] using hR.1
  rw [this]
theorem MapP.len {w : World} {b c : Nat} {F : Int → Option Nat} (h : MapP w b F c) (ty : TypeId) : (Builtin.len_ #[70] ty #[.map (some b)]).run Tryz.prog w = .ok (.int .i64 (c : Int)) w := by
  obtain ⟨D, hown, hs, -⟩ := h
  rw [hown.len Tryz.underlying70 ty, hs]
theorem MapP.lt {w : World} {b c : Nat} {F : Int → Option Nat} (h : MapP w b F c) : b < w.heap.size := by
  obtain ⟨D, hown, -⟩ := h; exact hown.lt
theorem MapP.kept {w w' : World} {b c : Nat} {F : Int → Option Nat} {r : Option Nat} (h : MapP w b F c) (hg : w.grownBy w' r) (hne : some b ≠ r) : MapP w' b F c := by
  obtain ⟨D, hown, h1, h2⟩ := h
  exact ⟨D, hown.kept hg hne, h1, h2⟩
theorem MapP.below {w w' : World} {b c : Nat} {F : Int → Option Nat} (h : MapP w b F c) (hb : Below w.heap.size w w') : MapP w' b F c :=
  h.kept (r := none) ⟨hb.os, hb.tape, hb.output, hb.size, fun k hk _ => hb.block k hk⟩ (by simp)
/-- a pointer put -/
theorem MapP.store {w : World} {b c : Nat} {F : Int → Option Nat} (h : MapP w b F c) (hc : c ≤ 1000000) {i : Int} (hi : InI i) (q : Nat) :
    ∃ w', (Instr.mapUpdate 70 (.map (some b)) (.int .i64 i) (.pointer (some ⟨q, 0, none⟩))).run Tryz.prog w = .ok () w' ∧ MapP w' b (fun j => if j = i then some q else F j) (c + if (F i).isSome then 0 else 1) ∧ w.grownBy w' (some b) := by
  obtain ⟨D, hown, hs, hF⟩ := h
  obtain ⟨w', hrun, hown', hg⟩ := hown.update keyI Tryz.underlying70 (by unfold maxLen; omega) (keyOf_int_mk Tryz.underlying3 (wf_of hi)) (val := .pointer (some ⟨q, 0, none⟩)) (d := .lit (.int .i64 (q : Int))) (ps := []) rfl
  have hsz : Maps.size (D.put (.int .i64 i) (.lit (.int .i64 (q : Int)))) = c + if (F i).isSome then 0 else 1 := by
    rw [Maps.size_put (hown.tidy keyI), (hF i hi).1, hs]
    cases (F i).isSome <;> rfl
  refine ⟨w', hrun, ⟨_, by rw [← hsz]; exact size_tight hown', hsz, fun j hj => ?_⟩, hg⟩
  by_cases e : j = i
  · subst e
    dsimp only
    rw [if_pos rfl]
    exact ⟨Maps.has_put_same hown.isMap (keyLit _) _, fun z => Maps.atKey_put_same hown.isMap (keyLit _) _ z⟩
  · dsimp only
    rw [if_neg e]
    have hne : Lit.int .i64 j ≠ Lit.int .i64 i := fun h => e (by cases h; rfl)
    exact ⟨(Maps.has_put_other hne _).trans (hF j hj).1, fun z => (Maps.atKey_put_other hne _ z).trans ((hF j hj).2 z)⟩
/-- one taken away -/
theorem MapP.drop {w : World} {b c : Nat} {F : Int → Option Nat} (h : MapP w b F c) {i : Int} (hi : InI i) (hh : (F i).isSome = true) (ty : TypeId) :
    ∃ w', (Builtin.delete_ #[70, 3] ty #[.map (some b), .int .i64 i]).run Tryz.prog w = .ok (.tuple #[]) w' ∧ MapP w' b (fun j => if j = i then none else F j) (c - 1) ∧ w.grownBy w' (some b) := by
  obtain ⟨D, hown, hs, hF⟩ := h
  obtain ⟨w', hrun, hown', hg⟩ := hown.drop keyI Tryz.underlying70 (keyOf_int_mk Tryz.underlying3 (wf_of hi)) ty
  have hsz : Maps.size (D.del (.int .i64 i)) = c - 1 := by
    have := Maps.size_del (k := .int .i64 i) (hown.tidy keyI)
    rw [(hF i hi).1, hh, hs] at this
    simp at this; omega
  refine ⟨w', hrun, ⟨_, by rw [← hsz]; exact size_tight hown', hsz, fun j hj => ?_⟩, hg.grown⟩
  by_cases e : j = i
  · subst e
    dsimp only
    rw [if_pos rfl]
    exact ⟨Maps.has_del_same, fun z => Maps.atKey_del_same z⟩
  · dsimp only
    rw [if_neg e]
    have hne : Lit.int .i64 j ≠ Lit.int .i64 i := fun h => e (by cases h; rfl)
    exact ⟨(Maps.has_del_other hne).trans (hF j hj).1, fun z => (Maps.atKey_del_other hne z).trans ((hF j hj).2 z)⟩

/-- block b is a map of counts -/
def MapC (w : World) (b : Nat) (G : Int → Nat) (k : Nat) : Prop :=
  ∃ (D : DataW Unit) (n : Nat), w.ownsMap Tryz.prog 3 (plainElem Tryz.prog 3) b n D ∧ n ≤ k ∧ ∀ i, InI i → D.atKey (.int .i64 i) (.lit (.int .i64 0)) = .lit (.int .i64 (G i : Int))
theorem MapC.made (w : World) : MapC (w.alloc (.map #[] 0)) w.heap.size (fun _ => 0) 0 :=
  ⟨.map [], 0, World.ownsMap_made w _ _ _, Nat.le_refl _, fun _ _ => rfl⟩
theorem MapC.look {w : World} {b k : Nat} {G : Int → Nat} (h : MapC w b G k) {i : Int} (hi : InI i) : (Instr.lookup 82 (.map (some b)) (.int .i64 i) false).run Tryz.prog w = .ok (.int .i64 (G i : Int)) w := by
  obtain ⟨D, n, hown, -, hc⟩ := h
  obtain ⟨v, ps, hrun, hR⟩ := hown.lookup keyI Tryz.underlying82 (Tryz.zeroII w) (zd := .lit (.int .i64 0)) (zp := []) (plainElem_int Tryz.underlying3 (by decide)) (keyOf_int_mk Tryz.underlying3 (wf_of hi))
  rw [hrun]
  rw [hc i hi] at hR
  obtain ⟨a, rfl, h2, -⟩ := plainElem_int_inv Tryz.underlying3 hR
  simp at h2
  rw [h2.1]
theorem MapC.lt {w : World} {b k : Nat} {G : Int → Nat} (h : MapC w b G k) : b < w.heap.size := by
  obtain ⟨D, n, hown, -⟩ := h; exact hown.lt
theorem MapC.kept {w w' : World} {b k : Nat} {G : Int → Nat} {r : Option Nat} (h : MapC w b G k) (hg : w.grownBy w' r) (hne : some b ≠ r) : MapC w' b G k := by
  obtain ⟨D, n, hown, h1, h2⟩ := h
  exact ⟨D, n, hown.kept hg hne, h1, h2⟩
theorem MapC.below {w w' : World} {b k : Nat} {G : Int → Nat} (h : MapC w b G k) (hb : Below w.heap.size w w') : MapC w' b G k :=
  h.kept (r := none) ⟨hb.os, hb.tape, hb.output, hb.size, fun k hk _ => hb.block k hk⟩ (by simp)
theorem MapC.store {w : World} {b k : Nat} {G : Int → Nat} (h : MapC w b G k) (hk : k ≤ 1000000) {i : Int} (hi : InI i) (q : Nat) (hq : q ≤ 1000000000) :
    ∃ w', (Instr.mapUpdate 82 (.map (some b)) (.int .i64 i) (.int .i64 (q : Int))).run Tryz.prog w = .ok () w' ∧ MapC w' b (fun j => if j = i then q else G j) (k + 1) ∧ w.grownBy w' (some b) := by
  obtain ⟨D, n, hown, hs, hF⟩ := h
  obtain ⟨w', hrun, hown', hg⟩ := hown.update keyI Tryz.underlying82 (by unfold maxLen; omega) (keyOf_int_mk Tryz.underlying3 (wf_of hi)) (val := .int .i64 (q : Int)) (d := .lit (.int .i64 (q : Int))) (ps := []) (plainElem_int Tryz.underlying3 (wf_of (by unfold InI; omega)))
  refine ⟨w', hrun, ⟨_, n + 1, hown', by omega, fun j hj => ?_⟩, hg⟩
  by_cases e : j = i
  · subst e
    dsimp only
    rw [if_pos rfl]
    exact Maps.atKey_put_same hown.isMap (keyLit _) _ _
  · dsimp only
    rw [if_neg e]
    have hne : Lit.int .i64 j ≠ Lit.int .i64 i := fun h => e (by cases h; rfl)
    exact (Maps.atKey_put_other hne _ _).trans (hF j hj)
end

section
open Go.RowKit Go.Maps

/-- the cells of an inode's block -/
def inoC (y : Ino) (s : Value) : Array Value := #[.int .i64 y.id, .int .i64 y.kind, .int .i64 y.links, .string y.data, s]
/-- where an Id's inode lies -/
def fofP (l : List Ino) (ps : List (Nat × Value)) (i : Int) : Option Nat := (plN l i).map fun t => ps[t]!.1
/-- at block p: a tree, its map at block m, of inodes x.ins, each in a block of its own -/
structure TreeAt (w : World) (base p m : Nat) (x : Vo) (ps : List (Nat × Value)) : Prop where
  len : ps.length = x.ins.length
  tree : w.heap[p]? = some (.cells #[.int .i64 x.next, .map (some m)] 74)
  map : MapP w m (fofP x.ins ps) x.ins.length
  ino : ∀ t, t < ps.length → w.heap[ps[t]!.1]? = some (.cells (inoC x.ins[t]! ps[t]!.2) 50)
  ents : ∀ t, t < ps.length → EntRow w base ps[t]!.2 x.ins[t]!.ents
  lo : base ≤ p ∧ base ≤ m ∧ ∀ t, t < ps.length → base ≤ ps[t]!.1
  sep : ∀ t u, t < u → u < ps.length → ps[t]!.1 ≠ ps[u]!.1 ∧ ApartV ps[t]!.2 ps[u]!.2
theorem TreeAt.below {w w' : World} {base p m : Nat} {x : Vo} {ps : List (Nat × Value)} (h : TreeAt w base p m x ps) (b : Below w.heap.size w w') : TreeAt w' base p m x ps :=
  ⟨h.len, (b.block p (lt_of_block h.tree)).trans h.tree, h.map.below b, fun t ht => (b.block _ (lt_of_block (h.ino t ht))).trans (h.ino t ht), fun t ht => (h.ents t ht).below b, h.lo, h.sep⟩
theorem fof_snoc {l : List Ino} {ps : List (Nat × Value)} (hl : ps.length = l.length) {y : Ino} (hy : ∀ z ∈ l, z.id ≠ y.id) (q : Nat) (u : Value) (i : Int) : fofP (l ++ [y]) (ps ++ [(q, u)]) i = if i = y.id then some q else fofP l ps i := by
  unfold fofP
  by_cases e : i = y.id
  · rw [if_pos e]
    have : plN (l ++ [y]) i = some l.length := by
      refine plN_some (by simp) ?_ fun k hk => ?_
      · rw [getElem!_pos _ _ (by simp)]; simp [e]
      · rw [getElem!_pos _ _ (by simp; omega), List.getElem_append_left hk, e]
        exact hy _ (List.getElem_mem hk)
    rw [this, Option.map_some, ← hl, getElem!_pos _ _ (by simp)]; simp
  · rw [if_neg e]
    rcases plZ_cases l i with ⟨k, h1, h2, h3, -⟩ | ⟨h1, h3, -⟩
    · have : plN (l ++ [y]) i = some k := by
        refine plN_some (by simp; omega) ?_ fun j hj => ?_
        · rw [getElem!_pos _ _ (by simp; omega), List.getElem_append_left h1, ← getElem!_pos l k h1]; exact h2
        · rw [getElem!_pos _ _ (by simp; omega), List.getElem_append_left (by omega)]
          unfold plN at h3
          rw [List.findIdx?_eq_some_iff_getElem] at h3
          have := h3.2.2 j hj
          simpa using this
      rw [this, h3, Option.map_some, Option.map_some, getElem!_pos _ k (by simp; omega), List.getElem_append_left (by omega), ← getElem!_pos ps k (by omega)]
    · have : plN (l ++ [y]) i = none := by
        refine plN_none fun k hk => ?_
        rw [getElem!_pos (l ++ [y]) k hk]
        by_cases hkl : k < l.length
        · rw [List.getElem_append_left hkl]; exact h1 _ (List.getElem_mem hkl)
        · simp at hk
          rw [List.getElem_append_right (by omega)]; simp; exact fun h => e h.symm
      rw [this, h3]; rfl
/-- one more inode, in a new block -/
theorem TreeAt.push {w w' : World} {base p m : Nat} {nx : Int} {l : List Ino} {ps : List (Nat × Value)} (h : TreeAt w base p m ⟨nx, l⟩ ps) {y : Ino} (hy : ∀ z ∈ l, z.id ≠ y.id) {q b2 : Nat} {u : Value} (hg : w.grownBy w' (some m)) (hq : w.heap.size ≤ q)
    (hi : w'.heap[q]? = some (.cells (inoC y u) 50)) (he : EntRow w' b2 u y.ents) (hb2 : w.heap.size ≤ b2) (hm : MapP w' m (fun j => if j = y.id then some q else fofP l ps j) (l.length + 1)) :
    TreeAt w' base p m ⟨nx, l ++ [y]⟩ (ps ++ [(q, u)]) := by
  have hlen : ps.length = l.length := h.len
  have hbs : base ≤ w.heap.size := by have := h.lo.1; have := lt_of_block h.tree; omega
  have hold : ∀ t, t < ps.length → (ps ++ [(q, u)])[t]! = ps[t]! := fun t ht => by rw [getElem!_pos _ t (by simp; omega), List.getElem_append_left ht, ← getElem!_pos ps t ht]
  have hnew : (ps ++ [(q, u)])[ps.length]! = (q, u) := by rw [getElem!_pos _ _ (by simp)]; simp
  have hiold : ∀ t, t < ps.length → (l ++ [y])[t]! = l[t]! := fun t ht => by rw [getElem!_pos _ t (by simp; omega), List.getElem_append_left (by omega), ← getElem!_pos l t (by omega)]
  have hinew : (l ++ [y])[ps.length]! = y := by rw [hlen, getElem!_pos _ _ (by simp)]; simp
  have hpm : p ≠ m := fun e => by
    obtain ⟨D, ⟨es, cl, hb, _⟩, _⟩ := h.map
    have := h.tree
    rw [e, hb] at this; cases this
  have hblk : ∀ t, t < ps.length → w'.heap[ps[t]!.1]? = some (.cells (inoC l[t]! ps[t]!.2) 50) := fun t ht => by
    have h1 := h.ino t ht
    rw [← h1]
    refine hg.block _ (lt_of_block h1) fun e => ?_
    obtain ⟨D, ⟨es, cl, hb, _⟩, _⟩ := h.map
    simp only [Option.some.injEq] at e
    rw [e, hb] at h1; cases h1
  have hent : ∀ t, t < ps.length → EntRow w' base ps[t]!.2 l[t]!.ents := fun t ht => by
    refine (h.ents t ht).kept hg ?_
    by_cases hn : ps[t]!.2.ownBlock = none
    · exact .inl hn
    · refine .inr fun e => ?_
      obtain ⟨D, ⟨es, cl, hb, _⟩, _⟩ := h.map
      rcases (h.ents t ht).2 with ⟨h0, _⟩ | ⟨g, cap, cur, h0, _, hh, _⟩
      · rw [h0] at hn; exact hn rfl
      · rw [h0] at e
        simp only [Value.ownBlock, Option.some.injEq] at e
        rw [e, hb] at hh; cases hh
  refine ⟨by simp [hlen], ?_, ?_, fun t ht => ?_, fun t ht => ?_, ⟨h.lo.1, h.lo.2.1, fun t ht => ?_⟩, fun t v htv hv => ?_⟩
  · show w'.heap[p]? = _
    rw [hg.block p (lt_of_block h.tree) (fun e => hpm (by simpa using e))]; exact h.tree
  · have e : fofP (l ++ [y]) (ps ++ [(q, u)]) = fun j => if j = y.id then some q else fofP l ps j := funext fun i => fof_snoc hlen hy q u i
    show MapP w' m (fofP (l ++ [y]) (ps ++ [(q, u)])) (l ++ [y]).length
    rw [e, List.length_append]; exact hm
  · simp only [List.length_append, List.length_cons, List.length_nil] at ht
    show w'.heap[((ps ++ [(q, u)])[t]!).1]? = some (.cells (inoC ((l ++ [y])[t]!) ((ps ++ [(q, u)])[t]!).2) _)
    by_cases e : t = ps.length
    · rw [e, hnew, hinew]; exact hi
    · rw [hold t (by omega), hiold t (by omega)]; exact hblk t (by omega)
  · simp only [List.length_append, List.length_cons, List.length_nil] at ht
    show EntRow w' base ((ps ++ [(q, u)])[t]!).2 ((l ++ [y])[t]!).ents
    by_cases e : t = ps.length
    · rw [e, hnew, hinew]; exact he.mono (by omega)
    · rw [hold t (by omega), hiold t (by omega)]; exact hent t (by omega)
  · simp only [List.length_append, List.length_cons, List.length_nil] at ht
    by_cases e : t = ps.length
    · rw [e, hnew]; show base ≤ q; omega
    · rw [hold t (by omega)]; exact h.lo.2.2 t (by omega)
  · simp only [List.length_append, List.length_cons, List.length_nil] at hv
    rw [hold t (by omega)]
    by_cases e : v = ps.length
    · rw [e, hnew]
      refine ⟨?_, apart_new (h.ents t (by omega)) he hb2⟩
      have := lt_of_block (h.ino t (by omega))
      show ps[t]!.1 ≠ q
      omega
    · rw [hold v (by omega)]; exact h.sep t v htv (by omega)
end

section
open Go.RowKit Go.Maps

theorem run_makeMapN (n : Int) (w : World) : (Instr.makeMap 70 (some (.int .i64 n))).run Tryz.prog w = .ok (.map (some w.heap.size)) (w.alloc (.map #[] 0)) := by kernel_rfl

set_option maxRecDepth 100000 in
set_option maxHeartbeats 1000000 in
theorem treeOf_any (v : Value) (x : Vo) (w : World) (hl : x.ins.length ≤ 1000) (hsh : EntsShort x.ins) (hr : x.ins.Pairwise fun a b => a.id < b.id) (hid : ∀ y ∈ x.ins, InI y.id) (hv : VolAt w v x) :
    Calls Tryz.prog 45 #[v] w fun e w' => ∃ p m ps, e = .returned (.pointer (some ⟨p, 0, none⟩)) ∧ TreeAt w' w.heap.size p m x ps ∧ Below w.heap.size w w' := by
  obtain ⟨nx, l⟩ := x
  obtain ⟨u, rfl, aa, ca, rfl, -, hva⟩ := hv
  dsimp only at *
  obtain ⟨n, HN⟩ : ∃ n, Hid (n = l.length) := ⟨_, rfl⟩
  rw [← HN.out] at hl hva ⊢
  have hMM := fun W => run_makeMapN (n : Int) W
  go_enter Tryz.func45, Tryz.ntmps45
  go_wp2
  go_region
  have hT0 : TreeAt ((((w.alloc (.cells #[.int .i64 nx, .slice aa n ca] 24)).alloc (.map #[] 0)).alloc (.cells #[.int .i64 nx, .map (some (w.heap.size + 1))] 74)).drew) w.heap.size (w.heap.size + 1 + 1) (w.heap.size + 1) ⟨nx, l.take 0⟩ [] := by
    have hm := MapP.made (w.alloc (.cells #[.int .i64 nx, .slice aa n ca] 24))
    have e1 : (w.alloc (.cells #[.int .i64 nx, .slice aa n ca] 24)).heap.size = w.heap.size + 1 := by simp
    have e2 : ((w.alloc (.cells #[.int .i64 nx, .slice aa n ca] 24)).alloc (.map #[] 0)).heap.size = w.heap.size + 1 + 1 := by simp
    rw [e1] at hm
    refine ⟨by simp, ?_, ?_, fun t ht => by simp at ht, fun t ht => by simp at ht, ⟨by omega, by omega, fun t ht => by simp at ht⟩, fun t u _ hu => by simp at hu⟩
    · have := (MapKept.heap_alloc ((w.alloc (.cells #[.int .i64 nx, .slice aa n ca] 24)).alloc (.map #[] 0)) (.cells #[.int .i64 nx, .map (some (w.heap.size + 1))] 74)).1
      rw [e2] at this; exact this
    · have h2 := hm.below (below_lit _ (.cells #[.int .i64 nx, .map (some (w.heap.size + 1))] 74))
      have h3 := h2.below (Below.refl _ _).drew
      have ef : fofP (l.take 0) [] = fun _ => none := by funext i; simp [fofP, plN]
      rw [ef]; simpa using h3
  have hB0 : Below (w.heap.size + 1) (w.alloc (.cells #[.int .i64 nx, .slice aa n ca] 24)) ((((w.alloc (.cells #[.int .i64 nx, .slice aa n ca] 24)).alloc (.map #[] 0)).alloc (.cells #[.int .i64 nx, .map (some (w.heap.size + 1))] 74)).drew) :=
    (((Below.refl _ _).alloc (by simp) _).alloc (by simp) _).drew
  generalize ((((w.alloc (.cells #[.int .i64 nx, .slice aa n ca] 24)).alloc (.map #[] 0)).alloc (.cells #[.int .i64 nx, .map (some (w.heap.size + 1))] 74)).drew) = w0 at hT0 hB0 ⊢
  obtain ⟨x0, x1, -⟩ := box_cells hB0
  obtain ⟨p, hp⟩ : ∃ p, Hid (p = w.heap.size + 1 + 1) := ⟨_, rfl⟩
  obtain ⟨m, hm⟩ : ∃ m, Hid (m = w.heap.size + 1) := ⟨_, rfl⟩
  rw [← hp.out, ← hm.out] at hT0 ⊢
  go_wp2
  go_loopw [17] (fun i wr => ∃ (k : Nat) (ps : List (Nat × Value)), k ≤ n ∧ i = .int .i64 k ∧ Hid (TreeAt wr w.heap.size p m ⟨nx, l.take k⟩ ps) ∧ Below (w.heap.size + 1) (w.alloc (.cells #[.int .i64 nx, .slice aa n ca] 24)) wr) (fun i _ => n - (intOf i).toNat)
  case atStart => exact ⟨0, [], Nat.zero_le _, rfl, hT0, hB0⟩
  case round =>
    obtain ⟨k, ps, hk, rfl, hTr, hbel⟩ := hrel
    obtain ⟨p0, p1, HB⟩ := box_cells hbel
    by_cases hlt : k < n
    · obtain ⟨b1, o1, s1, rfl, hb1, hc1, hen⟩ := hva k hlt
      have hkl : k < l.length := by rw [← HN.out]; exact hlt
      have hc1 := hc1.below hb1 HB
      have hen' := hen.below HB
      have hel : l[k]!.ents.length ≤ 1048576 := hsh _ (place_mem hkl)
      have hIk : InI l[k]!.id := hid _ (place_mem hkl)
      have hCL : ∀ w', Below wr.heap.size wr w' → _ := fun w' b => clone_any s1 l[k]!.ents w' (hen'.below b) hel
      have HST : Hid (∀ u w2, EntRow w2 (wr.heap.size + 1) u l[k]!.ents → Below (wr.heap.size + 1) (wr.alloc (.cells (inoC l[k]! s1) 50)) w2 →
          (w2.cell? ⟨wr.heap.size, 0, none⟩ = some (.int .i64 l[k]!.id) ∧ w2.cell? ⟨wr.heap.size, 4, none⟩ = some s1 ∧ w2.frozen? ⟨wr.heap.size, 4, none⟩ = false ∧ w2.cell? ⟨p, 1, none⟩ = some (.map (some m))) ∧
          ∃ w4, (Instr.mapUpdate 70 (.map (some m)) (.int .i64 l[k]!.id) (.pointer (some ⟨wr.heap.size, 0, none⟩))).run Tryz.prog (w2.setCell ⟨wr.heap.size, 4, none⟩ u).drew = .ok () w4 ∧ TreeAt w4 w.heap.size p m ⟨nx, l.take (k + 1)⟩ (ps ++ [(wr.heap.size, u)]) ∧ Below (w.heap.size + 1) (w.alloc (.cells #[.int .i64 nx, .slice (some ⟨b1, o1, none⟩) n ca] 24)) w4) := fun u w2 r2 b2 => by
        have hs : (wr.alloc (.cells (inoC l[k]! s1) 50)).heap.size = wr.heap.size + 1 := by simp
        have hq0 := (MapKept.heap_alloc wr (.cells (inoC l[k]! s1) 50)).1
        have hq2 : w2.heap[wr.heap.size]? = some (.cells (inoC l[k]! s1) 50) := (b2.block _ (by omega)).trans hq0
        have bA : Below wr.heap.size wr w2 := (below_lit wr _).trans (b2.mono (by omega))
        have hT2 := hTr.out.below bA
        have hpl : p < wr.heap.size := lt_of_block hTr.out.tree
        have hml : m < wr.heap.size := hTr.out.map.lt
        refine ⟨⟨Joins.cell_of_block hq2 0, Joins.cell_of_block hq2 4, Joins.unfrozen_of_block hq2 4, Joins.cell_of_block hT2.tree 1⟩, ?_⟩
        have hq3 := Joins.block_setCell (i := 4) hq2 u
        have hg3 : w2.grownBy (w2.setCell ⟨wr.heap.size, 4, none⟩ u).drew (some wr.heap.size) := ⟨rfl, rfl, rfl, by simp [World.drew, World.setCell], fun i _ hi => Below.heap_setCell w2 _ _ i (fun e => hi (by rw [e]))⟩
        have hm3 := hT2.map.kept hg3 (by simp; omega)
        obtain ⟨w4, hrun, hm4, hg4⟩ := hm3.store (by simp; omega) hIk wr.heap.size
        have hnone : fofP (l.take k) ps l[k]!.id = none := by
          unfold fofP
          rw [plN_none fun j hj => ?_]
          · rfl
          · simp at hj
            rw [getElem!_pos _ j (by simp; omega), List.getElem_take]
            have := List.pairwise_iff_getElem.1 hr j k (by omega) hkl (by omega)
            rw [getElem!_pos l k hkl]; omega
        refine ⟨w4, hrun, ?_, ?_⟩
        · rw [List.take_succ_eq_append_getElem hkl, ← getElem!_pos l k hkl]
          refine hTr.out.push (b2 := wr.heap.size + 1) (fun z hz => ?_) ?_ (Nat.le_refl _) ?_ ?_ (by omega) ?_
          · obtain ⟨j, hj, rfl⟩ := List.getElem_of_mem hz
            simp at hj
            rw [List.getElem_take]
            have := List.pairwise_iff_getElem.1 hr j k (by omega) hkl (by omega)
            rw [getElem!_pos l k hkl]; omega
          · have h1 : wr.grownBy (w2.setCell ⟨wr.heap.size, 4, none⟩ u).drew (some m) := ⟨(hg3.os).trans bA.os, hg3.tape.trans bA.tape, hg3.output.trans bA.output, Nat.le_trans bA.size hg3.size, fun i hi _ => (hg3.block i (Nat.lt_of_lt_of_le hi bA.size) (by simp; omega)).trans (bA.block i hi)⟩
            exact ⟨hg4.os.trans h1.os, hg4.tape.trans h1.tape, hg4.output.trans h1.output, Nat.le_trans h1.size hg4.size, fun i hi hne => (hg4.block i (Nat.lt_of_lt_of_le hi h1.size) hne).trans (h1.block i hi hne)⟩
          · have h1 : (w2.setCell ⟨wr.heap.size, 4, none⟩ u).drew.heap[wr.heap.size]? = some (.cells ((inoC l[k]! s1).setIfInBounds 4 u) 50) := hq3
            rw [hg4.block _ (lt_of_block h1) (by simp; omega), h1]
            rfl
          · have h1 := r2.kept hg3 (.inr fun e => by
              have := r2.blk _ e; omega)
            exact h1.kept hg4 (.inr fun e => by have := r2.blk _ e; omega)
          · rw [hnone] at hm4
            simpa [Nat.min_eq_left (Nat.le_of_lt hkl)] using hm4
        · have h1 : Below (w.heap.size + 1) (w.alloc (.cells #[.int .i64 nx, .slice (some ⟨b1, o1, none⟩) n ca] 24)) (w2.setCell ⟨wr.heap.size, 4, none⟩ u).drew := ((hbel.trans (bA.mono (by have := hbel.size; simp at this; omega))).setCell (by show w.heap.size + 1 ≤ wr.heap.size; have := hbel.size; simp at this; omega) _).drew
          have hsz := h1.size
          exact h1.grown hg4 (by simpa using hsz) (fun q hq => by cases hq; exact Nat.le_of_eq hm.out.symm)
      obtain ⟨ea, ec, rfl, -, -⟩ := hen
      generalize l[k]! = y at hc1 hCL HST
      obtain ⟨yi, yk, yl, yd, ye⟩ := y
      unfold inoC at HST
      dsimp only at hc1 hCL HST
      have k0 := hc1.c0
      have k1 := hc1.c1
      have k2 := hc1.c2
      have k3 := hc1.c3
      have k4 := hc1.c4
      have hbA := below_lit wr (.cells #[.int .i64 yi, .int .i64 yk, .int .i64 yl, .string yd, .slice ea ye.length ec] 50)
      have hsA : (wr.alloc (.cells #[.int .i64 yi, .int .i64 yk, .int .i64 yl, .string yd, .slice ea ye.length ec] 50)).heap.size = wr.heap.size + 1 := by simp
      have hCL := hCL _ hbA
      have hpq : ¬ wr.heap.size = p := by have := lt_of_block hTr.out.tree; omega
      have hpq' : ¬ p = wr.heap.size := by have := lt_of_block hTr.out.tree; omega
      clear hc1 hva
      go_wp2_with (go_at_call 56; refine hCL.mono ?_; rintro e w2 ⟨u, rfl, r2, b2⟩; rw [hsA] at r2 b2; obtain ⟨⟨c0, c4, cf, cp⟩, w4, hrun, hT4, hB4⟩ := HST.out u w2 r2 b2; obtain ⟨ua, uc, rfl, -, -⟩ := r2.at; have hT4 : Hid _ := hT4)
      go_region
      go_wp2
      go_roundw
      case rel => exact ⟨k + 1, _, by omega, by go_num, hT4, hB4⟩
      case measure => simp [intOf]; omega
    · obtain rfl : k = n := by omega
      have hTE := hTr.out
      rw [HN.out, List.take_length] at hTE
      go_wp2
      go_ret
      exact ⟨p, m, ps, rfl, hTE, HB⟩
end

section
open Go.RowKit Go.Maps Go.Sort

/-- those that are no more to come -/
def visL (l : List Ino) (left : Lit → Bool) : List Ino := l.filter fun y => !left (.int .i64 y.id)
def visC (l : List Ino) (left : Lit → Bool) (i : Int) : Nat := ((visL l left).map fun y => cntN y.ents i).sum
def visE (l : List Ino) (left : Lit → Bool) : Nat := ((visL l left).map fun y => y.ents.length).sum
theorem same_int (a b : Int) : (Lit.int .i64 a).sameKey (.int .i64 b) = decide (a = b) := by simp [Lit.sameKey]
/-- the keys still to come behind one more -/
def lessL (left : Lit → Bool) (i : Int) : Lit → Bool := fun z => left z && !z.sameKey (.int .i64 i)
theorem lessL_at (left : Lit → Bool) (i j : Int) : lessL left i (.int .i64 j) = (left (.int .i64 j) && !decide (j = i)) := by unfold lessL; rw [same_int]
theorem vis_step (f : Ino → Nat) (left : Lit → Bool) : ∀ (l : List Ino), (l.Pairwise fun a b => a.id < b.id) → ∀ y ∈ l, left (.int .i64 y.id) = true → ((visL l (lessL left y.id)).map f).sum = ((visL l left).map f).sum + f y
  | [], _, y, hy, _ => by simp at hy
  | z :: l, hr, y, hy, hl => by
    rw [List.pairwise_cons] at hr
    have ih := vis_step f left l hr.2 y
    unfold visL at ih ⊢
    rw [List.filter_cons, List.filter_cons]
    rcases List.mem_cons.1 hy with rfl | hy
    · have e1 : (!lessL left y.id (.int .i64 y.id)) = true := by rw [lessL_at]; simp
      have e2 : (!left (.int .i64 y.id)) = false := by rw [hl]; rfl
      rw [if_pos e1, if_neg (by rw [e2]; simp)]
      have e3 : (l.filter fun a => !lessL left y.id (.int .i64 a.id)) = l.filter fun a => !left (.int .i64 a.id) := by
        apply List.filter_congr
        intro a ha
        have := hr.1 a ha
        rw [lessL_at, decide_eq_false (by omega)]; simp
      rw [e3, List.map_cons, List.sum_cons]; omega
    · have h1 := hr.1 y hy
      have e1 : (!lessL left y.id (.int .i64 z.id)) = !left (.int .i64 z.id) := by rw [lessL_at, decide_eq_false (by omega)]; simp
      rw [e1]
      have := ih hy hl
      cases left (.int .i64 z.id)
      · simp only [Bool.not_false, if_true, List.map_cons, List.sum_cons]; omega
      · simp only [Bool.not_true, Bool.false_eq_true, if_false]; exact this
theorem vis_none (l : List Ino) (left : Lit → Bool) (h : ∀ y ∈ l, left (.int .i64 y.id) = true) : visL l left = [] := by
  unfold visL
  rw [List.filter_eq_nil_iff]
  intro y hy; simp [h y hy]
theorem vis_all (l : List Ino) (left : Lit → Bool) (h : ∀ z, left z = false) : visL l left = l := by
  unfold visL
  rw [List.filter_eq_self]
  intro y _; simp [h]
theorem vis_le (l : List Ino) (left : Lit → Bool) (f : Ino → Nat) : ((visL l left).map f).sum ≤ (l.map f).sum := by
  unfold visL
  induction l with
  | nil => simp
  | cons z l ih =>
    rw [List.filter_cons]
    split
    · simp only [List.map_cons, List.sum_cons]; omega
    · simp only [List.map_cons, List.sum_cons]; omega
theorem sum_bd (l : List Ino) (f : Ino → Nat) (c : Nat) (h : ∀ y ∈ l, f y ≤ c) : (l.map f).sum ≤ l.length * c := by
  induction l with
  | nil => simp
  | cons z l ih =>
    have h1 := h z (by simp)
    have h2 := ih fun y hy => h y (by simp [hy])
    simp only [List.map_cons, List.sum_cons, List.length_cons]
    have : (l.length + 1) * c = l.length * c + c := Nat.succ_mul _ _
    omega
theorem inI_of_wf {i : Int} (h : (Lit.int .i64 i).wf = true) : InI i := bounds_i64 h
/-- the key that has come is an inode's Id, the pointer that inode's -/
theorem come_is {l : List Ino} {ps : List (Nat × Value)} {D : DataW Unit} (hF : ∀ i, InI i → Maps.has D (.int .i64 i) = (fofP l ps i).isSome ∧ ∀ z : DataW Unit, D.atKey (.int .i64 i) z = (match fofP l ps i with | some q => .lit (.int .i64 (q : Int)) | none => z))
    {i : Int} {o : Option Nat} {kl : Lit} {y : DataW Unit × List MemPlace} (hk : keyOf Tryz.prog 3 (.int .i64 i) = some kl) (hh : Maps.has D kl = true) (hR : ptrR (ptrV o) = some y) (hat : ∀ zd, D.atKey kl zd = y.1) :
    kl = .int .i64 i ∧ InI i ∧ ∃ t, t < l.length ∧ l[t]!.id = i ∧ o = some ps[t]!.1 := by
  obtain ⟨i', e, rfl, hw⟩ := Maps.keyOf_int_inv Tryz.underlying3 hk
  cases e
  have hI := inI_of_wf hw
  refine ⟨rfl, hI, ?_⟩
  rw [(hF i hI).1] at hh
  unfold fofP at hh hF
  cases hp : plN l i with
  | none => rw [hp] at hh; simp at hh
  | some t =>
    obtain ⟨h1, h2⟩ := plN_is hp
    refine ⟨t, h1, h2, ?_⟩
    have := hat (.lit (.int .i64 0))
    rw [(hF i hI).2, hp] at this
    rw [ptrR_V] at hR
    simp only [Option.map_some] at this
    simp only [Option.some.injEq] at hR
    rw [← hR] at this
    simp only [DataW.lit.injEq, Lit.int.injEq, true_and] at this
    exact ptrN_inj (by rw [← this]; rfl)

/-- what a volume must be for linksOk and below to be asked -/
structure TreeFit (x : Vo) : Prop where
  rise : x.ins.Pairwise fun a b => a.id < b.id
  len : x.ins.length ≤ 100
  ids : ∀ y ∈ x.ins, InI y.id
  ents : ∀ y ∈ x.ins, y.ents.length ≤ 100
  eids : ∀ y ∈ x.ins, ∀ e ∈ y.ents, InI e.id

set_option maxRecDepth 100000 in
set_option maxHeartbeats 1000000 in
theorem linksOk_any (base p m : Nat) (x : Vo) (ps : List (Nat × Value)) (w : World) (hx : TreeFit x) (hT : TreeAt w base p m x ps) :
    Calls Tryz.prog 46 #[.pointer (some ⟨p, 0, none⟩)] w fun e w' => e = .returned (.bool (linksB x)) ∧ Below w.heap.size w w' := by
  have HR : Hid (∀ b : Bool, (b = true ↔ LinksR x) → linksB x = b) := fun b hb => bool_of linksB_iff hb
  generalize linksB x = r at HR ⊢
  obtain ⟨D, hown, hsz, hF⟩ := hT.map
  have hlen := hT.len
  have cp : w.cell? ⟨p, 1, none⟩ = some (.map (some m)) := Joins.cell_of_block hT.tree 1
  have HTB : Hid (∀ wr, Below w.heap.size w wr → TreeAt wr base p m x ps) := fun wr b => hT.below b
  have hpl : p < w.heap.size := lt_of_block hT.tree
  obtain ⟨nx, l⟩ := x
  dsimp only at *
  have cb0 := MapC.made w
  have ho1 := (hown.alloc (.map #[] 0))
  have hMM := fun W => run_makeMap (P := Tryz.prog) 82 W
  go_enter Tryz.func46, Tryz.ntmps46
  have cp1 : (w.alloc (.map #[] 0)).cell? ⟨p, 1, none⟩ = some (.map (some m)) := ((below_lit w _).cell (p := ⟨p, 1, none⟩) hpl).trans cp
  go_wp2_with (at_range; refine wpList_range_own _ rfl _ 70 rfl 3 72 keyI Tryz.underlying70 ptrR m l.length D rfl ho1 ?_; intro w0 hrg0 hg0 hs0)
  have hsA : (w.alloc (.map #[] 0)).heap.size = w.heap.size + 1 := by simp
  rw [hsA] at hrg0 hs0 ⊢
  have bw0 : Below w.heap.size w w0 := (below_lit w _).grown hg0 (by simp) (fun _ h => by cases h)
  have cb1 := cb0.kept hg0 (by simp)
  have hz0 : w.heap.size + 1 < w0.heap.size := by omega
  have HALL : Hid (∀ y ∈ l, has D (.int .i64 y.id) = true) := fun y hy => by
    rw [(hF y.id (hx.ids y hy)).1]
    unfold fofP
    rcases plZ_cases l y.id with ⟨k, h1, h2, h3, -⟩ | ⟨h1, -⟩
    · rw [h3]; rfl
    · exact absurd rfl (h1 y hy)
  have HV0 : Hid (visL l (has D) = []) := vis_none l _ HALL.out
  have HNO : Hid (∀ y ∈ l, ∀ e ∈ y.ents, (e.id = 1 ∨ ∀ z ∈ l, z.id ≠ e.id) → r = false) := fun y hy e he h => HR.out false (by
    simp only [Bool.false_eq_true, false_iff]
    rintro ⟨h1, _⟩
    have := h1 y hy e he
    rcases h with h | h
    · exact this.1 h
    · obtain ⟨z, hz, hzz⟩ := this.2; exact h z hz hzz)
  have HLK : Hid (∀ y ∈ l, y.id ≠ 1 → y.links ≠ (namedV ⟨nx, l⟩ y.id : Nat) → r = false) := fun y hy h1 h2 => HR.out false (by
    simp only [Bool.false_eq_true, false_iff]
    rintro ⟨_, h3⟩; exact h2 (h3 y hy h1))
  have HYES : Hid ((∀ y ∈ l, ∀ e ∈ y.ents, e.id ≠ 1 ∧ ∃ z ∈ l, z.id = e.id) → (∀ y ∈ l, y.id ≠ 1 → y.links = (namedV ⟨nx, l⟩ y.id : Nat)) → r = true) := fun h1 h2 => HR.out true (by simp only [true_iff]; exact ⟨h1, h2⟩)
  clear HR
  have HBC : Hid (∀ left i, visC l left i ≤ 10000) := fun left i => by
    have h1 := vis_le l left (fun y => cntN y.ents i)
    have h2 := sum_bd l (fun y => cntN y.ents i) 100 (fun y hy => Nat.le_trans (cntN_le _ _) (hx.ents y hy))
    have h3 := hx.len
    unfold visC
    dsimp only at h3
    omega
  have HBE : Hid (∀ left, visE l left ≤ 10000) := fun left => by
    have h1 := vis_le l left (fun y => y.ents.length)
    have h2 := sum_bd l (fun y => y.ents.length) 100 (fun y hy => hx.ents y hy)
    have h3 := hx.len
    unfold visE
    dsimp only at h3
    omega
  try go_frame
  go_loopw [5] (fun _ wr => ∃ (left : Lit → Bool) (cnt : Nat) (G : Int → Nat), Hid (wr.ranges Tryz.prog 3 ptrR m (w.heap.size + 1) l.length D left cnt) ∧ Hid (∀ z, left z = true → has D z = true) ∧ Hid (MapC wr w.heap.size G (visE l left)) ∧ Hid (∀ i, InI i → G i = visC l left i) ∧ Hid (∀ y ∈ l, left (.int .i64 y.id) = false → ∀ e ∈ y.ents, e.id ≠ 1 ∧ ∃ z ∈ l, z.id = e.id) ∧ Below w.heap.size w wr ∧ w.heap.size + 1 < wr.heap.size) (fun _ wr => wr.rangeLeft m (w.heap.size + 1))
  case atStart =>
    refine ⟨has D, size D, fun _ => 0, hrg0, fun z h => h, ?_, fun i _ => ?_, fun y hy h => ?_, bw0, hz0⟩
    · show MapC _ _ _ _
      unfold visE; rw [HV0.out]; exact cb1
    · unfold visC; rw [HV0.out]; rfl
    · rw [HALL.out y hy] at h; cases h
  case round =>
    obtain ⟨left, cnt, G, HRG, HLH, HMC, HG, HOK, hbel, hsz1⟩ := hrel
    have hrg := HRG.out
    go_wp2_with (first
      | (at_next; refine wpList_next_ranges _ rfl _ rfl 3 keyI ptrR (Value.int .i64) ptrV (fun key kl hk => by obtain ⟨x, rfl, _⟩ := Maps.keyOf_int_inv Tryz.underlying3 hk; exact ⟨x, rfl⟩) (fun v y hv => ptrR_inv hv) m (w.heap.size + 1) l.length D left cnt rfl hrg ?_ ?_)
      | go_in)
    · intro hc0 hl0
      have HVA : Hid (visL l left = l) := vis_all l left hl0
      have HGN : Hid (∀ i, InI i → G i = namedV ⟨nx, l⟩ i) := fun i hi => by
        rw [HG.out i hi]; unfold visC namedV; rw [HVA.out]
      have HOK2 : Hid (∀ y ∈ l, ∀ e ∈ y.ents, e.id ≠ 1 ∧ ∃ z ∈ l, z.id = e.id) := fun y hy => HOK.out y hy (hl0 _)
      have xp : wr.cell? ⟨p, 1, none⟩ = some (.map (some m)) := Joins.cell_of_block (HTB.out _ hbel).tree 1
      have ho2 := hrg.owns
      have hmc := HMC.out
      generalize visE l left = ve at hmc
      go_wp2_with (at_range; refine wpList_range_own _ rfl _ 70 rfl 3 72 keyI Tryz.underlying70 ptrR m l.length D rfl ho2 ?_; intro w2 hrg2 hg2 hs2)
      have bw2 : Below w.heap.size w w2 := hbel.grown hg2 hbel.size (fun _ h => by cases h)
      have hm2 := hmc.kept hg2 (by simp)
      obtain ⟨rr, hrr⟩ : ∃ rr, Hid (rr = wr.heap.size) := ⟨_, rfl⟩
      have hrs : w.heap.size < rr := by rw [hrr.out]; omega
      have hrs2 : rr < w2.heap.size := by rw [hrr.out]; omega
      rw [← hrr.out] at hrg2 ⊢
      have hm2 : Hid (MapC w2 w.heap.size G ve) := hm2
      have hrg2 : Hid (w2.ranges Tryz.prog 3 ptrR m rr l.length D (has D) (size D)) := hrg2
      try go_frame
      go_loopw [8] (fun _ wq => ∃ (left2 : Lit → Bool) (cnt2 : Nat), Hid (wq.ranges Tryz.prog 3 ptrR m rr l.length D left2 cnt2) ∧ Hid (∀ z, left2 z = true → has D z = true) ∧ Hid (MapC wq w.heap.size G ve) ∧ Hid (∀ y ∈ l, left2 (.int .i64 y.id) = false → y.id ≠ 1 → y.links = (namedV ⟨nx, l⟩ y.id : Nat)) ∧ Below w.heap.size w wq ∧ rr < wq.heap.size) (fun _ wq => wq.rangeLeft m rr)
      case atStart =>
        have HS0 : Hid (∀ y ∈ l, has D (.int .i64 y.id) = false → y.id ≠ 1 → y.links = (namedV ⟨nx, l⟩ y.id : Nat)) := fun y hy h _ => by rw [HALL.out y hy] at h; cases h
        exact ⟨has D, size D, hrg2, fun z h => h, hm2, HS0, bw2, hrs2⟩
      case round =>
        obtain ⟨left2, cnt2, HRG2, HLH2, HMC2, HOK3, hbel2, hsz2⟩ := hrel
        have hrgq := HRG2.out
        go_wp2_with (first
          | (at_next; refine wpList_next_ranges _ rfl _ rfl 3 keyI ptrR (Value.int .i64) ptrV (fun key kl hk => by obtain ⟨x, rfl, _⟩ := Maps.keyOf_int_inv Tryz.underlying3 hk; exact ⟨x, rfl⟩) (fun v y hv => ptrR_inv hv) m rr l.length D left2 cnt2 rfl hrgq ?_ ?_)
          | go_in)
        · intro hc1 hl1
          have hr : Hid (r = true) := HYES.out HOK2.out (fun y hy h1 => HOK3.out y hy (hl1 _) h1)
          go_wp2
          go_ret
          exact ⟨ret_bool hr.out.symm, hbel2⟩
        · intro xi o kl yd yl w1 cnt1 hk hlk hR hat hrg1 hltc hg1 hs1 hen
          obtain ⟨rfl, hI, t, ht, hid, rfl⟩ := come_is (y := (yd, yl)) hF hk (HLH2.out _ hlk) hR hat
          have hty : l[t]! ∈ l := place_mem ht
          have bw1 : Below w.heap.size w w1 := hbel2.grown hg1 hbel2.size (fun q hq => by cases hq; omega)
          have hmc1 := HMC2.out.kept hg1 (by simp; omega)
          have hI1 := (HTB.out w1 bw1).ino t (by omega)
          have cq : w1.cell? ⟨ps[t]!.1, 2, none⟩ = some (.int .i64 l[t]!.links) := Joins.cell_of_block hI1 2
          have hen2 : (Instr.entry (.pointer (some ⟨rr, 0, none⟩))).run Tryz.prog w1 = .ok (.tuple #[.int .i64 xi, .pointer (some ⟨ps[t]!.1, 0, none⟩)]) w1 := hen
          clear hen
          have hGN := HGN.out xi hI
          have HL1 : Hid (xi ≠ 1 → l[t]!.links ≠ (namedV ⟨nx, l⟩ xi : Nat) → r = false) := fun h1 h2 => HLK.out _ hty (by rw [hid]; exact h1) (by rw [hid]; exact h2)
          have HL2 : Hid ((xi = 1 ∨ l[t]!.links = (namedV ⟨nx, l⟩ xi : Nat)) → ∀ y ∈ l, lessL left2 xi (.int .i64 y.id) = false → y.id ≠ 1 → y.links = (namedV ⟨nx, l⟩ y.id : Nat)) := fun h y hy hl h1 => by
            rw [lessL_at] at hl
            by_cases e1 : y.id = xi
            · have := rise_eq hx.rise hy hty (by rw [e1, hid])
              subst this
              rcases h with h | h
              · exact absurd (by rw [e1]; exact h) h1
              · rw [e1]; exact h
            · rw [decide_eq_false e1] at hl
              exact HOK3.out y hy (by simpa using hl) h1
          have HLH1 : Hid (∀ z, lessL left2 xi z = true → has D z = true) := fun z h => HLH2.out z (by unfold lessL at h; simp at h; exact h.1)
          have HLL : Hid ((fun z => left2 z && !z.sameKey (.int .i64 xi)) = lessL left2 xi) := rfl
          rw [HLL.out] at hrg1
          have hRG1 : Hid (w1.ranges Tryz.prog 3 ptrR m rr l.length D (lessL left2 xi) cnt1) := hrg1
          have hsz3 : rr < w1.heap.size := by rw [hs1]; exact hsz2
          have hlook : ∀ dd os, (Instr.lookup 82 (.map (some w.heap.size)) (.int .i64 xi) false).run Tryz.prog (grow (redrawn w1 dd) os) = .ok (.int .i64 (G xi : Int)) (grow (redrawn w1 dd) os) := fun dd os => (hmc1.below (below_regrown _ dd os)).look hI
          rw [hGN] at hlook
          generalize namedV ⟨nx, l⟩ xi = nm at hlook HL1 HL2
          generalize l[t]!.links = lk at cq HL1 HL2
          generalize ps[t]!.1 = q at cq hen2 ⊢
          have gq := cell_regrown cq
          have hRGB : Hid (∀ dd os, (grow (redrawn w1 dd) os).ranges Tryz.prog 3 ptrR m rr l.length D (lessL left2 xi) cnt1) := fun dd os => by
            have hb := below_regrown w1 dd os
            exact hRG1.out.kept (row := none) ⟨hb.os, hb.tape, hb.output, hb.size, fun k hk _ => hb.block k hk⟩ (by simp) (by simp)
          by_cases h1 : xi = 1
          · have f1 : (xi != 1) = false := by simp [h1]
            have HX : Hid _ := HL2.out (.inl h1)
            clear h1
            go_wp2
            refine wp_region_quiet_below (by kernel_rfl) (by kernel_rfl) ?_
            repeat (go_big_quiet_step (fail))
            refine wpQuiet_nil ?_
            rintro w' ⟨⟨dq, osq⟩, rfl⟩
            have hb5 := below_regrown w1 dq osq
            have hr5 : Hid ((grow (redrawn w1 dq) osq).ranges Tryz.prog 3 ptrR m rr l.length D (lessL left2 xi) cnt1) := hRGB.out dq osq
            have hm5 : Hid (MapC (grow (redrawn w1 dq) osq) w.heap.size G ve) := hmc1.below hb5
            generalize grow (redrawn w1 dq) osq = w5 at hb5 hr5 hm5 ⊢
            have hmeas : w5.rangeLeft m rr = cnt1 := hr5.out.left_eq
            go_wp2
            go_roundw
            case rel => exact ⟨lessL left2 xi, cnt1, hr5, HLH1, hm5, HX, bw1.trans (hb5.mono bw1.size), Nat.lt_of_lt_of_le hsz3 hb5.size⟩
            case measure => rw [hmeas, hrgq.left_eq]; exact hltc
          · have f1 : (xi != 1) = true := by simp [h1]
            by_cases h2 : lk = (nm : Int)
            · have f2 : (lk != (nm : Int)) = false := by simp [h2]
              have HX : Hid _ := HL2.out (.inr h2)
              clear h1 h2
              go_wp2
              refine wp_region_quiet_below (by kernel_rfl) (by kernel_rfl) ?_
              repeat (go_big_quiet_step (fail))
              refine wpQuiet_nil ?_
              rintro w' ⟨⟨dq, osq⟩, rfl⟩
              have hb5 := below_regrown w1 dq osq
              have hr5 : Hid ((grow (redrawn w1 dq) osq).ranges Tryz.prog 3 ptrR m rr l.length D (lessL left2 xi) cnt1) := hRGB.out dq osq
              have hm5 : Hid (MapC (grow (redrawn w1 dq) osq) w.heap.size G ve) := hmc1.below hb5
              generalize grow (redrawn w1 dq) osq = w5 at hb5 hr5 hm5 ⊢
              have hmeas : w5.rangeLeft m rr = cnt1 := hr5.out.left_eq
              go_wp2
              go_roundw
              case rel => exact ⟨lessL left2 xi, cnt1, hr5, HLH1, hm5, HX, bw1.trans (hb5.mono bw1.size), Nat.lt_of_lt_of_le hsz3 hb5.size⟩
              case measure => rw [hmeas, hrgq.left_eq]; exact hltc
            · have f2 : (lk != (nm : Int)) = true := by simp [h2]
              have hr : Hid _ := HL1.out h1 h2
              clear h1 h2
              go_wp2
              refine wp_region_quiet_below (by kernel_rfl) (by kernel_rfl) ?_
              repeat (go_big_quiet_step (fail))
              refine wpQuiet_nil ?_
              rintro w' ⟨⟨dq, osq⟩, rfl⟩
              have hb5 := below_regrown w1 dq osq
              generalize grow (redrawn w1 dq) osq = w5 at hb5 ⊢
              go_wp2
              go_ret
              exact ⟨ret_bool hr.out.symm, bw1.trans (hb5.mono bw1.size)⟩
    · intro xi o kl yd yl w1 cnt1 hk hlk hR hat hrg1 hltc hg1 hs1 hen
      obtain ⟨rfl, hI, t, ht, hid, rfl⟩ := come_is (y := (yd, yl)) hF hk (HLH.out _ hlk) hR hat
      have hty : l[t]! ∈ l := place_mem ht
      have bw1 : Below w.heap.size w w1 := hbel.grown hg1 hbel.size (fun q hq => by cases hq; omega)
      have hT1 := HTB.out w1 bw1
      have hmc1 := HMC.out.kept hg1 (by simp)
      have hsz2 : w.heap.size + 1 < w1.heap.size := by rw [hs1]; exact hsz1
      have hI1 := hT1.ino t (by omega)
      have hE1 := hT1.ents t (by omega)
      have cq : w1.cell? ⟨ps[t]!.1, 4, none⟩ = some ps[t]!.2 := Joins.cell_of_block hI1 4
      have hEA := hE1.at
      have hen2 : (Instr.entry (.pointer (some ⟨w.heap.size + 1, 0, none⟩))).run Tryz.prog w1 = .ok (.tuple #[.int .i64 xi, .pointer (some ⟨ps[t]!.1, 0, none⟩)]) w1 := hen
      clear hen
      have HEE : Hid (∀ wq, Below w.heap.size w wq → EntsAt wq ps[t]!.2 l[t]!.ents) := fun wq b => ((HTB.out wq b).ents t (by omega)).at
      have hel : l[t]!.ents.length ≤ 100 := hx.ents _ hty
      have HEI : Hid (∀ j, j < l[t]!.ents.length → InI l[t]!.ents[j]!.id) := fun j hj => hx.eids _ hty _ (by rw [getElem!_pos _ j hj]; exact List.getElem_mem hj)
      have HNOT : Hid (∀ j, j < l[t]!.ents.length → (l[t]!.ents[j]!.id = 1 ∨ ∀ z ∈ l, z.id ≠ l[t]!.ents[j]!.id) → r = false) := fun j hj h => HNO.out _ hty _ (by rw [getElem!_pos _ j hj]; exact List.getElem_mem hj) h
      have HFIN : Hid (∀ (G2 : Int → Nat) wq, MapC wq w.heap.size G2 (visE l left + l[t]!.ents.length) → (∀ i, InI i → G2 i = visC l left i + cntK l[t]!.ents i l[t]!.ents.length) → (∀ j, j < l[t]!.ents.length → l[t]!.ents[j]!.id ≠ 1 ∧ ∃ z ∈ l, z.id = l[t]!.ents[j]!.id) →
          MapC wq w.heap.size G2 (visE l (lessL left xi)) ∧ (∀ i, InI i → G2 i = visC l (lessL left xi) i) ∧ (∀ y ∈ l, lessL left xi (.int .i64 y.id) = false → ∀ e ∈ y.ents, e.id ≠ 1 ∧ ∃ z ∈ l, z.id = e.id)) := fun G2 wq h1 h2 h3 => by
        rw [← hid] at hlk ⊢
        refine ⟨?_, fun i hi => ?_, fun y hy hl e he => ?_⟩
        · have := vis_step (fun y => y.ents.length) left l hx.rise _ hty hlk
          unfold visE at h1 ⊢
          rw [this]; exact h1
        · have := vis_step (fun y => cntN y.ents i) left l hx.rise _ hty hlk
          rw [h2 i hi, cntK_all]
          unfold visC
          rw [this]
        · rw [lessL_at] at hl
          by_cases e1 : y.id = l[t]!.id
          · have := rise_eq hx.rise hy hty e1
            subst this
            obtain ⟨j, hj, rfl⟩ := List.getElem_of_mem he
            have := h3 j hj
            rwa [getElem!_pos _ j hj] at this
          · rw [decide_eq_false e1] at hl
            exact HOK.out y hy (by simpa using hl) e he
      have HLL : Hid ((fun z => left z && !z.sameKey (.int .i64 xi)) = lessL left xi) := rfl
      rw [HLL.out] at hrg1
      have hRG1 : Hid (w1.ranges Tryz.prog 3 ptrR m (w.heap.size + 1) l.length D (lessL left xi) cnt1) := hrg1
      have HLH1 : Hid (∀ z, lessL left xi z = true → has D z = true) := fun z h => HLH.out z (by unfold lessL at h; simp at h; exact h.1)
      have HG1 := HG.out
      have HVB := HBE.out left
      have HCB := fun i => HBC.out left i
      generalize visE l left = ve at hmc1 HFIN HVB
      have HCB : Hid _ := HCB
      obtain ⟨ea, ec, hes, -, -⟩ := hEA
      rw [hes] at cq HEE
      generalize ps[t]!.1 = q at cq hen2 ⊢
      generalize l[t]!.ents = d at hel HEI HNOT HFIN HEE cq
      obtain ⟨em, HEM⟩ : ∃ em, Hid (em = d.length) := ⟨_, rfl⟩
      rw [← HEM.out] at hel HEI HNOT HFIN HEE cq
      clear hI1 hE1 hT1 hes
      go_wp2
      go_loopw [25] (fun s wq => ∃ (j : Nat) (G2 : Int → Nat), j ≤ em ∧ s = .int .i64 j ∧ Hid (wq.ranges Tryz.prog 3 ptrR m (w.heap.size + 1) l.length D (lessL left xi) cnt1) ∧ Hid (MapC wq w.heap.size G2 (ve + j)) ∧ Hid (∀ i, InI i → G2 i = visC l left i + cntK d i j) ∧ Hid (∀ i, i < j → d[i]!.id ≠ 1 ∧ ∃ z ∈ l, z.id = d[i]!.id) ∧ Below w.heap.size w wq ∧ w.heap.size + 1 < wq.heap.size) (fun s _ => em - (intOf s).toNat)
      case atStart => exact ⟨0, G, Nat.zero_le _, rfl, hRG1, hmc1, fun i hi => by rw [HG1 i hi]; simp [cntK, cntN], fun i hi => by omega, bw1, hsz2⟩
      case round =>
        obtain ⟨j, G2, hj, rfl, HR2, HM2, HG2, HK2, hbq, hsq⟩ := hrel
        by_cases hlt : j < em
        · obtain ⟨ea2, ec2, e2, -, hce⟩ := HEE.out wr hbq
          simp only [Value.slice.injEq] at e2
          obtain ⟨rfl, -, rfl⟩ := e2
          obtain ⟨eb, eo, rfl, heb, hc⟩ := hce j (by rw [← HEM.out]; exact hlt)
          have hIe := HEI.out j hlt
          have HNj := HNOT.out j hlt
          have HCK : Hid (∀ i, cntK d i (j + 1) = cntK d i j + if d[j]!.id = i then 1 else 0) := fun i => cntK_succ d i j (by rw [← HEM.out]; exact hlt)
          have HCL : Hid (∀ i, cntK d i j ≤ j) := fun i => cntK_le d i j
          have HK3 : Hid (d[j]!.id ≠ 1 → (∃ z ∈ l, z.id = d[j]!.id) → ∀ i, i < j + 1 → d[i]!.id ≠ 1 ∧ ∃ z ∈ l, z.id = d[i]!.id) := fun h1 h2 i hi => by
            by_cases e : i = j
            · rw [e]; exact ⟨h1, h2⟩
            · exact HK2.out i (by omega)
          have k0 := hc.c0
          have k1 := hc.c1
          have k2 := hc.c2
          have k3 := hc.c3
          generalize d[j]!.hash = h0 at k0
          generalize d[j]!.index = h1 at k1
          generalize d[j]!.name = h2 at k2
          generalize d[j]!.id = eid at k3 hIe HNj HCK HK3
          clear hc hce HEE HEI HNOT
          have HNj : Hid _ := HNj
          have bA := below_lit wr (.cells #[.int .i64 h0, .int .i64 h1, .string h2, .int .i64 eid] 66)
          have sA : (wr.alloc (.cells #[.int .i64 h0, .int .i64 h1, .string h2, .int .i64 eid] 66)).heap.size = wr.heap.size + 1 := by simp
          have x3 : (wr.alloc (.cells #[.int .i64 h0, .int .i64 h1, .string h2, .int .i64 eid] 66)).cell? ⟨wr.heap.size, 3, none⟩ = some (.int .i64 eid) := by rw [World.cell?_alloc_mark]; rfl
          have bwA := hbq.trans (bA.mono hbq.size)
          have hmp := (HTB.out _ bwA).map
          have xp : (wr.alloc (.cells #[.int .i64 h0, .int .i64 h1, .string h2, .int .i64 eid] 66)).cell? ⟨p, 1, none⟩ = some (.map (some m)) := Joins.cell_of_block (HTB.out _ bwA).tree 1
          have hlook : ∀ dd os, (Instr.lookup 70 (.map (some m)) (.int .i64 eid) false).run Tryz.prog (grow (redrawn (wr.alloc (.cells #[.int .i64 h0, .int .i64 h1, .string h2, .int .i64 eid] 66)) dd) os) = .ok (ptrV (fofP l ps eid)) (grow (redrawn (wr.alloc (.cells #[.int .i64 h0, .int .i64 h1, .string h2, .int .i64 eid] 66)) dd) os) := fun dd os => (hmp.below (below_regrown _ dd os)).look hIe
          have hfo : fofP l ps eid = none ∧ (∀ z ∈ l, z.id ≠ eid) ∨ ∃ q2, fofP l ps eid = some q2 ∧ ∃ z ∈ l, z.id = eid := by
            unfold fofP
            rcases plZ_cases l eid with ⟨k, h1, h2, h3, -⟩ | ⟨h1, h3, -⟩
            · exact .inr ⟨ps[k]!.1, by rw [h3]; rfl, _, place_mem h1, h2⟩
            · exact .inl ⟨by rw [h3]; rfl, h1⟩
          have hHM2 := (HM2.out.below bA)
          have hml : m < w.heap.size := hown.lt
          have HR3 : Hid ((wr.alloc (.cells #[.int .i64 h0, .int .i64 h1, .string h2, .int .i64 eid] 66)).ranges Tryz.prog 3 ptrR m (w.heap.size + 1) l.length D (lessL left xi) cnt1) := HR2.out.alloc (.cells #[.int .i64 h0, .int .i64 h1, .string h2, .int .i64 eid] 66)
          go_wp2
          generalize (wr.alloc (.cells #[.int .i64 h0, .int .i64 h1, .string h2, .int .i64 eid] 66)) = W at bA sA x3 bwA hmp xp hlook hHM2 HR3 ⊢
          have g3 := cell_regrown x3
          have gp := cell_regrown xp
          by_cases he1 : eid = 1
          · have f : (eid == 1) = true := by simp [he1]
            have hr : Hid _ := HNj.out (.inl he1)
            clear he1 hfo hlook
            refine wp_region_quiet_below (by kernel_rfl) (by kernel_rfl) ?_
            repeat (go_big_quiet_step (fail))
            refine wpQuiet_nil ?_
            rintro w' ⟨⟨dq, osq⟩, rfl⟩
            have hb5 := below_regrown W dq osq
            generalize grow (redrawn W dq) osq = w5 at hb5 ⊢
            go_wp2
            go_ret
            exact ⟨ret_bool hr.out.symm, bwA.trans (hb5.mono bwA.size)⟩
          · have f : (eid == 1) = false := by simp [he1]
            rcases hfo with ⟨hf0, hno⟩ | ⟨q2, hf0, hyes⟩
            · have hr : Hid _ := HNj.out (.inr hno)
              rw [hf0] at hlook
              unfold ptrV at hlook
              clear he1 hno hf0
              refine wp_region_quiet_below (by kernel_rfl) (by kernel_rfl) ?_
              repeat (go_big_quiet_step (fail))
              refine wpQuiet_nil ?_
              rintro w' ⟨⟨dq, osq⟩, rfl⟩
              have hb5 := below_regrown W dq osq
              generalize grow (redrawn W dq) osq = w5 at hb5 ⊢
              go_wp2
              go_ret
              exact ⟨ret_bool hr.out.symm, bwA.trans (hb5.mono bwA.size)⟩
            · have HK4 : Hid _ := HK3.out he1 hyes
              rw [hf0] at hlook
              unfold ptrV at hlook
              clear he1 hyes hf0
              have HGE := HG2.out eid hIe
              have hcb := HCB.out eid
              have hcl := HCL.out eid
              have HG3 : Hid (∀ i, InI i → (fun i => if i = eid then G2 eid + 1 else G2 i) i = visC l left i + cntK d i (j + 1)) := fun i hi => by
                dsimp only
                rw [HCK.out i]
                by_cases e : i = eid
                · subst e; rw [if_pos rfl, if_pos rfl, HGE]; omega
                · rw [if_neg e, if_neg (Ne.symm e), HG2.out i hi]; rfl
              refine wp_region_quiet_below (by kernel_rfl) (by kernel_rfl) ?_
              repeat (go_big_quiet_step (fail))
              refine wpQuiet_nil ?_
              rintro w' ⟨⟨dq, osq⟩, rfl⟩
              have hb5 := below_regrown W dq osq
              have c5 := g3 dq osq
              have hm5 := hHM2.below hb5
              have hr5 : Hid ((grow (redrawn W dq) osq).ranges Tryz.prog 3 ptrR m (w.heap.size + 1) l.length D (lessL left xi) cnt1) := HR3.out.kept (row := none) ⟨hb5.os, hb5.tape, hb5.output, hb5.size, fun k hk _ => hb5.block k hk⟩ (by simp) (by simp)
              generalize grow (redrawn W dq) osq = w5 at hb5 c5 hm5 hr5 ⊢
              have hlk5 := hm5.look hIe
              obtain ⟨w6, hrun, hm6, hg6⟩ := hm5.store (by omega) hIe (G2 eid + 1) (by omega)
              have e1 : ((G2 eid + 1 : Nat) : Int) = (G2 eid : Int) + 1 := by omega
              rw [e1] at hrun
              have hm6 : Hid (MapC w6 w.heap.size (fun i => if i = eid then G2 eid + 1 else G2 i) (ve + (j + 1))) := hm6
              have bw5 := bwA.trans (hb5.mono bwA.size)
              have bw6 := bw5.grown hg6 bw5.size (fun q hq => by cases hq; exact Nat.le_refl _)
              have hr6 : Hid (w6.ranges Tryz.prog 3 ptrR m (w.heap.size + 1) l.length D (lessL left xi) cnt1) := hr5.out.kept hg6 (by simp; omega) (by simp)
              have hs6 : w.heap.size + 1 < w6.heap.size := by have := hg6.size; have := hb5.size; omega
              have hgb : (G2 eid : Int) ≤ 100000 := by omega
              have hgb0 : (0 : Int) ≤ (G2 eid : Int) := by omega
              clear HGE
              generalize G2 eid = gq at hlk5 hrun hm6 HG3 hgb hgb0
              go_wp2
              go_roundw
              case rel => exact ⟨j + 1, _, by omega, by go_num, hr6, hm6, HG3, HK4, bw6, hs6⟩
              case measure => simp [intOf]; omega
        · obtain rfl : j = em := by omega
          obtain ⟨f1, f2, f3⟩ := HFIN.out G2 wr HM2.out HG2.out HK2.out
          have f1 : Hid _ := f1
          have f2 : Hid _ := f2
          have f3 : Hid _ := f3
          have hmeas : wr.rangeLeft m (w.heap.size + 1) = cnt1 := HR2.out.left_eq
          go_wp2
          go_roundw
          case rel => exact ⟨lessL left xi, cnt1, G2, HR2, HLH1, f1, f2, f3, hbq, hsq⟩
          case measure => rw [hmeas, hrg.left_eq]; exact hltc
end

end Go.Proofs.YtchcdgkpaipkgaaGreatDoor
