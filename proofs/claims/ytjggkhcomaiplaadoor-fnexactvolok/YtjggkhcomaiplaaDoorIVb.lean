/- Volumes, impl: maps of inodes behind pointers, and of counts. -/
import Derived.Test.YtjggkhcomaiplaaDoorRows
import Derived.Test.YtjggkhcomaiplaaDoorNa
import Derived.Maps.OwnSet
import Derived.Maps.RangeWalk
namespace Go.Proofs.YtjggkhcomaiplaaDoor
open Go.RowKit Go.Maps

/-- the number fits int -/
def InI (i : Int) : Prop := -9223372036854775808 ≤ i ∧ i ≤ 9223372036854775807
theorem wf_of {i : Int} (h : InI i) : (Lit.int .i64 i).wf = true := by
  unfold InI at h
  have h1 : IntKind.i64.min = -9223372036854775808 := by rfl
  have h2 : IntKind.i64.max = 9223372036854775807 := by rfl
  simp [Lit.wf, h1, h2]; omega
/-- a pointer to an inode -/
def ptrV : Option Nat → Value
  | some b => .pointer (some ⟨b, 0, none⟩)
  | none => .pointer none
/-- it reads as its block -/
def ptrR : Value → Option (DataW Unit × List MemPlace)
  | .pointer (some ⟨b, 0, none⟩) => some (.lit (.int .i64 (b : Int)), [])
  | .pointer none => some (.lit (.int .i64 (-1)), [])
  | _ => none
def ptrN : Option Nat → Int
  | some b => (b : Int)
  | none => -1
theorem ptrR_V (o : Option Nat) : ptrR (ptrV o) = some (.lit (.int .i64 (ptrN o)), []) := by cases o <;> rfl
theorem ptrR_inv {v : Value} {y : DataW Unit × List MemPlace} (h : ptrR v = some y) : ∃ o, v = ptrV o := by
  unfold ptrR at h
  split at h
  · exact ⟨some _, rfl⟩
  · exact ⟨none, rfl⟩
  · cases h
theorem ptrN_inj {a b : Option Nat} (h : ptrN a = ptrN b) : a = b := by
  cases a <;> cases b <;> simp [ptrN] at h ⊢
  all_goals omega
theorem size_tight {H : Type} {P : Program} {k : TypeId} {R : Value → Option (DataW H × List MemPlace)} {w : World} {b n : Nat} {D : DataW H} (h : w.ownsMap P k R b n D) : w.ownsMap P k R b (Maps.size D) D := by
  obtain ⟨es, clock, hb, F, hs, rfl⟩ := h
  refine ⟨es, clock, hb, F, ?_, rfl⟩
  rw [Maps.size_eq, length_sorted]; simp

theorem keyLit (i : Int) : WideAt.IsKeyLit (.int .i64 i) := trivial
theorem keyI : Keyed Tryd.prog 3 := int_keyed Tryd.underlying3
theorem Tryd.zeroPI (w : World) : (zeroValue 48).run Tryd.prog w = .ok (.pointer none) w := by kernel_rfl
theorem Tryd.zeroII (w : World) : (zeroValue 3).run Tryd.prog w = .ok (.int .i64 0) w := by kernel_rfl

/-- block b is a map of pointers to inodes: F, of c entries -/
def MapP (w : World) (b : Nat) (F : Int → Option Nat) (c : Nat) : Prop :=
  ∃ D : DataW Unit, w.ownsMap Tryd.prog 3 ptrR b c D ∧ Maps.size D = c ∧ ∀ i, InI i → Maps.has D (.int .i64 i) = (F i).isSome ∧ ∀ z : DataW Unit, D.atKey (.int .i64 i) z = (match F i with | some q => .lit (.int .i64 (q : Int)) | none => z)
theorem MapP.made (w : World) : MapP (w.alloc (.map #[] 0)) w.heap.size (fun _ => none) 0 :=
  ⟨.map [], World.ownsMap_made w _ _ _, rfl, fun _ _ => ⟨rfl, fun _ => rfl⟩⟩
theorem MapP.look {w : World} {b c : Nat} {F : Int → Option Nat} (h : MapP w b F c) {i : Int} (hi : InI i) : (Instr.lookup 46 (.map (some b)) (.int .i64 i) false).run Tryd.prog w = .ok (ptrV (F i)) w := by
  obtain ⟨D, hown, -, hc⟩ := h
  obtain ⟨v, ps, hrun, hR⟩ := hown.lookup keyI Tryd.underlying46 (Tryd.zeroPI w) (zd := .lit (.int .i64 (-1))) (zp := []) rfl (keyOf_int_mk Tryd.underlying3 (wf_of hi))
  rw [hrun]
  obtain ⟨o, rfl⟩ := ptrR_inv hR
  rw [ptrR_V, (hc i hi).2] at hR
  have : o = F i := by
    apply ptrN_inj
    cases hF : F i with
    | some q => rw [hF] at hR; simp at hR; simpa [ptrN] using hR.1
    | none => rw [hF] at hR; simp at hR; simpa [ptrN] using hR.1
  rw [this]
theorem MapP.len {w : World} {b c : Nat} {F : Int → Option Nat} (h : MapP w b F c) (ty : TypeId) : (Builtin.len_ #[46] ty #[.map (some b)]).run Tryd.prog w = .ok (.int .i64 (c : Int)) w := by
  obtain ⟨D, hown, hs, -⟩ := h
  rw [hown.len Tryd.underlying46 ty, hs]
theorem MapP.lt {w : World} {b c : Nat} {F : Int → Option Nat} (h : MapP w b F c) : b < w.heap.size := by
  obtain ⟨D, hown, -⟩ := h; exact hown.lt
theorem MapP.kept {w w' : World} {b c : Nat} {F : Int → Option Nat} {r : Option Nat} (h : MapP w b F c) (hg : w.grownBy w' r) (hne : some b ≠ r) : MapP w' b F c := by
  obtain ⟨D, hown, h1, h2⟩ := h
  exact ⟨D, hown.kept hg hne, h1, h2⟩
theorem MapP.below {w w' : World} {b c : Nat} {F : Int → Option Nat} (h : MapP w b F c) (hb : Below w.heap.size w w') : MapP w' b F c :=
  h.kept (r := none) ⟨hb.os, hb.tape, hb.output, hb.size, fun k hk _ => hb.block k hk⟩ (by simp)
/-- a pointer put -/
theorem MapP.store {w : World} {b c : Nat} {F : Int → Option Nat} (h : MapP w b F c) (hc : c ≤ 1000000) {i : Int} (hi : InI i) (q : Nat) :
    ∃ w', (Instr.mapUpdate 46 (.map (some b)) (.int .i64 i) (.pointer (some ⟨q, 0, none⟩))).run Tryd.prog w = .ok () w' ∧ MapP w' b (fun j => if j = i then some q else F j) (c + if (F i).isSome then 0 else 1) ∧ w.grownBy w' (some b) := by
  obtain ⟨D, hown, hs, hF⟩ := h
  obtain ⟨w', hrun, hown', hg⟩ := hown.update keyI Tryd.underlying46 (by unfold maxLen; omega) (keyOf_int_mk Tryd.underlying3 (wf_of hi)) (val := .pointer (some ⟨q, 0, none⟩)) (d := .lit (.int .i64 (q : Int))) (ps := []) rfl
  have hsz : Maps.size (D.put (.int .i64 i) (.lit (.int .i64 (q : Int)))) = c + if (F i).isSome then 0 else 1 := by
    rw [Maps.size_put (hown.tidy keyI), (hF i hi).1, hs]
    cases (F i).isSome <;> rfl
  refine ⟨w', hrun, ⟨_, by rw [← hsz]; exact size_tight hown', hsz, fun j hj => ?_⟩, hg⟩
  by_cases e : j = i
  · subst e
    dsimp only
    rw [if_pos rfl]
    exact ⟨Maps.has_put_same hown.isMap (keyLit _) _, fun z => Maps.atKey_put_same hown.isMap (keyLit _) _ z⟩
  · dsimp only
    rw [if_neg e]
    have hne : Lit.int .i64 j ≠ Lit.int .i64 i := fun h => e (by cases h; rfl)
    exact ⟨(Maps.has_put_other hne _).trans (hF j hj).1, fun z => (Maps.atKey_put_other hne _ z).trans ((hF j hj).2 z)⟩
/-- one taken away -/
theorem MapP.drop {w : World} {b c : Nat} {F : Int → Option Nat} (h : MapP w b F c) {i : Int} (hi : InI i) (hh : (F i).isSome = true) (ty : TypeId) :
    ∃ w', (Builtin.delete_ #[46, 3] ty #[.map (some b), .int .i64 i]).run Tryd.prog w = .ok (.tuple #[]) w' ∧ MapP w' b (fun j => if j = i then none else F j) (c - 1) ∧ w.grownBy w' (some b) := by
  obtain ⟨D, hown, hs, hF⟩ := h
  obtain ⟨w', hrun, hown', hg⟩ := hown.drop keyI Tryd.underlying46 (keyOf_int_mk Tryd.underlying3 (wf_of hi)) ty
  have hsz : Maps.size (D.del (.int .i64 i)) = c - 1 := by
    have := Maps.size_del (k := .int .i64 i) (hown.tidy keyI)
    rw [(hF i hi).1, hh, hs] at this
    simp at this; omega
  refine ⟨w', hrun, ⟨_, by rw [← hsz]; exact size_tight hown', hsz, fun j hj => ?_⟩, hg.grown⟩
  by_cases e : j = i
  · subst e
    dsimp only
    rw [if_pos rfl]
    exact ⟨Maps.has_del_same, fun z => Maps.atKey_del_same z⟩
  · dsimp only
    rw [if_neg e]
    have hne : Lit.int .i64 j ≠ Lit.int .i64 i := fun h => e (by cases h; rfl)
    exact ⟨(Maps.has_del_other hne).trans (hF j hj).1, fun z => (Maps.atKey_del_other hne z).trans ((hF j hj).2 z)⟩

/-- block b is a map of counts -/
def MapC (w : World) (b : Nat) (G : Int → Nat) (k : Nat) : Prop :=
  ∃ (D : DataW Unit) (n : Nat), w.ownsMap Tryd.prog 3 (plainElem Tryd.prog 3) b n D ∧ n ≤ k ∧ ∀ i, InI i → D.atKey (.int .i64 i) (.lit (.int .i64 0)) = .lit (.int .i64 (G i : Int))
theorem MapC.made (w : World) : MapC (w.alloc (.map #[] 0)) w.heap.size (fun _ => 0) 0 :=
  ⟨.map [], 0, World.ownsMap_made w _ _ _, Nat.le_refl _, fun _ _ => rfl⟩
theorem MapC.look {w : World} {b k : Nat} {G : Int → Nat} (h : MapC w b G k) {i : Int} (hi : InI i) : (Instr.lookup 62 (.map (some b)) (.int .i64 i) false).run Tryd.prog w = .ok (.int .i64 (G i : Int)) w := by
  obtain ⟨D, n, hown, -, hc⟩ := h
  obtain ⟨v, ps, hrun, hR⟩ := hown.lookup keyI Tryd.underlying62 (Tryd.zeroII w) (zd := .lit (.int .i64 0)) (zp := []) (plainElem_int Tryd.underlying3 (by decide)) (keyOf_int_mk Tryd.underlying3 (wf_of hi))
  rw [hrun]
  rw [hc i hi] at hR
  obtain ⟨a, rfl, h2, -⟩ := plainElem_int_inv Tryd.underlying3 hR
  simp at h2
  rw [h2.1]
theorem MapC.lt {w : World} {b k : Nat} {G : Int → Nat} (h : MapC w b G k) : b < w.heap.size := by
  obtain ⟨D, n, hown, -⟩ := h; exact hown.lt
theorem MapC.kept {w w' : World} {b k : Nat} {G : Int → Nat} {r : Option Nat} (h : MapC w b G k) (hg : w.grownBy w' r) (hne : some b ≠ r) : MapC w' b G k := by
  obtain ⟨D, n, hown, h1, h2⟩ := h
  exact ⟨D, n, hown.kept hg hne, h1, h2⟩
theorem MapC.below {w w' : World} {b k : Nat} {G : Int → Nat} (h : MapC w b G k) (hb : Below w.heap.size w w') : MapC w' b G k :=
  h.kept (r := none) ⟨hb.os, hb.tape, hb.output, hb.size, fun k hk _ => hb.block k hk⟩ (by simp)
theorem MapC.store {w : World} {b k : Nat} {G : Int → Nat} (h : MapC w b G k) (hk : k ≤ 1000000) {i : Int} (hi : InI i) (q : Nat) (hq : q ≤ 1000000000) :
    ∃ w', (Instr.mapUpdate 62 (.map (some b)) (.int .i64 i) (.int .i64 (q : Int))).run Tryd.prog w = .ok () w' ∧ MapC w' b (fun j => if j = i then q else G j) (k + 1) ∧ w.grownBy w' (some b) := by
  obtain ⟨D, n, hown, hs, hF⟩ := h
  obtain ⟨w', hrun, hown', hg⟩ := hown.update keyI Tryd.underlying62 (by unfold maxLen; omega) (keyOf_int_mk Tryd.underlying3 (wf_of hi)) (val := .int .i64 (q : Int)) (d := .lit (.int .i64 (q : Int))) (ps := []) (plainElem_int Tryd.underlying3 (wf_of (by unfold InI; omega)))
  refine ⟨w', hrun, ⟨_, n + 1, hown', by omega, fun j hj => ?_⟩, hg⟩
  by_cases e : j = i
  · subst e
    dsimp only
    rw [if_pos rfl]
    exact Maps.atKey_put_same hown.isMap (keyLit _) _ _
  · dsimp only
    rw [if_neg e]
    have hne : Lit.int .i64 j ≠ Lit.int .i64 i := fun h => e (by cases h; rfl)
    exact (Maps.atKey_put_other hne _ _).trans (hF j hj)

end Go.Proofs.YtjggkhcomaiplaaDoor
