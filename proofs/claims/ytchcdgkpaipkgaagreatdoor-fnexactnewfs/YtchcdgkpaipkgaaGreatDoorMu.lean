/- copy of rows whose elements have several cells. No program's text. Rows of entries: copy, clear, append in room and into a new row: what they leave, of rows whose elements have several cells. No program's text. Directories: slices.Clone, Delete and Insert of rows of entries: what they leave. Directories: slices.Delete of a row of entries: what it leaves. Directories: slices.Insert of one entry into a row of entries: what it leaves. Directories: slices.Insert of one entry into a row of entries, where there is no room, and whole. -/
import Derived.Test.YtchcdgkpaipkgaaGreatDoorRows
import Derived.Test.YtchcdgkpaipkgaaGreatDoorMq
import Derived.Laws.CopyRow
import Derived.Tactics
import Derived.WalkKit
import Derived.Laws.AppendOwn
import Derived.Lib.AppendZerosOnto
import Derived.Deep.RegionLaw
import Derived.Lib.Overlaps
import Derived.Lib.SliceRun
import Derived.WalkSpells
import Derived.WalkLawsBesides
import Derived.Shelf.RegionOpenPlain
import Derived.Laws.Externs
import Derived.Laws.NewBlocks
namespace Go.Proofs.YtchcdgkpaipkgaaGreatDoor

section
open Go.RowKit

theorem run_copy_rowK {P : Program} (w : World) (dT sT ty elem : TypeId) (k n : Nat) (g o dLen dCap : Nat) (a : Addr) (sLen sCap : Nat) (cur : Array Value) (t : TypeId) (cs : List Value)
    (hu : P.underlying dT = some (.slice elem)) (hs : (P.info? elem).map (·.size) = some k)
    (hg : w.heap[g]? = some (.cells cur t (0, 0))) (hm : Nat.min sLen dLen = n) (hn : cs.length = n * k)
    (hsrc : ∀ j v, cs[j]? = some v → w.cell? (a.add j) = some v) (hfit : o + cs.length ≤ cur.size) (h1 : ∀ v ∈ cs, v.oneCell' = true) :
    (Builtin.copy_ #[dT, sT] ty #[.slice (some ⟨g, o, none⟩) dLen dCap, .slice (some a) sLen sCap]).run P w =
      .ok (goInt n) (w.setRow g (cur.toList.take o ++ cs ++ cur.toList.drop (o + cs.length)).toArray) := by
  have hl := run_loadCells_list (P := P) w a cs hsrc
  have hst := run_storeCells_at P g o t cs 0 cur w hg (by simpa using hfit) h1
  cases hq : P.info? elem with
  | none => simp [hq] at hs
  | some i =>
    have hi : i.size = k := by simpa [hq] using hs
    simp [Builtin.copy_, run_underlying hu, Builtin.lenOf, Builtin.firstCells, sizeOf, typeInfo, hq, hi, hm, ← hn, hl, hst]

theorem wpList_cp {P : Program} {w : World} {ops : Array Oper} {rest : List Oper} {o : Oper} {a : Act} {Q : Exit → Act → World → Prop} (hgd : o.guard = none) (s x : Operand) (S X : TypeId)
    (ho : o.op = .call { callee := .builtin .copy, args := #[s, x], argTypes := #[S, X] }) (v u : Value) (hs : a.eval s = v) (hx : a.eval x = u) (v' : Value) (w' : World)
    (hrun : (Builtin.copy_ #[S, X] o.type #[v, u]).run P w = .ok v' w') (h : wpList P ops Q rest (a.put o.dst v') w') : wpList P ops Q (o :: rest) a w := by
  refine wpList_plain hgd fun K hK => ?_
  unfold Oper.wp
  simp [execOp, ho, resolve, invoke, builtin, hs, hx, hrun, Result.andThen]
  exact hK _ _ h
theorem run_copy_none {P : Program} (w : World) (dT sT ty elem : TypeId) (g dLen dCap : Nat) (hu : P.underlying dT = some (.slice elem)) (k : Nat) (hs : (P.info? elem).map (·.size) = some k) :
    (Builtin.copy_ #[dT, sT] ty #[.slice (some ⟨g, 0, none⟩) dLen dCap, .slice none 0 0]).run P w = .ok (goInt 0) w := by
  cases hq : P.info? elem with
  | none => simp [hq] at hs
  | some i => simp [Builtin.copy_, run_underlying hu, Builtin.lenOf, Builtin.firstCells, sizeOf, typeInfo, hq, storeCells]
end

section
open Go.RowKit

theorem run_clear_row1 {P : Program} (w : World) (t e ty : TypeId) (z : Value) (ht : P.underlying t = some (.slice e)) (hv : ∀ w, (zeroValue e).run P w = .ok z w) (g o c : Nat) (cur : Array Value) (tt : TypeId)
    (hg : w.heap[g]? = some (.cells cur tt (0, 0))) (zs : List Value) (hz : (Builtin.zeroCells z.cells 1).toList = zs) (h1 : ∀ v ∈ zs, v.oneCell' = true) (hfit : o + zs.length ≤ cur.size) :
    (Builtin.clear_ #[t] ty #[.slice (some ⟨g, o, none⟩) 1 c]).run P w = .ok (.tuple #[]) (w.setRow g (cur.toList.take o ++ zs ++ cur.toList.drop (o + zs.length)).toArray) := by
  have hst := run_storeCells_at P g o tt zs 0 cur w hg (by simpa using hfit) h1
  simp [Builtin.clear_, run_underlying ht, hv, hz, hst]

/-- 'copy' where its run is known, for the walk and for a statement whose order is open -/
theorem wpListE_copy_run {P : Program} (w : World) {ops : Array Oper} {rest : List Oper} {o : Oper} {a : Act} {Q : Exit → Act → World → Prop} (hgd : o.guard = none) (d s : Operand) (t t' : TypeId)
    (ho : o.op = .call { callee := .builtin .copy, args := #[d, s], argTypes := #[t, t'] }) (v u : Value) (hd : a.eval d = v) (hs : a.eval s = u) {v' : Value} {w' : World}
    (hr : (Builtin.copy_ #[t, t'] o.type #[v, u]).run P w = .ok v' w') (h : wpList P ops Q rest (a.put o.dst v') w') : wpList P ops Q (o :: rest) a w := by
  refine wpList_plain hgd fun _ hK => ?_
  unfold Oper.wp execOp
  simp only [ho, resolve, invoke, builtin, Sem.run_bind, Sem.run_pure, Result.andThen_ok, List.map_toArray, List.map_cons, List.map_nil, hd, hs, hr]
  exact hK _ _ h
theorem stepE_copy_run {P : Program} {ops : Array Oper} {o : Oper} {a : Act} {w : World} {K : Act → World → Prop} {Q : Exit → Act → World → Prop} {E : Prop}
    (hg : o.guard = none) (d x : Operand) (dT sT : TypeId) (hop : o.op = Op.call { callee := Callee.builtin Builtin.copy, args := #[d, x], argTypes := #[dT, sT] })
    (v u : Value) (hd : a.eval d = v) (hx : a.eval x = u) {v' : Value} {w' : World} (hr : (Builtin.copy_ #[dT, sT] o.type #[v, u]).run P w = .ok v' w') (hK : K (a.put o.dst v') w') :
    if Region.wanted o (yielded ops a.tmps) = true then Oper.wp P o a w K Q else E := by
  have hw : Region.wanted o (yielded ops a.tmps) = true := by simp [Region.wanted, hg]
  rw [if_pos hw]
  unfold Oper.wp
  simp [execOp, hop, resolve, invoke, builtin, hd, hx, hr, Result.andThen]
  exact hK
theorem stepE_append_run {P : Program} {ops : Array Oper} {o : Oper} {a : Act} {w : World} {K : Act → World → Prop} {Q : Exit → Act → World → Prop} {E : Prop}
    (hg : o.guard = none) (d x : Operand) (dT sT : TypeId) (hop : o.op = Op.call { callee := Callee.builtin Builtin.append, args := #[d, x], argTypes := #[dT, sT] })
    (v u : Value) (hd : a.eval d = v) (hx : a.eval x = u) {v' : Value} {w' : World} (hr : (Builtin.append_ #[dT, sT] o.type #[v, u]).run P w = .ok v' w') (hK : K (a.put o.dst v') w') :
    if Region.wanted o (yielded ops a.tmps) = true then Oper.wp P o a w K Q else E := by
  have hw : Region.wanted o (yielded ops a.tmps) = true := by simp [Region.wanted, hg]
  rw [if_pos hw]
  unfold Oper.wp
  simp [execOp, hop, resolve, invoke, builtin, hd, hx, hr, Result.andThen]
  exact hK
theorem wpList_clear_run {P : Program} (w : World) {ops : Array Oper} {rest : List Oper} {o : Oper} {a : Act} {Q : Exit → Act → World → Prop} (hgd : o.guard = none) (d : Operand) (t : TypeId)
    (ho : o.op = .call { callee := .builtin .clear, args := #[d], argTypes := #[t] }) (v : Value) (hd : a.eval d = v) {v' : Value} {w' : World}
    (hr : (Builtin.clear_ #[t] o.type #[v]).run P w = .ok v' w') (h : wpList P ops Q rest (a.put o.dst v') w') : wpList P ops Q (o :: rest) a w := by
  refine wpList_plain hgd fun _ hK => ?_
  unfold Oper.wp execOp
  simp only [ho, resolve, invoke, builtin, Sem.run_bind, Sem.run_pure, Result.andThen_ok, List.map_toArray, List.map_cons, List.map_nil, hd, hr]
  exact hK _ _ h

/-- a row of one's own written anew: the rest of the world is as it was -/
theorem setRow_block (w : World) (g : Nat) (cs : Array Value) (k : Nat) (h : k ≠ g) : (w.setRow g cs).heap[k]? = w.heap[k]? := by
  simp only [World.setRow, Array.getElem?_modify]
  rw [if_neg (by omega)]
theorem below_setRow {B : Nat} {a w : World} (h : Below B a w) {g : Nat} (hg : B ≤ g) (cs : Array Value) : Below B a (w.setRow g cs) :=
  h.trans ⟨rfl, rfl, rfl, by simp [World.setRow], fun k hk => setRow_block w g cs k (by omega)⟩
end

section
open Go.RowKit

theorem flatE_take : ∀ (d : List En) (i : Nat), (flatE d).take (i * 4) = flatE (d.take i)
  | [], i => by simp [flatE]
  | e :: d, 0 => by simp [flatE]
  | e :: d, i + 1 => by
    rw [List.take_succ_cons, flatE_cons, flatE_cons, ← flatE_take d i, show (i + 1) * 4 = i * 4 + 1 + 1 + 1 + 1 by omega]
    simp only [encE, List.cons_append, List.nil_append, List.take_succ_cons]
theorem flatE_drop : ∀ (d : List En) (i : Nat), (flatE d).drop (i * 4) = flatE (d.drop i)
  | [], i => by simp [flatE]
  | e :: d, 0 => by simp
  | e :: d, i + 1 => by
    rw [List.drop_succ_cons, flatE_cons, ← flatE_drop d i, show (i + 1) * 4 = i * 4 + 1 + 1 + 1 + 1 by omega]
    simp only [encE, List.cons_append, List.nil_append, List.drop_succ_cons]

/-- a piece of a row written anew -/
def putAt (C : List Value) (o : Nat) (X : List Value) : List Value := C.take o ++ X ++ C.drop (o + X.length)
theorem putAt_len {C X : List Value} {o : Nat} (h : o + X.length ≤ C.length) : (putAt C o X).length = C.length := by
  unfold putAt; simp; omega
theorem putAt_head {C X : List Value} {o a : Nat} (ha : a ≤ o) (h : o ≤ C.length) : (putAt C o X).take a = C.take a := by
  unfold putAt
  rw [List.append_assoc, List.take_append_of_le_length (by simp; omega), List.take_take]
  congr 1; omega
theorem putAt_to {C X : List Value} {o b : Nat} (h : o ≤ C.length) (hb : b = o + X.length) : (putAt C o X).take b = C.take o ++ X := by
  unfold putAt
  rw [List.take_append_of_le_length (by simp; omega), List.take_of_length_le (by simp; omega)]
theorem putAt_tail {C X : List Value} {o b : Nat} (h : o ≤ C.length) (hb : b = o + X.length) : (putAt C o X).drop b = C.drop b := by
  unfold putAt
  rw [List.drop_append_of_le_length (by simp; omega), List.drop_of_length_le (by simp; omega), List.nil_append, hb]
theorem putAt_mid {C X : List Value} {o : Nat} (h : o ≤ C.length) : (putAt C o X).drop o = X ++ C.drop (o + X.length) := by
  unfold putAt
  rw [List.append_assoc, List.drop_append_of_le_length (by simp; omega), List.drop_of_length_le (by simp; omega), List.nil_append]

/-- one entry gone, the rest moved up, noughts behind -/
theorem erase_cells {C Z : List Value} {d : List En} {i n : Nat} (hn : n = d.length) (hi : i < n) (hC : C.take (n * 4) = flatE d) (hCl : n * 4 ≤ C.length) (hZ : Z.length = 4) :
    (putAt (putAt C (i * 4) (flatE (d.drop (i + 1)))) ((n - 1) * 4) Z).length = C.length ∧ (putAt (putAt C (i * 4) (flatE (d.drop (i + 1)))) ((n - 1) * 4) Z).take ((n - 1) * 4) = flatE (d.eraseIdx i) := by
  have hl : (flatE (d.drop (i + 1))).length = (n - (i + 1)) * 4 := by rw [flatE_len, List.length_drop, hn]
  have h1 : (putAt C (i * 4) (flatE (d.drop (i + 1)))).length = C.length := putAt_len (by omega)
  refine ⟨by rw [putAt_len (by omega), h1], ?_⟩
  rw [putAt_head (Nat.le_refl _) (by omega), putAt_to (by omega) (by omega), List.eraseIdx_eq_take_drop_succ, flatE_append]
  congr 1
  rw [← flatE_take, ← hC, List.take_take]
  congr 1; omega
/-- one entry more, in room that was there -/
theorem insert_cells {C : List Value} {d : List En} {x : En} {i n : Nat} (hn : n = d.length) (hi : i < n) (hC : C.take (n * 4) = flatE d) (hCl : (n + 1) * 4 ≤ C.length) :
    (putAt (putAt C ((i + 1) * 4) (flatE (d.drop i))) (i * 4) (encE x)).length = C.length ∧ (putAt (putAt C ((i + 1) * 4) (flatE (d.drop i))) (i * 4) (encE x)).take ((n + 1) * 4) = flatE (d.take i ++ x :: d.drop i) := by
  have hl : (flatE (d.drop i)).length = (n - i) * 4 := by rw [flatE_len, List.length_drop, hn]
  have hx := encE_len x
  have h1 : (putAt C ((i + 1) * 4) (flatE (d.drop i))).length = C.length := putAt_len (by omega)
  refine ⟨by rw [putAt_len (by omega), h1], ?_⟩
  have h2 : putAt (putAt C ((i + 1) * 4) (flatE (d.drop i))) (i * 4) (encE x) = C.take (i * 4) ++ encE x ++ (flatE (d.drop i) ++ C.drop ((i + 1) * 4 + (flatE (d.drop i)).length)) := by
    show (putAt C ((i + 1) * 4) (flatE (d.drop i))).take (i * 4) ++ encE x ++ (putAt C ((i + 1) * 4) (flatE (d.drop i))).drop (i * 4 + (encE x).length) = _
    rw [putAt_head (by omega) (by omega), show i * 4 + (encE x).length = (i + 1) * 4 by omega, putAt_mid (by omega)]
  rw [h2, ← List.append_assoc, List.take_append_of_le_length (by simp; omega), List.take_of_length_le (by simp; omega), flatE_append, flatE_cons, List.append_assoc]
  congr 1
  rw [← flatE_take, ← hC, List.take_take]
  congr 1; omega
/-- one entry more, in a new row -/
theorem insert_new {R : List Value} {d : List En} {x : En} {i n : Nat} (hn : n = d.length) (hi : i < n) (hC : R.take (i * 4) = flatE (d.take i)) (hCl : (n + 1) * 4 ≤ R.length) :
    (putAt (putAt R (i * 4) (encE x)) ((i + 1) * 4) (flatE (d.drop i))).length = R.length ∧ (putAt (putAt R (i * 4) (encE x)) ((i + 1) * 4) (flatE (d.drop i))).take ((n + 1) * 4) = flatE (d.take i ++ x :: d.drop i) := by
  have hl : (flatE (d.drop i)).length = (n - i) * 4 := by rw [flatE_len, List.length_drop, hn]
  have hx := encE_len x
  have h1 : (putAt R (i * 4) (encE x)).length = R.length := putAt_len (by omega)
  refine ⟨by rw [putAt_len (by omega), h1], ?_⟩
  rw [putAt_to (by omega) (by omega), putAt_to (by omega) (by omega), hC, flatE_append, flatE_cons, List.append_assoc]

set_option maxRecDepth 100000 in
set_option maxHeartbeats 1000000 in
theorem clone_any (v : Value) (d : List En) (w : World) (hv : EntsAt w v d) (hl : d.length ≤ 1048576) :
    Calls Tryz.prog 56 #[v] w fun e w' => ∃ u, e = .returned u ∧ EntRow w' w.heap.size u d ∧ Below w.heap.size w w' := by
  have hb := below_lit w (.cells #[] 66)
  have hrow := lit_ents w
  have hv' := hv.below hb
  obtain ⟨a, ca, rfl, hn, hva⟩ := hv
  cases a with
  | none =>
    obtain rfl : ca = 0 := hn rfl
    have hd : d = [] := by
      cases d with
      | nil => rfl
      | cons e d => obtain ⟨b, off, h, _⟩ := hva 0 (by simp); cases h
    subst hd
    clear hva
    have hq : ∀ w, (binOp .eql 48 (.slice none 0 0) (.slice none 0 0)).run Tryz.prog w = .ok (.bool true) w := fun w => Lib.run_eql_slice_nil w _ _ none 0 0 0 0 Tryz.underlying48
    go_enter Tryz.func56, Tryz.ntmps56
    go_wp2
    go_ret
    exact ⟨_, rfl, World.ownsRow_nil _ _ _ _, Below.refl _ _⟩
  | some a =>
    clear hva
    have hq : ∀ w, (binOp .eql 48 (.slice (some a) d.length ca) (.slice none 0 0)).run Tryz.prog w = .ok (.bool false) w := fun w => Lib.run_eql_slice_nil w _ _ (some a) _ _ 0 0 Tryz.underlying48
    go_enter Tryz.func56, Tryz.ntmps56
    go_wp2_with (at_builtin; refine append_ents _ rfl (.tmp 5) (.tmp 6) rfl w.heap.size _ _ [] d (by simp; omega) hrow hv' rfl rfl hb.size ?_; intro v' w3 hown3 hbel3)
    go_ret
    exact ⟨_, rfl, by simpa using hown3, hb.trans hbel3⟩
end

section
open Go.RowKit

/-- the cells of a row of one's own from entry j on -/
theorem cells_from {w : World} {g : Nat} {cur : Array Value} {T : TypeId} {d : List En} {n : Nat} (hh : w.heap[g]? = some (.cells cur T (0, 0))) (htake : cur.toList.take (n * 4) = flatE d) (hn : n = d.length) (j : Nat) :
    ∀ t u, (flatE (d.drop j))[t]? = some u → w.cell? ⟨g, j * 4 + t, none⟩ = some u := by
  intro t u hu
  have ht := (List.getElem?_eq_some_iff.1 hu).1
  rw [flatE_len, List.length_drop] at ht
  rw [cell_of_row w g _ _ _ _ hh, ← hu, ← flatE_drop, List.getElem?_drop, ← htake, List.getElem?_take, if_pos (by omega)]
  simp
end

section
open Go.RowKit

theorem shape_of {w : World} {g : Nat} {cur : Array Value} {T : TypeId} {fr : Nat × Nat} (h : w.heap[g]? = some (.cells cur T fr)) : w.shape? g = some (T, cur.size) := by
  unfold World.shape?; rw [h]
end

section
open Go.RowKit
end

end Go.Proofs.YtchcdgkpaipkgaaGreatDoor
