/- copy of rows whose elements have several cells. No program's text. Rows of entries: copy, clear, append in room and into a new row: what they leave, of rows whose elements have several cells. No program's text. Directories: slices.Clone, Delete and Insert of rows of entries: what they leave. Directories: slices.Delete of a row of entries: what it leaves. Directories: slices.Insert of one entry into a row of entries: what it leaves. Directories: slices.Insert of one entry into a row of entries, where there is no room, and whole. -/
import Derived.Test.YtgkcnleegefjcaaGreatDoorRows
import Derived.Test.YtgkcnleegefjcaaGreatDoorMq
import Derived.Laws.CopyRow
import Derived.Tactics
import Derived.WalkKit
import Derived.Laws.AppendOwn
import Derived.Lib.AppendZerosOnto
import Derived.Deep.RegionLaw
import Derived.Lib.Overlaps
import Derived.Lib.SliceRun
import Derived.WalkSpells
import Derived.WalkLawsBesides
import Derived.Shelf.RegionOpenPlain
import Derived.Laws.Externs
import Derived.Laws.NewBlocks
namespace Go.Proofs.YtgkcnleegefjcaaGreatDoor

section
open Go.RowKit

theorem run_copy_rowK {P : Program} (w : World) (dT sT ty elem : TypeId) (k n : Nat) (g o dLen dCap : Nat) (a : Addr) (sLen sCap : Nat) (cur : Array Value) (t : TypeId) (cs : List Value)
    (hu : P.underlying dT = some (.slice elem)) (hs : (P.info? elem).map (·.size) = some k)
    (hg : w.heap[g]? = some (.cells cur t (0, 0))) (hm : Nat.min sLen dLen = n) (hn : cs.length = n * k)
    (hsrc : ∀ j v, cs[j]? = some v → w.cell? (a.add j) = some v) (hfit : o + cs.length ≤ cur.size) (h1 : ∀ v ∈ cs, v.oneCell' = true) :
    (Builtin.copy_ #[dT, sT] ty #[.slice (some ⟨g, o, none⟩) dLen dCap, .slice (some a) sLen sCap]).run P w =
      .ok (goInt n) (w.setRow g (cur.toList.take o ++ cs ++ cur.toList.drop (o + cs.length)).toArray) := by
  have hl := run_loadCells_list (P := P) w a cs hsrc
  have hst := run_storeCells_at P g o t cs 0 cur w hg (by simpa using hfit) h1
  cases hq : P.info? elem with
  | none => simp [hq] at hs
  | some i =>
    have hi : i.size = k := by simpa [hq] using hs
    simp [Builtin.copy_, run_underlying hu, Builtin.lenOf, Builtin.firstCells, sizeOf, typeInfo, hq, hi, hm, ← hn, hl, hst]

theorem wpList_cp {P : Program} {w : World} {ops : Array Oper} {rest : List Oper} {o : Oper} {a : Act} {Q : Exit → Act → World → Prop} (hgd : o.guard = none) (s x : Operand) (S X : TypeId)
    (ho : o.op = .call { callee := .builtin .copy, args := #[s, x], argTypes := #[S, X] }) (v u : Value) (hs : a.eval s = v) (hx : a.eval x = u) (v' : Value) (w' : World)
    (hrun : (Builtin.copy_ #[S, X] o.type #[v, u]).run P w = .ok v' w') (h : wpList P ops Q rest (a.put o.dst v') w') : wpList P ops Q (o :: rest) a w := by
  refine wpList_plain hgd fun K hK => ?_
  unfold Oper.wp
  simp [execOp, ho, resolve, invoke, builtin, hs, hx, hrun, Result.andThen]
  exact hK _ _ h
theorem run_copy_none {P : Program} (w : World) (dT sT ty elem : TypeId) (g dLen dCap : Nat) (hu : P.underlying dT = some (.slice elem)) (k : Nat) (hs : (P.info? elem).map (·.size) = some k) :
    (Builtin.copy_ #[dT, sT] ty #[.slice (some ⟨g, 0, none⟩) dLen dCap, .slice none 0 0]).run P w = .ok (goInt 0) w := by
  cases hq : P.info? elem with
  | none => simp [hq] at hs
  | some i => simp [Builtin.copy_, run_underlying hu, Builtin.lenOf, Builtin.firstCells, sizeOf, typeInfo, hq, storeCells]
end

section
open Go.RowKit

theorem run_clear_row1 {P : Program} (w : World) (t e ty : TypeId) (z : Value) (ht : P.underlying t = some (.slice e)) (hv : ∀ w, (zeroValue e).run P w = .ok z w) (g o c : Nat) (cur : Array Value) (tt : TypeId)
    (hg : w.heap[g]? = some (.cells cur tt (0, 0))) (zs : List Value) (hz : (Builtin.zeroCells z.cells 1).toList = zs) (h1 : ∀ v ∈ zs, v.oneCell' = true) (hfit : o + zs.length ≤ cur.size) :
    (Builtin.clear_ #[t] ty #[.slice (some ⟨g, o, none⟩) 1 c]).run P w = .ok (.tuple #[]) (w.setRow g (cur.toList.take o ++ zs ++ cur.toList.drop (o + zs.length)).toArray) := by
  have hst := run_storeCells_at P g o tt zs 0 cur w hg (by simpa using hfit) h1
  simp [Builtin.clear_, run_underlying ht, hv, hz, hst]

/-- 'copy' where its run is known, for the walk and for a statement whose order is open -/
theorem wpListE_copy_run {P : Program} (w : World) {ops : Array Oper} {rest : List Oper} {o : Oper} {a : Act} {Q : Exit → Act → World → Prop} (hgd : o.guard = none) (d s : Operand) (t t' : TypeId)
    (ho : o.op = .call { callee := .builtin .copy, args := #[d, s], argTypes := #[t, t'] }) (v u : Value) (hd : a.eval d = v) (hs : a.eval s = u) {v' : Value} {w' : World}
    (hr : (Builtin.copy_ #[t, t'] o.type #[v, u]).run P w = .ok v' w') (h : wpList P ops Q rest (a.put o.dst v') w') : wpList P ops Q (o :: rest) a w := by
  refine wpList_plain hgd fun _ hK => ?_
  unfold Oper.wp execOp
  simp only [ho, resolve, invoke, builtin, Sem.run_bind, Sem.run_pure, Result.andThen_ok, List.map_toArray, List.map_cons, List.map_nil, hd, hs, hr]
  exact hK _ _ h
theorem stepE_copy_run {P : Program} {ops : Array Oper} {o : Oper} {a : Act} {w : World} {K : Act → World → Prop} {Q : Exit → Act → World → Prop} {E : Prop}
    (hg : o.guard = none) (d x : Operand) (dT sT : TypeId) (hop : o.op = Op.call { callee := Callee.builtin Builtin.copy, args := #[d, x], argTypes := #[dT, sT] })
    (v u : Value) (hd : a.eval d = v) (hx : a.eval x = u) {v' : Value} {w' : World} (hr : (Builtin.copy_ #[dT, sT] o.type #[v, u]).run P w = .ok v' w') (hK : K (a.put o.dst v') w') :
    if Region.wanted o (yielded ops a.tmps) = true then Oper.wp P o a w K Q else E := by
  have hw : Region.wanted o (yielded ops a.tmps) = true := by simp [Region.wanted, hg]
  rw [if_pos hw]
  unfold Oper.wp
  simp [execOp, hop, resolve, invoke, builtin, hd, hx, hr, Result.andThen]
  exact hK
theorem stepE_append_run {P : Program} {ops : Array Oper} {o : Oper} {a : Act} {w : World} {K : Act → World → Prop} {Q : Exit → Act → World → Prop} {E : Prop}
    (hg : o.guard = none) (d x : Operand) (dT sT : TypeId) (hop : o.op = Op.call { callee := Callee.builtin Builtin.append, args := #[d, x], argTypes := #[dT, sT] })
    (v u : Value) (hd : a.eval d = v) (hx : a.eval x = u) {v' : Value} {w' : World} (hr : (Builtin.append_ #[dT, sT] o.type #[v, u]).run P w = .ok v' w') (hK : K (a.put o.dst v') w') :
    if Region.wanted o (yielded ops a.tmps) = true then Oper.wp P o a w K Q else E := by
  have hw : Region.wanted o (yielded ops a.tmps) = true := by simp [Region.wanted, hg]
  rw [if_pos hw]
  unfold Oper.wp
  simp [execOp, hop, resolve, invoke, builtin, hd, hx, hr, Result.andThen]
  exact hK
theorem wpList_clear_run {P : Program} (w : World) {ops : Array Oper} {rest : List Oper} {o : Oper} {a : Act} {Q : Exit → Act → World → Prop} (hgd : o.guard = none) (d : Operand) (t : TypeId)
    (ho : o.op = .call { callee := .builtin .clear, args := #[d], argTypes := #[t] }) (v : Value) (hd : a.eval d = v) {v' : Value} {w' : World}
    (hr : (Builtin.clear_ #[t] o.type #[v]).run P w = .ok v' w') (h : wpList P ops Q rest (a.put o.dst v') w') : wpList P ops Q (o :: rest) a w := by
  refine wpList_plain hgd fun _ hK => ?_
  unfold Oper.wp execOp
  simp only [ho, resolve, invoke, builtin, Sem.run_bind, Sem.run_pure, Result.andThen_ok, List.map_toArray, List.map_cons, List.map_nil, hd, hr]
  exact hK _ _ h

/-- a row of one's own written anew: the rest of the world is as it was -/
theorem setRow_block (w : World) (g : Nat) (cs : Array Value) (k : Nat) (h : k ≠ g) : (w.setRow g cs).heap[k]? = w.heap[k]? := by
  simp only [World.setRow, Array.getElem?_modify]
  rw [if_neg (by omega)]
theorem below_setRow {B : Nat} {a w : World} (h : Below B a w) {g : Nat} (hg : B ≤ g) (cs : Array Value) : Below B a (w.setRow g cs) :=
  h.trans ⟨rfl, rfl, rfl, by simp [World.setRow], fun k hk => setRow_block w g cs k (by omega)⟩
end

section
open Go.RowKit

theorem flatE_take : ∀ (d : List En) (i : Nat), (flatE d).take (i * 4) = flatE (d.take i)
  | [], i => by simp [flatE]
  | e :: d, 0 => by simp [flatE]
  | e :: d, i + 1 => by
    rw [List.take_succ_cons, flatE_cons, flatE_cons, ← flatE_take d i, show (i + 1) * 4 = i * 4 + 1 + 1 + 1 + 1 by omega]
    simp only [encE, List.cons_append, List.nil_append, List.take_succ_cons]
theorem flatE_drop : ∀ (d : List En) (i : Nat), (flatE d).drop (i * 4) = flatE (d.drop i)
  | [], i => by simp [flatE]
  | e :: d, 0 => by simp
  | e :: d, i + 1 => by
    rw [List.drop_succ_cons, flatE_cons, ← flatE_drop d i, show (i + 1) * 4 = i * 4 + 1 + 1 + 1 + 1 by omega]
    simp only [encE, List.cons_append, List.nil_append, List.drop_succ_cons]

/-- a piece of a row written anew -/
def putAt (C : List Value) (o : Nat) (X : List Value) : List Value := C.take o ++ X ++ C.drop (o + X.length)
theorem putAt_len {C X : List Value} {o : Nat} (h : o + X.length ≤ C.length) : (putAt C o X).length = C.length := by
  unfold putAt; simp; omega
theorem putAt_head {C X : List Value} {o a : Nat} (ha : a ≤ o) (h : o ≤ C.length) : (putAt C o X).take a = C.take a := by
  unfold putAt
  rw [List.append_assoc, List.take_append_of_le_length (by simp; omega), List.take_take]
  congr 1; omega
theorem putAt_to {C X : List Value} {o b : Nat} (h : o ≤ C.length) (hb : b = o + X.length) : (putAt C o X).take b = C.take o ++ X := by
  unfold putAt
  rw [List.take_append_of_le_length (by simp; omega), List.take_of_length_le (by simp; omega)]
theorem putAt_tail {C X : List Value} {o b : Nat} (h : o ≤ C.length) (hb : b = o + X.length) : (putAt C o X).drop b = C.drop b := by
  unfold putAt
  rw [List.drop_append_of_le_length (by simp; omega), List.drop_of_length_le (by simp; omega), List.nil_append, hb]
theorem putAt_mid {C X : List Value} {o : Nat} (h : o ≤ C.length) : (putAt C o X).drop o = X ++ C.drop (o + X.length) := by
  unfold putAt
  rw [List.append_assoc, List.drop_append_of_le_length (by simp; omega), List.drop_of_length_le (by simp; omega), List.nil_append]

/-- one entry gone, the rest moved up, noughts behind -/
theorem erase_cells {C Z : List Value} {d : List En} {i n : Nat} (hn : n = d.length) (hi : i < n) (hC : C.take (n * 4) = flatE d) (hCl : n * 4 ≤ C.length) (hZ : Z.length = 4) :
    (putAt (putAt C (i * 4) (flatE (d.drop (i + 1)))) ((n - 1) * 4) Z).length = C.length ∧ (putAt (putAt C (i * 4) (flatE (d.drop (i + 1)))) ((n - 1) * 4) Z).take ((n - 1) * 4) = flatE (d.eraseIdx i) := by
  have hl : (flatE (d.drop (i + 1))).length = (n - (i + 1)) * 4 := by rw [flatE_len, List.length_drop, hn]
  have h1 : (putAt C (i * 4) (flatE (d.drop (i + 1)))).length = C.length := putAt_len (by omega)
  refine ⟨by rw [putAt_len (by omega), h1], ?_⟩
  rw [putAt_head (Nat.le_refl _) (by omega), putAt_to (by omega) (by omega), List.eraseIdx_eq_take_drop_succ, flatE_append]
  congr 1
  rw [← flatE_take, ← hC, List.take_take]
  congr 1; omega
/-- one entry more, in room that was there -/
theorem insert_cells {C : List Value} {d : List En} {x : En} {i n : Nat} (hn : n = d.length) (hi : i < n) (hC : C.take (n * 4) = flatE d) (hCl : (n + 1) * 4 ≤ C.length) :
    (putAt (putAt C ((i + 1) * 4) (flatE (d.drop i))) (i * 4) (encE x)).length = C.length ∧ (putAt (putAt C ((i + 1) * 4) (flatE (d.drop i))) (i * 4) (encE x)).take ((n + 1) * 4) = flatE (d.take i ++ x :: d.drop i) := by
  have hl : (flatE (d.drop i)).length = (n - i) * 4 := by rw [flatE_len, List.length_drop, hn]
  have hx := encE_len x
  have h1 : (putAt C ((i + 1) * 4) (flatE (d.drop i))).length = C.length := putAt_len (by omega)
  refine ⟨by rw [putAt_len (by omega), h1], ?_⟩
  have h2 : putAt (putAt C ((i + 1) * 4) (flatE (d.drop i))) (i * 4) (encE x) = C.take (i * 4) ++ encE x ++ (flatE (d.drop i) ++ C.drop ((i + 1) * 4 + (flatE (d.drop i)).length)) := by
    show (putAt C ((i + 1) * 4) (flatE (d.drop i))).take (i * 4) ++ encE x ++ (putAt C ((i + 1) * 4) (flatE (d.drop i))).drop (i * 4 + (encE x).length) = _
    rw [putAt_head (by omega) (by omega), show i * 4 + (encE x).length = (i + 1) * 4 by omega, putAt_mid (by omega)]
  rw [h2, ← List.append_assoc, List.take_append_of_le_length (by simp; omega), List.take_of_length_le (by simp; omega), flatE_append, flatE_cons, List.append_assoc]
  congr 1
  rw [← flatE_take, ← hC, List.take_take]
  congr 1; omega
/-- one entry more, in a new row -/
theorem insert_new {R : List Value} {d : List En} {x : En} {i n : Nat} (hn : n = d.length) (hi : i < n) (hC : R.take (i * 4) = flatE (d.take i)) (hCl : (n + 1) * 4 ≤ R.length) :
    (putAt (putAt R (i * 4) (encE x)) ((i + 1) * 4) (flatE (d.drop i))).length = R.length ∧ (putAt (putAt R (i * 4) (encE x)) ((i + 1) * 4) (flatE (d.drop i))).take ((n + 1) * 4) = flatE (d.take i ++ x :: d.drop i) := by
  have hl : (flatE (d.drop i)).length = (n - i) * 4 := by rw [flatE_len, List.length_drop, hn]
  have hx := encE_len x
  have h1 : (putAt R (i * 4) (encE x)).length = R.length := putAt_len (by omega)
  refine ⟨by rw [putAt_len (by omega), h1], ?_⟩
  rw [putAt_to (by omega) (by omega), putAt_to (by omega) (by omega), hC, flatE_append, flatE_cons, List.append_assoc]

set_option maxRecDepth 100000 in
set_option maxHeartbeats 1000000 in
theorem clone_any (v : Value) (d : List En) (w : World) (hv : EntsAt w v d) (hl : d.length ≤ 1048576) :
    Calls Tryz.prog 83 #[v] w fun e w' => ∃ u, e = .returned u ∧ EntRow w' w.heap.size u d ∧ Below w.heap.size w w' := by
  have hb := below_lit w (.cells #[] 118)
  have hrow := lit_ents w
  have hv' := hv.below hb
  obtain ⟨a, ca, rfl, hn, hva⟩ := hv
  cases a with
  | none =>
    obtain rfl : ca = 0 := hn rfl
    have hd : d = [] := by
      cases d with
      | nil => rfl
      | cons e d => obtain ⟨b, off, h, _⟩ := hva 0 (by simp); cases h
    subst hd
    clear hva
    have hq : ∀ w, (binOp .eql 76 (.slice none 0 0) (.slice none 0 0)).run Tryz.prog w = .ok (.bool true) w := fun w => Lib.run_eql_slice_nil w _ _ none 0 0 0 0 Tryz.underlying76
    go_enter Tryz.func83, Tryz.ntmps83
    go_wp2
    go_ret
    exact ⟨_, rfl, World.ownsRow_nil _ _ _ _, Below.refl _ _⟩
  | some a =>
    clear hva
    have hq : ∀ w, (binOp .eql 76 (.slice (some a) d.length ca) (.slice none 0 0)).run Tryz.prog w = .ok (.bool false) w := fun w => Lib.run_eql_slice_nil w _ _ (some a) _ _ 0 0 Tryz.underlying76
    go_enter Tryz.func83, Tryz.ntmps83
    go_wp2_with (at_builtin; refine append_ents _ rfl (.tmp 5) (.tmp 6) rfl w.heap.size _ _ [] d (by simp; omega) hrow hv' rfl rfl hb.size ?_; intro v' w3 hown3 hbel3)
    go_ret
    exact ⟨_, rfl, by simpa using hown3, hb.trans hbel3⟩
end

section
open Go.RowKit

/-- the cells of a row of one's own from entry j on -/
theorem cells_from {w : World} {g : Nat} {cur : Array Value} {T : TypeId} {d : List En} {n : Nat} (hh : w.heap[g]? = some (.cells cur T (0, 0))) (htake : cur.toList.take (n * 4) = flatE d) (hn : n = d.length) (j : Nat) :
    ∀ t u, (flatE (d.drop j))[t]? = some u → w.cell? ⟨g, j * 4 + t, none⟩ = some u := by
  intro t u hu
  have ht := (List.getElem?_eq_some_iff.1 hu).1
  rw [flatE_len, List.length_drop] at ht
  rw [cell_of_row w g _ _ _ _ hh, ← hu, ← flatE_drop, List.getElem?_drop, ← htake, List.getElem?_take, if_pos (by omega)]
  simp

set_option maxRecDepth 100000 in
set_option maxHeartbeats 4000000 in
theorem delete_any (v : Value) (d : List En) (i j base : Nat) (hj : j = i + 1) (w : World) (hv : EntRow w base v d) (hi : i < d.length) (hl : d.length ≤ 1048576) :
    Calls Tryz.prog 211 #[v, .int .i64 i, .int .i64 j] w fun e w' => ∃ u, e = .returned u ∧ EntRow w' base u (d.eraseIdx i) ∧ Below base w w' := by
  obtain ⟨i0, hi0, hz0, hz1, hz2⟩ := info_parts Tryz.infoE
  rcases hv.2 with ⟨rfl, h0⟩ | ⟨g, cap, cur, rfl, hg, hh, hnc, hcp, hcs, htake⟩
  · omega
  obtain ⟨n, HN⟩ : ∃ n, Hid (n = d.length) := ⟨_, rfl⟩
  rw [← HN.out] at hi hnc htake hl ⊢
  obtain ⟨news, HNW⟩ : ∃ news, Hid (news = flatE (d.drop j)) := ⟨_, rfl⟩
  have hnl : news.length = (n - j) * 4 := by rw [HNW.out, flatE_len, List.length_drop, HN.out]
  have hcell := cells_from hh htake HN.out j
  rw [← HNW.out] at hcell
  obtain ⟨A, hA, hsrc⟩ : ∃ A : Addr, (if cap = j then some (⟨g, 0, none⟩ : Addr) else some ⟨g, j * 4, none⟩) = some A ∧ Hid (∀ t u, news[t]? = some u → w.drew.cell? (A.add t) = some u) := by
    by_cases h : cap = j
    · refine ⟨⟨g, 0, none⟩, by simp [h], fun t u hu => ?_⟩
      have h0 : news.length = 0 := by rw [hnl]; omega
      rw [List.length_eq_zero_iff.1 h0] at hu
      simp at hu
    · exact ⟨⟨g, j * 4, none⟩, by simp [h], fun t u hu => by rw [Addr.add_lit]; exact hcell t u hu⟩
  have hone : ∀ u ∈ news, u.oneCell' = true := by rw [HNW.out]; exact flatE_cell _
  have hlen : cur.toList.length = cap * 4 := by rw [Array.length_toList, hcs]
  have hap : ∀ ty c, (Builtin.append_ #[76, 76] ty #[.slice (some ⟨g, 0, none⟩) i cap, .slice (some A) (n - j) c]).run Tryz.prog w.drew = .ok (.slice (some ⟨g, 0, none⟩) (i + (n - j)) cap) (w.drew.setRow g (putAt cur.toList (i * 4) news).toArray) := fun ty c => by
    have := run_append_room (P := Tryz.prog) w.drew 76 ty 118 i0 Tryz.underlying76 hi0 g i cap cur hh A (n - j) c news (by rw [hz1]; exact hnl) hsrc.out hone (by omega) (by rw [hz1, hnl, hcs]; omega)
    rw [hz1] at this
    exact this
  have hh1 : (w.drew.setRow g (putAt cur.toList (i * 4) news).toArray).heap[g]? = some (.cells (putAt cur.toList (i * 4) news).toArray 118 (0, 0)) := setRow_heap w.drew g cur _ _ _ hh
  have hzc : (Builtin.zeroCells (Value.agg #[.int .i64 0, .int .i64 0, .string ⟨#[]⟩, .int .i64 0]).cells 1).toList = [.int .i64 0, .int .i64 0, .string ⟨#[]⟩, .int .i64 0] := by simp [Builtin.zeroCells, Value.cells, List.range, List.range.loop]
  have hcl : ∀ ty c, (Builtin.clear_ #[76] ty #[.slice (some ⟨g, (i + (n - j)) * 4, none⟩) (n - (i + (n - j))) c]).run Tryz.prog (w.drew.setRow g (putAt cur.toList (i * 4) news).toArray) = .ok (.tuple #[]) ((w.drew.setRow g (putAt cur.toList (i * 4) news).toArray).setRow g (putAt (putAt cur.toList (i * 4) news) ((n - 1) * 4) [.int .i64 0, .int .i64 0, .string ⟨#[]⟩, .int .i64 0]).toArray) := fun ty c => by
    have := run_clear_row1 (P := Tryz.prog) _ 76 118 ty _ Tryz.underlying76 Tryz.zeroValue118 g ((n - 1) * 4) c _ _ hh1 _ hzc (by simp [Value.oneCell']) (by rw [List.size_toArray, putAt_len (by rw [hlen, hnl]; omega), hlen]; simp; omega)
    rw [show i + (n - j) = n - 1 by omega, show n - (n - 1) = 1 by omega]
    exact this
  obtain ⟨W1, HW1⟩ : ∃ W1, Hid (W1 = w.drew.setRow g (putAt cur.toList (i * 4) news).toArray) := ⟨_, rfl⟩
  have HEND : Hid (EntRow (W1.setRow g (putAt (putAt cur.toList (i * 4) news) ((n - 1) * 4) [.int .i64 0, .int .i64 0, .string ⟨#[]⟩, .int .i64 0]).toArray) base (.slice (some ⟨g, 0, none⟩) (i + (n - j)) cap) (d.eraseIdx i)) := by
    have hE := erase_cells (Z := [.int .i64 0, .int .i64 0, .string ⟨#[]⟩, .int .i64 0]) HN.out hi htake (by rw [hlen]; omega) rfl
    rw [← hj, ← HNW.out] at hE
    have hlq : (d.eraseIdx i).length = n - 1 := by rw [List.length_eraseIdx_of_lt (by rw [← HN.out]; exact hi), HN.out]
    refine ⟨by rw [flatE_len], .inr ⟨g, cap, _, by rw [hlq, show i + (n - j) = n - 1 by omega], hg, ?_, by omega, hcp, by rw [List.size_toArray, hE.1, hlen], ?_⟩⟩
    · rw [HW1.out]; exact setRow_heap _ g _ _ _ _ hh1
    · rw [hlq]; exact hE.2
  have HBEL : Hid (Below base w (W1.setRow g (putAt (putAt cur.toList (i * 4) news) ((n - 1) * 4) [.int .i64 0, .int .i64 0, .string ⟨#[]⟩, .int .i64 0]).toArray)) := by
    rw [HW1.out]
    exact below_setRow (below_setRow (Below.refl base w).drew hg _) hg _
  rw [← HW1.out] at hap hcl
  have hij : i ≤ j := by omega
  have hjn : j ≤ n := by omega
  have hne : ¬ ((i : Int) = (j : Int)) := by omega
  have hic : i ≤ cap := by omega
  have hjc : j ≤ cap := by omega
  have hmx : cap ≤ 9223372036854775807 := by unfold maxLen at hcp; omega
  have hin : i + (n - j) ≤ n := by omega
  have hcx : ¬ (cap = i + (n - j)) := by omega
  have mixed : Tryz.prog.follows .mixedOrders = true := by kernel_rfl
  generalize (putAt (putAt cur.toList (i * 4) news) ((n - 1) * 4) [.int .i64 0, .int .i64 0, .string ⟨#[]⟩, .int .i64 0]).toArray = X2 at hcl HEND HBEL
  generalize d.eraseIdx i = de at HEND ⊢
  clear hcell hsrc hone hnl HNW hh1 hlen htake hh hcs hv hj
  go_enter Tryz.func211, Tryz.ntmps211
  go_wp2_with fail
  go_region_law_o (refine stepE_append_run rfl (.tmp 22) (.tmp 25) 76 76 rfl _ _ (by simp [Act.eval, Act.put]) (by simp [Act.eval, Act.put]) (hap _ (cap - j)) ?_)
  go_wp2_with (at_builtin; refine wpList_clear_run _ rfl (.tmp 31) 76 rfl _ rfl (hcl _ _) ?_)
  go_ret
  exact ⟨_, rfl, HEND.out, HBEL.out⟩
end

section
open Go.RowKit

theorem shape_of {w : World} {g : Nat} {cur : Array Value} {T : TypeId} {fr : Nat × Nat} (h : w.heap[g]? = some (.cells cur T fr)) : w.shape? g = some (T, cur.size) := by
  unfold World.shape?; rw [h]

set_option maxRecDepth 100000 in
set_option maxHeartbeats 4000000 in
/-- in the midst, where there is room -/
theorem insert_room (d : List En) (i base vb g cap : Nat) (cur : Array Value) (x : En) (w : World) (hg : base ≤ g) (hh : w.heap[g]? = some (.cells cur 118 (0, 0))) (hcp : cap ≤ maxLen) (hcs : cur.size = cap * 4) (htake : cur.toList.take (d.length * 4) = flatE d)
    (hi : i < d.length) (hroom : d.length + 1 ≤ cap)
    (hx : w.heap[vb]? = some (.cells #[.int .i64 x.hash, .int .i64 x.index, .string x.name, .int .i64 x.id] 118 (0, 0))) (hvb : vb ≠ g) :
    Calls Tryz.prog 181 #[.slice (some ⟨g, 0, none⟩) d.length cap, .int .i64 i, .slice (some ⟨vb, 0, none⟩) 1 1] w fun e w' => ∃ u, e = .returned u ∧ EntRow w' base u (d.take i ++ x :: d.drop i) ∧ Below base w w' := by
  obtain ⟨i0, hi0, hz0, hzs, hz2⟩ := info_parts Tryz.infoE
  have hsz : (Tryz.prog.info? 118).map (·.size) = some 4 := by rw [hi0]; simp [hzs]
  obtain ⟨n, HN⟩ : ∃ n, Hid (n = d.length) := ⟨_, rfl⟩
  rw [← HN.out] at hi htake hroom ⊢
  have hlen : cur.toList.length = cap * 4 := by rw [Array.length_toList, hcs]
  have hE := insert_cells (x := x) HN.out hi htake (by rw [hlen]; omega)
  have hcell := cells_from hh htake HN.out i
  obtain ⟨news, HNW⟩ : ∃ news, Hid (news = flatE (d.drop i)) := ⟨_, rfl⟩
  have hnl : news.length = (n - i) * 4 := by rw [HNW.out, flatE_len, List.length_drop, HN.out]
  have hone : ∀ u ∈ news, u.oneCell' = true := by rw [HNW.out]; exact flatE_cell _
  rw [← HNW.out] at hcell hE
  have hov : ∀ lb cb, (callFunc 208 #[.slice (some ⟨vb, 0, none⟩) 1 1, .slice (some ⟨g, (i + 1) * 4, none⟩) lb cb]).run Tryz.prog w = .ok (.value (.bool false)) w := fun lb cb => by
    rw [run_callFunc_extern Tryz.func208 (by kernel_rfl) (by kernel_rfl) (by kernel_rfl) (e := Extern.SlicesOverlaps.overlaps #[76, 76] #[4]) (by kernel_rfl),
      Lib.run_overlaps_apart w 76 4 118 Tryz.underlying76 4 Tryz.sizeOf118 ⟨vb, 0, none⟩ ⟨g, (i + 1) * 4, none⟩ 1 1 lb cb hvb _ _ _ _ (shape_of hx) (shape_of hh) (by rw [hcs]; omega) (frozen_of_row w vb 0 _ _ hx) (frozen_of_row w vb _ _ _ hx)]
    rfl
  have hcp1 : ∀ ty dc sc, (Builtin.copy_ #[76, 76] ty #[.slice (some ⟨g, (i + 1) * 4, none⟩) (n - i) dc, .slice (some ⟨g, i * 4, none⟩) (n + 1 - i) sc]).run Tryz.prog w.drew = .ok (goInt ((n - i : Nat) : Int)) (w.drew.setRow g (putAt cur.toList ((i + 1) * 4) news).toArray) := fun ty dc sc =>
    run_copy_rowK w.drew _ _ ty 118 4 (n - i) g ((i + 1) * 4) (n - i) dc ⟨g, i * 4, none⟩ (n + 1 - i) sc cur _ news Tryz.underlying76 hsz hh (by simp only [Nat.min_def]; split <;> omega) hnl
      (fun j v hj => by rw [Addr.add_lit]; exact hcell j v hj) (by rw [hnl, hcs]; omega) hone
  have hh1 : (w.drew.setRow g (putAt cur.toList ((i + 1) * 4) news).toArray).heap[g]? = some (.cells (putAt cur.toList ((i + 1) * 4) news).toArray 118 (0, 0)) := setRow_heap w.drew g cur _ _ _ hh
  have hx1 : (w.drew.setRow g (putAt cur.toList ((i + 1) * 4) news).toArray).heap[vb]? = some (.cells #[.int .i64 x.hash, .int .i64 x.index, .string x.name, .int .i64 x.id] 118 (0, 0)) := (setRow_block _ g _ vb hvb).trans hx
  obtain ⟨W1, HW1⟩ : ∃ W1, Hid (W1 = w.drew.setRow g (putAt cur.toList ((i + 1) * 4) news).toArray) := ⟨_, rfl⟩
  rw [← HW1.out] at hcp1 hh1 hx1
  have hcp2 : ∀ ty dc, (Builtin.copy_ #[76, 76] ty #[.slice (some ⟨g, i * 4, none⟩) (n + 1 - i) dc, .slice (some ⟨vb, 0, none⟩) 1 1]).run Tryz.prog W1 = .ok (goInt 1) (W1.setRow g (putAt (putAt cur.toList ((i + 1) * 4) news) (i * 4) (encE x)).toArray) := fun ty dc =>
    run_copy_rowK W1 _ _ ty 118 4 1 g (i * 4) (n + 1 - i) dc ⟨vb, 0, none⟩ 1 1 _ _ (encE x) Tryz.underlying76 hsz hh1 (by simp only [Nat.min_def]; split <;> omega) rfl
      (fun j v hj => by rw [Addr.add_lit, cell_of_row W1 vb _ _ _ _ hx1, Nat.zero_add, ← hj]; simp [encE]) (by rw [List.size_toArray]; show i * 4 + (encE x).length ≤ (putAt cur.toList ((i + 1) * 4) news).length; rw [putAt_len (by rw [hnl, hlen]; omega), hlen, encE_len]; omega) (encE_one x)
  have HEND : Hid (EntRow (W1.setRow g (putAt (putAt cur.toList ((i + 1) * 4) news) (i * 4) (encE x)).toArray) base (.slice (some ⟨g, 0, none⟩) (n + 1) cap) (d.take i ++ x :: d.drop i)) := by
    have hlq : (d.take i ++ x :: d.drop i).length = n + 1 := by
      rw [List.length_append, List.length_cons, List.length_take, List.length_drop, ← HN.out]; omega
    refine ⟨by rw [flatE_len], .inr ⟨g, cap, _, by rw [hlq], hg, setRow_heap _ g _ _ _ _ hh1, by omega, hcp, by rw [List.size_toArray, hE.1, hlen], ?_⟩⟩
    rw [hlq]; exact hE.2
  have HBEL : Hid (Below base w (W1.setRow g (putAt (putAt cur.toList ((i + 1) * 4) news) (i * 4) (encE x)).toArray)) := by
    rw [HW1.out]
    exact below_setRow (below_setRow (Below.refl base w).drew hg _) hg _
  generalize (putAt (putAt cur.toList ((i + 1) * 4) news) (i * 4) (encE x)).toArray = X2 at hcp2 HEND HBEL
  generalize d.take i ++ x :: d.drop i = de at HEND ⊢
  have hz2 : ¬ ((i : Int) = (n : Int)) := by omega
  have hw1 : IntKind.i64.wrap ((i : Int) + 1) = (i : Int) + 1 := by unfold maxLen at hcp; rw [IntKind.wrap_i64]; omega
  have hw2 : IntKind.i64.wrap ((n : Int) + 1) = (n : Int) + 1 := by unfold maxLen at hcp; rw [IntKind.wrap_i64]; omega
  have hb1 : (0 : Int) ≤ (i : Int) + 1 := by omega
  have hb0 : (0 : Int) ≤ (n : Int) + 1 := by omega
  have hin : i ≤ n := by omega
  have hr1 : ¬ ((cap : Int) < (n : Int) + 1) := by omega
  have hr2 : (n : Int) + 1 ≤ (cap : Int) := by omega
  have htn : ((i : Int) + 1).toNat = i + 1 := by omega
  have htn2 : ((n : Int) + 1).toNat = n + 1 := by omega
  have hb2 : ¬ (cap = i + 1) := by omega
  have hb3 : (i : Int) ≤ (n : Int) + 1 := by omega
  have hb5 : (i : Int) + 1 ≤ (n : Int) + 1 := by omega
  have hb4 : ¬ (cap = i) := by omega
  have mixed : Tryz.prog.follows .mixedOrders = true := by kernel_rfl
  clear hE hcell hone hnl HNW hh1 hx1 hlen htake hh hcs hx HW1 hi0 hz0 hzs hsz
  go_enter Tryz.func181, Tryz.ntmps181
  go_wp2_with (simp only [hov])
  go_region_law_o (refine stepE_copy_run rfl (.tmp 73) (.tmp 76) 76 76 rfl _ _ (by simp [Act.eval, Act.put]) (by simp [Act.eval, Act.put]) (hcp1 _ _ _) ?_)
  go_wp2_with (at_builtin; refine wpListE_copy_run _ rfl (.tmp 80) (.tmp 81) 76 76 rfl _ _ rfl rfl (hcp2 _ _) ?_)
  go_ret
  exact ⟨_, rfl, HEND.out, HBEL.out⟩
end

section
open Go.RowKit

set_option maxRecDepth 100000 in
set_option maxHeartbeats 4000000 in
/-- in the midst, where there is no room -/
theorem insert_grow (d : List En) (i base vb g cap : Nat) (cur : Array Value) (x : En) (w : World) (hbase : base ≤ w.heap.size) (hh : w.heap[g]? = some (.cells cur 118 (0, 0))) (hnc : d.length ≤ cap) (htake : cur.toList.take (d.length * 4) = flatE d)
    (hi : i < d.length) (hroom : cap < d.length + 1) (hl : d.length ≤ 1048576)
    (hx : w.heap[vb]? = some (.cells #[.int .i64 x.hash, .int .i64 x.index, .string x.name, .int .i64 x.id] 118 (0, 0))) :
    Calls Tryz.prog 181 #[.slice (some ⟨g, 0, none⟩) d.length cap, .int .i64 i, .slice (some ⟨vb, 0, none⟩) 1 1] w fun e w' => ∃ u, e = .returned u ∧ EntRow w' base u (d.take i ++ x :: d.drop i) ∧ Below base w w' := by
  obtain ⟨i0, hi0, hz0, hzs, hzb⟩ := info_parts Tryz.infoE
  have hsz : (Tryz.prog.info? 118).map (·.size) = some 4 := by rw [hi0]; simp [hzs]
  obtain ⟨n, HN⟩ : ∃ n, Hid (n = d.length) := ⟨_, rfl⟩
  rw [← HN.out] at hi htake hroom hnc hl ⊢
  have hcell0 := cells_from hh htake HN.out 0
  have hcell := cells_from hh htake HN.out i
  obtain ⟨news, HNW⟩ : ∃ news, Hid (news = flatE (d.drop i)) := ⟨_, rfl⟩
  have hnl : news.length = (n - i) * 4 := by rw [HNW.out, flatE_len, List.length_drop, HN.out]
  have hone : ∀ u ∈ news, u.oneCell' = true := by rw [HNW.out]; exact flatE_cell _
  rw [← HNW.out] at hcell
  have hgw : g < w.heap.size := lt_of_block hh
  have hvw : vb < w.heap.size := lt_of_block hx
  have hold : (Builtin.firstCells i0.size i (.slice (some ⟨g, 0, none⟩) i cap)).run Tryz.prog w.drew = .ok (flatE (d.take i)).toArray w.drew := by
    rw [hzs]
    exact run_firstCells_some w.drew 4 i ⟨g, 0, none⟩ i cap (flatE (d.take i)) (by rw [flatE_len, List.length_take, ← HN.out, Nat.min_eq_left (by omega)]) (fun j v hj => by
      rw [Addr.add_lit]
      refine hcell0 j v ?_
      rw [List.drop_zero]
      rw [← flatE_take, List.getElem?_take] at hj
      split at hj
      · exact hj
      · cases hj)
  have hik : i + (n + 1 - i) = n + 1 := by omega
  have hkk : (n : Int) + 1 - (i : Int) = ((n + 1 - i : Nat) : Int) := by omega
  have hrz : ∀ ty, (Builtin.append_ #[76, 3] ty #[.slice (some ⟨g, 0, none⟩) i cap, .int .i64 ((n : Int) + 1 - (i : Int))]).run Tryz.prog w =
      .ok (.slice (some ⟨w.heap.size, 0, none⟩) (n + 1) (grownCap w (n + 1) cap 118)) (w.drew.alloc (.cells ((flatE (d.take i)).toArray ++ Builtin.zeroCells (Value.agg #[.int .i64 0, .int .i64 0, .string ⟨#[]⟩, .int .i64 0]).cells (n + 1 - i) ++ Builtin.zeroCells (Value.agg #[.int .i64 0, .int .i64 0, .string ⟨#[]⟩, .int .i64 0]).cells (grownCap w (n + 1) cap 118 - (n + 1))) 118)) := fun ty => by
    have h := Lib.run_append_grow_zeros w 76 3 ty 118 i0 _ .i64 .i64 Tryz.underlying76 Tryz.underlying3 hi0 hz0 (some ⟨g, 0, none⟩) i cap (flatE (d.take i)) hold (n + 1 - i) (by omega) (by omega) (by omega) (by omega) (by rw [hzb]; omega) (by rw [hzb, hik]; exact growslice_fits hroom (by omega))
    rw [hik] at h
    rw [hkk]
    exact h
  have hGn : n + 1 ≤ grownCap w (n + 1) cap 118 := grownCap_ge w _ _ _
  have hGm : grownCap w (n + 1) cap 118 ≤ maxLen := grownCap_le_maxLen w (n + 1) cap _ (by unfold maxLen; omega)
  obtain ⟨G, hG⟩ : ∃ G, Hid (G = grownCap w (n + 1) cap 118) := ⟨_, rfl⟩
  rw [← hG.out] at hrz hGn hGm
  obtain ⟨ROW, hROW⟩ : ∃ ROW : Array Value, Hid (ROW = (flatE (d.take i)).toArray ++ Builtin.zeroCells (Value.agg #[.int .i64 0, .int .i64 0, .string ⟨#[]⟩, .int .i64 0]).cells (n + 1 - i) ++ Builtin.zeroCells (Value.agg #[.int .i64 0, .int .i64 0, .string ⟨#[]⟩, .int .i64 0]).cells (G - (n + 1))) := ⟨_, rfl⟩
  rw [← hROW.out] at hrz
  have hfl : (flatE (d.take i)).length = i * 4 := by rw [flatE_len, List.length_take, ← HN.out, Nat.min_eq_left (by omega)]
  have hRl : ROW.size = G * 4 := by
    rw [hROW.out, Array.size_append, Array.size_append, size_zeroCells, size_zeroCells, List.size_toArray, hfl]
    simp [Value.cells]
    omega
  have hRt : ROW.toList.take (i * 4) = flatE (d.take i) := by
    rw [hROW.out, Array.toList_append, Array.toList_append, List.append_assoc, List.take_append_of_le_length (by simp [hfl]), List.take_of_length_le (by simp [hfl])]
  have hRL : ROW.toList.length = G * 4 := by rw [Array.length_toList, hRl]
  have hE := insert_new (x := x) HN.out hi hRt (by rw [hRL]; omega)
  rw [← HNW.out] at hE
  obtain ⟨W1, HW1⟩ : ∃ W1, Hid (W1 = w.drew.alloc (.cells ROW 118)) := ⟨_, rfl⟩
  rw [← HW1.out] at hrz
  have hb1 : Below w.heap.size w W1 := by rw [HW1.out]; exact (Below.refl _ w).drew.alloc (Nat.le_refl _) _
  have hh1 : W1.heap[w.heap.size]? = some (.cells ROW 118 (0, 0)) := by rw [HW1.out]; exact heap_alloc_new w.drew _
  have hcpA : ∀ ty dc, (Builtin.copy_ #[76, 76] ty #[.slice (some ⟨w.heap.size, i * 4, none⟩) (n + 1 - i) dc, .slice (some ⟨vb, 0, none⟩) 1 1]).run Tryz.prog W1 = .ok (goInt ((1 : Nat) : Int)) (W1.setRow w.heap.size (putAt ROW.toList (i * 4) (encE x)).toArray) := fun ty dc =>
    run_copy_rowK W1 _ _ ty 118 4 1 w.heap.size (i * 4) (n + 1 - i) dc ⟨vb, 0, none⟩ 1 1 _ _ (encE x) Tryz.underlying76 hsz hh1 (by simp only [Nat.min_def]; split <;> omega) rfl
      (fun j v hj => by rw [Addr.add_lit, hb1.cell (p := ⟨vb, 0 + j, none⟩) hvw, cell_of_row w vb _ _ _ _ hx, Nat.zero_add, ← hj]; simp [encE]) (by rw [encE_len, hRl]; omega) (encE_one x)
  have hh2 : (W1.setRow w.heap.size (putAt ROW.toList (i * 4) (encE x)).toArray).heap[w.heap.size]? = some (.cells (putAt ROW.toList (i * 4) (encE x)).toArray 118 (0, 0)) := setRow_heap W1 _ _ _ _ _ hh1
  have hb2 : Below w.heap.size w (W1.setRow w.heap.size (putAt ROW.toList (i * 4) (encE x)).toArray) := below_setRow hb1 (Nat.le_refl _) _
  obtain ⟨W2, HW2⟩ : ∃ W2, Hid (W2 = W1.setRow w.heap.size (putAt ROW.toList (i * 4) (encE x)).toArray) := ⟨_, rfl⟩
  rw [← HW2.out] at hcpA hh2 hb2
  have hcpB : ∀ ty dc sc, (Builtin.copy_ #[76, 76] ty #[.slice (some ⟨w.heap.size, (i + 1) * 4, none⟩) (n - i) dc, .slice (some ⟨g, i * 4, none⟩) (n - i) sc]).run Tryz.prog W2.drew = .ok (goInt ((n - i : Nat) : Int)) (W2.drew.setRow w.heap.size (putAt (putAt ROW.toList (i * 4) (encE x)) ((i + 1) * 4) news).toArray) := fun ty dc sc =>
    run_copy_rowK W2.drew _ _ ty 118 4 (n - i) w.heap.size ((i + 1) * 4) (n - i) dc ⟨g, i * 4, none⟩ (n - i) sc _ _ news Tryz.underlying76 hsz hh2 (by simp) hnl
      (fun j v hj => by rw [Addr.add_lit]; exact (hb2.cell (p := ⟨g, i * 4 + j, none⟩) hgw).trans (hcell j v hj)) (by rw [List.size_toArray]; show (i + 1) * 4 + news.length ≤ (putAt ROW.toList (i * 4) (encE x)).length; rw [putAt_len (by rw [encE_len, hRL]; omega), hRL, hnl]; omega) hone
  have HEND : Hid (EntRow (W2.drew.setRow w.heap.size (putAt (putAt ROW.toList (i * 4) (encE x)) ((i + 1) * 4) news).toArray) base (.slice (some ⟨w.heap.size, 0, none⟩) (n + 1) G) (d.take i ++ x :: d.drop i)) := by
    have hlq : (d.take i ++ x :: d.drop i).length = n + 1 := by
      rw [List.length_append, List.length_cons, List.length_take, List.length_drop, ← HN.out]; omega
    refine ⟨by rw [flatE_len], .inr ⟨w.heap.size, G, _, by rw [hlq], hbase, setRow_heap W2.drew _ _ _ _ _ hh2, by omega, hGm, by rw [List.size_toArray, hE.1, hRL], ?_⟩⟩
    rw [hlq]; exact hE.2
  have HBEL : Hid (Below base w (W2.drew.setRow w.heap.size (putAt (putAt ROW.toList (i * 4) (encE x)) ((i + 1) * 4) news).toArray)) :=
    below_setRow (hb2.drew.mono hbase) hbase _
  generalize (putAt (putAt ROW.toList (i * 4) (encE x)) ((i + 1) * 4) news).toArray = X2 at hcpB HEND HBEL
  generalize d.take i ++ x :: d.drop i = de at HEND ⊢
  have hz2 : ¬ ((i : Int) = (n : Int)) := by omega
  have hz3 : (cap : Int) < (n : Int) + 1 := by omega
  have hw1 : IntKind.i64.wrap ((i : Int) + 1) = (i : Int) + 1 := by rw [IntKind.wrap_i64]; omega
  have hw2 : IntKind.i64.wrap ((n : Int) + 1) = (n : Int) + 1 := by rw [IntKind.wrap_i64]; omega
  have hw3 : IntKind.i64.wrap ((n : Int) + 1 - (i : Int)) = (n : Int) + 1 - (i : Int) := by rw [IntKind.wrap_i64]; omega
  have hb1' : (0 : Int) ≤ (i : Int) + 1 := by omega
  have hin : i ≤ n := by omega
  have hGi : ¬ (G = i) := by omega
  have hGim : ¬ (G = i + 1) := by omega
  have hci : ¬ (cap = i) := by omega
  have hic : i ≤ cap := by omega
  have hG63 : G ≤ 9223372036854775807 := by unfold maxLen at hGm; omega
  have htn : ((i : Int) + 1).toNat = i + 1 := by omega
  have hb3 : (i : Int) ≤ (n : Int) + 1 := by omega
  have hb5 : (i : Int) + 1 ≤ (n : Int) + 1 := by omega
  have mixed : Tryz.prog.follows .mixedOrders = true := by kernel_rfl
  clear hE hcell hcell0 hone hnl HNW hh1 hh2 hb1 hb2 htake hh hx HW1 HW2 hi0 hz0 hzs hsz hzb hold hRl hRt hRL hfl hROW hG hkk hik hgw hvw
  go_enter Tryz.func181, Tryz.ntmps181
  go_wp2_with (first
    | (at_builtin; refine Lib.wpList_append_run _ rfl (.tmp 34) (.tmp 39) _ _ rfl _ _ rfl rfl _ _ (hrz _) ?_)
    | (at_builtin; refine wpListE_copy_run _ rfl (.tmp 43) (.tmp 44) 76 76 rfl _ _ rfl rfl (hcpA _ _) ?_))
  go_region_law_o (refine stepE_copy_run rfl (.tmp 50) (.tmp 53) 76 76 rfl _ _ (by simp [Act.eval, Act.put]) (by simp [Act.eval, Act.put]) (hcpB _ (G - (i + 1)) (cap - i)) ?_)
  go_wp2
  go_ret
  exact ⟨_, rfl, HEND.out, HBEL.out⟩

set_option maxRecDepth 100000 in
set_option maxHeartbeats 4000000 in
/-- at the end -/
theorem insert_end (v : Value) (d : List En) (base vb : Nat) (x : En) (w : World) (hv : EntRow w base v d) (hl : d.length ≤ 1048576) (hbase : base ≤ w.heap.size)
    (hx : w.heap[vb]? = some (.cells #[.int .i64 x.hash, .int .i64 x.index, .string x.name, .int .i64 x.id] 118 (0, 0))) :
    Calls Tryz.prog 181 #[v, .int .i64 (d.length : Nat), .slice (some ⟨vb, 0, none⟩) 1 1] w fun e w' => ∃ u, e = .returned u ∧ EntRow w' base u (d ++ [x]) ∧ Below base w w' := by
  have hu : EntsAt w (.slice (some ⟨vb, 0, none⟩) 1 1) [x] := by
    refine ⟨_, _, rfl, fun h => (by cases h), fun t ht => ⟨vb, 0, rfl, lt_of_block hx, ?_⟩⟩
    obtain rfl : t = 0 := by simpa using ht
    refine ⟨?_, ?_, ?_, ?_⟩ <;> rw [cell_of_row w vb _ _ _ _ hx] <;> rfl
  have mixed : Tryz.prog.follows .mixedOrders = true := by kernel_rfl
  have hv' := hv
  rcases hv.2 with ⟨rfl, h0⟩ | ⟨g, cap, cur, rfl, hg, hh, hnc, hcp, hcs, htake⟩
  · have hd : d = [] := List.length_eq_zero_iff.1 h0
    subst hd
    clear hv
    go_enter Tryz.func181, Tryz.ntmps181
    go_wp2_with (at_builtin; refine append_ents _ rfl (.tmp 23) (.tmp 24) rfl base _ _ [] [x] (by simp) hv' hu rfl rfl hbase ?_; intro v' w3 hown3 hbel3)
    go_ret
    exact ⟨_, rfl, hown3, hbel3⟩
  · have hb : cap ≤ 9223372036854775807 := by unfold maxLen at hcp; omega
    have HLL : Hid (d.length + [x].length ≤ 1099511627776) := by show _ ≤ _; simp; omega
    clear hv htake hcs hh
    obtain ⟨n, HN⟩ : ∃ n, Hid (n = d.length) := ⟨_, rfl⟩
    rw [← HN.out] at hnc hl hv' ⊢
    by_cases hcn : cap = n
    · subst hcn
      go_enter Tryz.func181, Tryz.ntmps181
      go_wp2_with (at_builtin; refine append_ents _ rfl (.tmp 23) (.tmp 24) rfl base _ _ d [x] HLL.out hv' hu rfl rfl hbase ?_; intro v' w3 hown3 hbel3)
      go_ret
      exact ⟨_, rfl, hown3, hbel3⟩
    · go_enter Tryz.func181, Tryz.ntmps181
      go_wp2_with (at_builtin; refine append_ents _ rfl (.tmp 23) (.tmp 24) rfl base _ _ d [x] HLL.out hv' hu rfl rfl hbase ?_; intro v' w3 hown3 hbel3)
      go_ret
      exact ⟨_, rfl, hown3, hbel3⟩

/-- whole -/
theorem insertE_any (v : Value) (d : List En) (i base vb : Nat) (x : En) (w : World) (hv : EntRow w base v d) (hi : i ≤ d.length) (hl : d.length ≤ 1048576) (hbase : base ≤ w.heap.size)
    (hx : w.heap[vb]? = some (.cells #[.int .i64 x.hash, .int .i64 x.index, .string x.name, .int .i64 x.id] 118 (0, 0))) (hne : v.ownBlock ≠ some vb) :
    Calls Tryz.prog 181 #[v, .int .i64 (i : Nat), .slice (some ⟨vb, 0, none⟩) 1 1] w fun e w' => ∃ u, e = .returned u ∧ EntRow w' base u (d.take i ++ x :: d.drop i) ∧ Below base w w' := by
  by_cases h : i = d.length
  · subst h
    rw [List.take_length, List.drop_length]
    exact insert_end v d base vb x w hv hl hbase hx
  · rcases hv.2 with ⟨rfl, h0⟩ | ⟨g, cap, cur, rfl, hg, hh, hnc, hcp, hcs, htake⟩
    · omega
    · by_cases hr : d.length + 1 ≤ cap
      · exact insert_room d i base vb g cap cur x w hg hh hcp hcs htake (by omega) hr hx (fun e => hne (by rw [e]; rfl))
      · exact insert_grow d i base vb g cap cur x w hbase hh hnc htake (by omega) (by omega) hl hx
end

end Go.Proofs.YtgkcnleegefjcaaGreatDoor
