/- Rows of whole numbers: what an append leaves as it was. Signs in rows: impl.Units: the last row grows in its place. Signs in rows: impl.Units. -/
import Derived.Test.YtlkemmdcjnaepaaDoorRows
import Derived.Test.YtlkemmdcjnaepaaDoorG00
import Derived.Test.YtlkemmdcjnaepaaDoorG26
import Derived.Test.YtlkemmdcjnaepaaDoorG09
import Derived.Laws.AppendOwnNone
import Derived.Deep.AppendSrc
import Derived.Lib.AppendZeros
namespace Go.Proofs.YtlkemmdcjnaepaaDoor

section
open Go.RowKit

/-- a piece of a row written anew -/
def putI (C : List Value) (o : Nat) (X : List Value) : List Value := C.take o ++ X ++ C.drop (o + X.length)
theorem putI_len {C X : List Value} {o : Nat} (h : o + X.length ≤ C.length) : (putI C o X).length = C.length := by
  unfold putI; simp; omega
theorem putI_to {C X : List Value} {o b : Nat} (h : o ≤ C.length) (hb : b = o + X.length) : (putI C o X).take b = C.take o ++ X := by
  unfold putI
  rw [List.take_append_of_le_length (by simp; omega), List.take_of_length_le (by simp; omega)]
theorem setRow_but (w : World) (g : Nat) (cs : Array Value) (k : Nat) (h : k ≠ g) : (w.setRow g cs).heap[k]? = w.heap[k]? := by
  simp only [World.setRow, Array.getElem?_modify]
  rw [if_neg (by omega)]
/-- 'append(row, x)': the row stays in its block or goes to a new one -/
theorem append_intH (w : World) {ops : Array Oper} {rest : List Oper} {o : Oper} {a : Act} {Q : Exit → Act → World → Prop} (hgd : o.guard = none) (s x : Operand)
    (ho : o.op = .call { callee := .builtin .append, args := #[s, x], argTypes := #[39, 39] }) (base : Nat)
    (v : Value) (g cap : Nat) (l : List Int) (e : Int) (hl : l.length + 1 ≤ 1099511627776) (hown : IntRow w base v l) (hc : w.cell? ⟨g, 0, none⟩ = some (.int .i64 e)) (hs : a.eval s = v) (hx : a.eval x = .slice (some ⟨g, 0, none⟩) 1 cap)
    (hbase : base ≤ w.heap.size)
    (h : ∀ v' w', IntRow w' base v' (l ++ [e]) → w.grownBy w' v.ownBlock → (∀ k, v'.ownBlock = some k → v.ownBlock = some k ∨ w.heap.size ≤ k) → wpList Tryd.prog ops Q rest (a.put o.dst v') w') :
    wpList Tryd.prog ops Q (o :: rest) a w := by
  obtain ⟨i0, hi0, hz0, hz1, hz2⟩ := info_parts Tryd.infoInt
  have hcell : ∀ j u, [Value.int .i64 e][j]? = some u → w.cell? ((⟨g, 0, none⟩ : Addr).add j) = some u := fun j y hj => by
    match j, hj with
    | 0, hj => simp at hj; subst hj; rw [Addr.add_lit]; exact hc
    | j + 1, hj => simp at hj
  have hone : ∀ u ∈ [Value.int .i64 e], u.oneCell' = true := fun u hu => by simp at hu; subst hu; rfl
  have hsrc : _root_.Go.Src Tryd.prog i0.size 39 (.slice (some ⟨g, 0, none⟩) 1 cap) 1 [Value.int .i64 e] w :=
    _root_.Go.Src.ofSlice w Tryd.underlying39 ⟨g, 0, none⟩ 1 cap _ (by rw [hz1]; rfl) hcell hone
  have hle : (l ++ [e]).length = l.length + 1 := by simp
  have hfe : intsV (l ++ [e]) = intsV l ++ [.int .i64 e] := intsV_append _ _
  have hil : (intsV l).length = l.length := by simp [intsV]
  have GROW : ∀ (ad : Option Addr) (c : Nat), v = .slice ad l.length c → c < l.length + 1 → (Builtin.firstCells i0.size l.length (.slice ad l.length c)).run Tryd.prog w.drew = .ok (intsV l).toArray w.drew → wpList Tryd.prog ops Q (o :: rest) a w := fun ad c hv hroom hold => by
    have hrun := run_append_grow_src w 39 39 o.type 3 i0 _ Tryd.underlying39 hi0 hz0 ad l.length c (intsV l) hold _ 1 [.int .i64 e] hsrc hroom (by omega) (by rw [hz2]; exact growslice_fits hroom (by omega))
    have hGn : l.length + 1 ≤ grownCap w (l.length + 1) c 3 := grownCap_ge w _ _ _
    have hGm : grownCap w (l.length + 1) c 3 ≤ maxLen := grownCap_le_maxLen w (l.length + 1) c _ (by unfold maxLen; omega)
    generalize grownCap w (l.length + 1) c 3 = G at hrun hGn hGm
    refine Lib.wpList_append_run w hgd s x _ _ ho _ _ (hs.trans hv) hx _ _ hrun ?_
    refine h _ _ ⟨by rw [hfe, List.length_append, hil]; simp, .inr ⟨w.heap.size, G, _, by rw [hle], hbase, heap_alloc_new w.drew _, by rw [hle]; exact hGn, hGm, ?_, ?_⟩⟩ ⟨rfl, rfl, rfl, by simp, fun k hk _ => Below.heap_alloc w.drew _ _ hk⟩ (fun k hk => .inr (by cases hk; exact Nat.le_refl _))
    · rw [Array.size_append, List.size_toArray, List.length_append, hil, size_zeroCells]
      simp [Value.cells]
      omega
    · rw [Array.toList_append, hle, hfe, List.take_append_of_le_length (by simp [hil]), List.take_of_length_le (by simp [hil])]
  rcases hown.2 with ⟨rfl, h0⟩ | ⟨g0, c0, cur, rfl, hg, hh, hnc, hcp, hcs, htake⟩
  · have hl0 : l = [] := List.length_eq_zero_iff.1 h0
    subst hl0
    exact GROW none 0 rfl (by simp) (run_firstCells_none w.drew i0.size 0 0 0)
  · by_cases hroom : l.length + 1 ≤ c0
    · have hlen : cur.toList.length = c0 * 1 := by rw [Array.length_toList, hcs]
      have hrun := run_append_room (P := Tryd.prog) w 39 o.type 3 i0 Tryd.underlying39 hi0 g0 l.length c0 cur hh ⟨g, 0, none⟩ 1 cap [.int .i64 e] (by rw [hz1]; rfl) hcell hone hroom (by rw [hz1, hcs]; simp; omega)
      rw [hz1] at hrun
      refine Lib.wpList_append_run w hgd s x _ _ ho _ _ hs hx _ _ hrun ?_
      refine h _ _ ⟨by rw [hfe, List.length_append, hil]; simp, .inr ⟨g0, c0, _, by rw [hle], hg, setRow_heap w g0 _ _ _ _ hh, by rw [hle]; exact hroom, hcp, ?_, ?_⟩⟩ ⟨rfl, rfl, rfl, by simp, fun k hk hn => setRow_but w g0 _ k (fun e => hn (by rw [e]; rfl))⟩ (fun k hk => .inl hk)
      · rw [List.size_toArray]
        show (putI cur.toList (l.length * 1) [.int .i64 e]).length = _
        rw [putI_len (by rw [hlen]; simp; omega), hlen]
      · show (putI cur.toList (l.length * 1) [.int .i64 e]).take _ = _
        rw [hle, show (l.length + 1) * 1 = l.length * 1 + [Value.int .i64 e].length by simp, putI_to (by rw [hlen]; omega) (by rfl), hfe]
        congr 1
    · refine GROW _ c0 rfl (by omega) ?_
      rw [hz1]
      exact run_firstCells_some w.drew 1 l.length ⟨g0, 0, none⟩ l.length c0 (intsV l) (by rw [hil]; omega) (fun j u hj => by
        rw [Addr.add_lit, Nat.zero_add]
        have hj1 := (List.getElem?_eq_some_iff.1 hj).1
        rw [hil] at hj1
        show w.cell? _ = _
        rw [cell_of_row w g0 _ _ _ _ hh, ← hj, ← htake, List.getElem?_take, if_pos (by omega)]
        simp)
end

section
open Go.RowKit

theorem UnR.grow {l : List Int} {vs : List (List Int)} {u : List Int} (h : UnR l (vs ++ [u])) (a : Int) (ha : clsN a ≠ 0) : UnR (l ++ [a]) (vs ++ [u ++ [a]]) := by
  obtain ⟨b, t, hu, ht⟩ := h.one u (by simp)
  refine ⟨?_, fun x hx => ?_, fun x hx => ?_⟩
  · have := h.all
    rw [← this]
    simp
  · rcases List.mem_append.1 hx with hx | hx
    · exact h.one x (by simp [hx])
    · rw [List.mem_singleton.1 hx, hu]
      refine ⟨b, t ++ [a], rfl, fun y hy => ?_⟩
      rcases List.mem_append.1 hy with hy | hy
      · exact ht y hy
      · rw [List.mem_singleton.1 hy]; exact ha
  · cases vs with
    | nil => cases hx
    | cons v vs =>
      rcases List.mem_append.1 (show x ∈ vs ++ [u ++ [a]] from hx) with hx | hx
      · exact h.beg x (by simp [hx])
      · rw [List.mem_singleton.1 hx, hu]
        have := h.beg u (by simp)
        rw [hu] at this
        exact this
theorem take_one (l : List Int) (k : Nat) (hk : k < l.length) : l.take (k + 1) = l.take k ++ [l.getD k 0] := by
  rw [List.take_add_one, List.getElem?_eq_getElem hk]
  simp [List.getD, hk]
/-- a sign more -/
theorem units_new (l : List Int) (k : Nat) (hk : k < l.length) (h : k = 0 ∨ clsN (l.getD k 0) = 0) : unitsN (l.take (k + 1)) = unitsN (l.take k) ++ [[] ++ [l.getD k 0]] := by
  rw [take_one l k hk]
  refine (units_uniq _ _ ((units_right (l.take k)).more (l.getD k 0) [] rfl (fun x hx => by cases hx) fun hne => ?_)).symm
  rcases h with rfl | h
  · exact absurd rfl hne
  · exact h
theorem units_old (l : List Int) (k : Nat) (hk : k < l.length) (h0 : k ≠ 0) (h : clsN (l.getD k 0) ≠ 0) : ∃ vs u, unitsN (l.take k) = vs ++ [u] ∧ unitsN (l.take (k + 1)) = vs ++ [u ++ [l.getD k 0]] := by
  have hr := units_right (l.take k)
  have hne : unitsN (l.take k) ≠ [] := fun e => by
    have := hr.all
    rw [e] at this
    have h2 := congrArg List.length this
    rw [List.length_take] at h2
    simp at h2
    omega
  refine ⟨(unitsN (l.take k)).dropLast, (unitsN (l.take k)).getLast hne, (List.dropLast_concat_getLast hne).symm, ?_⟩
  rw [← List.dropLast_concat_getLast hne] at hr
  rw [take_one l k hk]
  exact (units_uniq _ _ (hr.grow (l.getD k 0) h)).symm
theorem units_take (l : List Int) (k : Nat) : (unitsN (l.take k)).length ≤ k := Nat.le_trans (units_len _) (by rw [List.length_take]; exact Nat.min_le_left _ _)

/-- the last row has grown, and is laid in its place -/
theorem RwsRow.last {w w' : World} {base : Nat} {y y' : Value} {us : List Value} {ls : List (List Int)} {u m : List Int} {g cap : Nat} (h : RwsRow w base (.slice (some ⟨g, 0, none⟩) (ls.length + 1) cap) (us ++ [y]) (ls ++ [u])) (hul : us.length = ls.length)
    (hy : IntRow w' base y' m) (hg : w.grownBy w' y.ownBlock) (hk : ∀ k, y'.ownBlock = some k → y.ownBlock = some k ∨ w.heap.size ≤ k) :
    RwsRow (w'.setCell ⟨g, ls.length, none⟩ y') base (.slice (some ⟨g, 0, none⟩) (ls.length + 1) cap) (us ++ [y']) (ls ++ [m]) := by
  have hlen : (ls ++ [u]).length = ls.length + 1 := by simp
  have hlm : (ls ++ [m]).length = ls.length + 1 := by simp
  have hlast : IntRow w base y u := by
    have := h.inn ls.length (by omega)
    rwa [← hul, vD_new, hul, lD_new] at this
  have hold : ∀ t, t < ls.length → IntRow w base (vD us t) (lD ls t) := fun t ht => by
    have := h.inn t (by omega)
    rwa [vD_old (by omega), lD_old ht] at this
  have hap : ∀ t, t < ls.length → (vD us t).ownBlock = none ∨ (vD us t).ownBlock ≠ y.ownBlock := fun t ht => by
    have := h.ap t ls.length (by omega) (by omega) (by omega)
    rwa [vD_old (by omega), ← hul, vD_new] at this
  have hout := World.ownsRow.kept h.out hg (own_ne h.out hlast (by decide))
  rw [hlen] at hout
  have hset : w'.grownBy (w'.setCell ⟨g, ls.length, none⟩ y') (some g) := gbi_set w' g ls.length y'
  have kin : ∀ {z : Value} {l : List Int}, IntRow w' base z l → IntRow (w'.setCell ⟨g, ls.length, none⟩ y') base z l := fun hz => World.ownsRow.kept hz hset (own_ne hz hout (by decide))
  refine ⟨?_, fun t ht => ?_, fun s t hs ht hst => ?_⟩
  · have h1 := (hout.stored ls.length y').1
    rw [hlm]
    rwa [← hul, List.set_append_right _ _ (by omega), Nat.sub_self, List.set_cons_zero, hul] at h1
  · by_cases e : t < ls.length
    · rw [vD_old (by omega), lD_old e]
      exact kin (World.ownsRow.kept (hold t e) hg (hap t e))
    · obtain rfl : t = ls.length := by omega
      rw [lD_new, ← hul, vD_new, hul]
      exact kin hy
  · have key : ∀ t, t < ls.length → (vD us t).ownBlock = none ∨ (vD us t).ownBlock ≠ y'.ownBlock := fun t ht => by
      cases e : (vD us t).ownBlock with
      | none => exact .inl rfl
      | some k =>
        right
        intro e2
        rcases hk k e2.symm with h1 | h1
        · have := hap t ht
          rw [e, h1] at this
          rcases this with h2 | h2
          · cases h2
          · exact h2 rfl
        · have := (World.ownsRow.lt (hold t ht) k e).2
          omega
    by_cases e1 : s < ls.length
    · by_cases e2 : t < ls.length
      · rw [vD_old (by omega), vD_old (by omega)]
        have := h.ap s t (by omega) (by omega) hst
        rwa [vD_old (by omega), vD_old (by omega)] at this
      · obtain rfl : t = ls.length := by omega
        rw [vD_old (by omega), ← hul, vD_new]
        exact key s e1
    · obtain rfl : s = ls.length := by omega
      have e2 : t < ls.length := by omega
      rw [← hul, vD_new, vD_old (t := t) (by omega)]
      cases hq : y'.ownBlock with
      | none => exact .inl rfl
      | some q =>
        right
        intro e3
        rcases key t e2 with h1 | h1
        · rw [h1] at e3; cases e3
        · exact h1 (by rw [hq]; exact e3.symm)
theorem RwsRow.tail {w : World} {base : Nat} {v y : Value} {us : List Value} {ls : List (List Int)} {u : List Int} (h : RwsRow w base v (us ++ [y]) (ls ++ [u])) :
    us.length = ls.length ∧ IntRow w base y u ∧ ∃ g cap, v = .slice (some ⟨g, 0, none⟩) (ls.length + 1) cap ∧ w.cell? ⟨g, ls.length, none⟩ = some y ∧ w.frozen? ⟨g, ls.length, none⟩ = false ∧ base ≤ g ∧ g < w.heap.size ∧ y.ownBlock ≠ some g := by
  have hu := h.ulen
  have hul : us.length = ls.length := by simpa using hu
  have hlen : (ls ++ [u]).length = ls.length + 1 := by simp
  have hlast : IntRow w base y u := by
    have := h.inn ls.length (by omega)
    rwa [← hul, vD_new, hul, lD_new] at this
  refine ⟨hul, hlast, ?_⟩
  have hne := own_ne h.out hlast (by decide)
  have hout := h.out
  rw [hlen] at hout
  rcases id hout.2 with ⟨_, h0⟩ | ⟨g, cap, cur, rfl, hg, hh, hnc, hcp, hcs, htake⟩
  · omega
  · refine ⟨g, cap, rfl, ?_, World.ownsRow.frozenAt hout ls.length, hg, lt_of_block hh, fun e => ?_⟩
    · have := World.ownsRow.cellAt hout ls.length (by omega)
      rw [this, ← hul]
      simp
    · rcases hne with h1 | h1
      · cases h1
      · exact h1 e.symm
end

section
open Go.RowKit

theorem cell_same {w w' : World} {g j : Nat} (e : w'.heap[g]? = w.heap[g]?) : w'.cell? ⟨g, j, none⟩ = w.cell? ⟨g, j, none⟩ := by
  simp only [World.cell?, e]
theorem frozen_same {w w' : World} {g j : Nat} (e : w'.heap[g]? = w.heap[g]?) : w'.frozen? ⟨g, j, none⟩ = w.frozen? ⟨g, j, none⟩ := by
  simp only [World.frozen?, e]
set_option maxRecDepth 100000 in
set_option maxHeartbeats 2000000 in
theorem iUnits (v : Value) (l : List Int) (w : World) (hl : l.length ≤ 1048576) (hv : IntsC w v l) :
    Calls Tryd.prog 65 #[v] w fun e w' => ∃ u us, e = .returned u ∧ RwsRow w' w.heap.size u us (unitsN l) ∧ Below w.heap.size w w' := by
  obtain ⟨hva, a, cap, rfl, -⟩ := hv
  have HNW : Hid (∀ k, k < l.length → k = 0 ∨ clsN (l.getD k 0) = 0 → unitsN (l.take (k + 1)) = unitsN (l.take k) ++ [[] ++ [l.getD k 0]]) := fun k h1 h2 => units_new l k h1 h2
  have HOL : Hid (∀ k, k < l.length → k ≠ 0 → clsN (l.getD k 0) ≠ 0 → ∃ vs u, unitsN (l.take k) = vs ++ [u] ∧ unitsN (l.take (k + 1)) = vs ++ [u ++ [l.getD k 0]]) := fun k h1 h2 h3 => units_old l k h1 h2 h3
  have HLN : Hid (∀ k, (unitsN (l.take k)).length ≤ k) := fun k => units_take l k
  have HLS : Hid (∀ k u vs, k < l.length → unitsN (l.take k) = vs ++ [u] → u.length ≤ k) := fun k u vs h1 h2 => by
    have h3 := congrArg List.length (units_right (l.take k)).all
    rw [h2, List.length_take] at h3
    simp at h3
    omega
  have HEN : Hid (unitsN (l.take l.length) = unitsN l) := by show _ = _; rw [List.take_length]
  have H0 : unitsN (l.take 0) = [] := rfl
  obtain ⟨a2, c2, e0, hcs⟩ := id hva
  cases e0
  obtain ⟨n, HN⟩ : ∃ n, Hid (n = l.length) := ⟨_, rfl⟩
  rw [← HN.out] at hcs hl HNW HOL HLS HEN ⊢
  generalize unitsN l = r at HEN ⊢
  clear hva
  have hE : RwsRow w w.heap.size (.slice none 0 0) [] [] := ⟨World.ownsRow_nil _ _ _ _, fun t ht => by simp at ht, fun s t hs => by simp at hs⟩
  go_enter Tryd.func65, Tryd.ntmps65
  go_wp2
  go_loopw [3, 9] (fun ov iv wr => ∃ (k : Nat) (us : List Value), k ≤ n ∧ iv = .int .i64 k ∧ RwsRow wr w.heap.size ov us (unitsN (l.take k)) ∧ Below w.heap.size w wr) (fun _ iv _ => n - (intOf iv).toNat)
  case atStart => exact ⟨0, [], Nat.zero_le _, rfl, by rw [H0]; exact hE, Below.refl _ _⟩
  case round =>
    obtain ⟨k, us, hk, rfl, hrow, hbel⟩ := hrel
    by_cases hlt : k < n
    · obtain ⟨b1, o1, rfl, hb1, hc1⟩ := hcs k hlt
      have hc1' := (hbel.cell (p := ⟨b1, o1 + k, none⟩) hb1).trans hc1
      have HN1 := HNW.out k hlt
      have HO1 := HOL.out k hlt
      have HL1 := HLN.out k
      have HS1 := HLS.out k
      have HCI := iClass (l.getD k 0) wr
      have hkn : (k : Int) < (n : Int) := by omega
      generalize l.getD k 0 = x at hc1' HN1 HO1 HCI
      generalize clsN x = kc at HN1 HO1 HCI
      obtain ⟨RK, HRK⟩ : ∃ RK, Hid (RK = unitsN (l.take k)) := ⟨_, rfl⟩
      obtain ⟨RS, HRS⟩ : ∃ RS, Hid (RS = unitsN (l.take (k + 1))) := ⟨_, rfl⟩
      rw [← HRK.out] at hrow HN1 HO1 HL1 HS1
      rw [← HRS.out] at HN1 HO1
      clear hc1 hcs HNW HOL HLN HLS HEN
      obtain ⟨bb, HBB⟩ : ∃ bb, Hid (bb = (decide (k = 0) || decide (kc = 0))) := ⟨_, rfl⟩
      go_upto_region 5 with fail
      go_cut [20] from 10 to 37 (fun bv wx => bv = .bool bb ∧ Below wr.heap.size wr wx)
      case first =>
        clear HN1 HO1 HS1 hrow
        by_cases hk0 : k = 0
        · obtain rfl : bb = true := by rw [HBB.out, decide_eq_true hk0]; rfl
          subst hk0
          clear HCI
          go_wp2_with fail
          go_meet
          exact ⟨rfl, Below.refl _ _⟩
        · have hk0b : ((k : Int) == 0) = false := by simp; omega
          have hbk : bb = decide (kc = 0) := by rw [HBB.out, decide_eq_false hk0, Bool.false_or]
          go_wp2_with fail
          refine HCI.mono ?_
          rintro e w5 ⟨rfl, b5⟩
          by_cases hkc : kc = 0
          · have hkb : (kc == 0) = true := by simp [hkc]
            obtain rfl : bb = true := by rw [hbk, decide_eq_true hkc]
            clear hbk HBB hkc
            go_wp2_with fail
            go_meet
            exact ⟨rfl, b5⟩
          · have hkb : (kc == 0) = false := by simp [hkc]
            obtain rfl : bb = false := by rw [hbk, decide_eq_false hkc]
            clear hbk HBB hkc
            go_wp2_with fail
            go_meet
            exact ⟨rfl, b5⟩
      case rest =>
        obtain ⟨rfl, b5⟩ := hcut
        have row5 := hrow.below b5
        have hbel5 := hbel.trans (b5.mono hbel.size)
        clear hrow HCI hbel b5 hc1'
        cases bb
        · have hk0 : k ≠ 0 := fun e => by have := HBB.out; rw [decide_eq_true e] at this; cases this
          have hkc : kc ≠ 0 := fun e => by have := HBB.out; rw [decide_eq_true e, Bool.or_true] at this; cases this
          obtain ⟨vs, u, hRK, hRS⟩ := HO1 hk0 hkc
          have hul := HS1 u vs hlt hRK
          subst hRK
          have hU := row5.ulen
          obtain ⟨us2, y, rfl⟩ : ∃ us2 y, us = us2 ++ [y] := by
            have hne : us ≠ [] := fun e => by rw [e] at hU; simp at hU
            exact ⟨us.dropLast, us.getLast hne, (List.dropLast_concat_getLast hne).symm⟩
          obtain ⟨hul2, rowy, g, cap2, rfl, hcy, hfy, hgb, hgl, hyn⟩ := row5.tail
          have hvl : vs.length < 1048576 := by simp at HL1; omega
          have HRW : Hid (RwsRow wc w.heap.size (.slice (some ⟨g, 0, none⟩) (vs.length + 1) cap2) (us2 ++ [y]) (vs ++ [u])) := row5
          have HR : Hid (RS = vs ++ [u ++ [x]]) := hRS
          have hbz := hbel5
          have HK8 : Hid (∀ W o, (wc.alloc o).grownBy W y.ownBlock → W.cell? ⟨g, vs.length, none⟩ = some y ∧ W.frozen? ⟨g, vs.length, none⟩ = false) := fun W o h => by
            have e1 := (h.block g (by simp; omega) (fun e => hyn e.symm)).trans (Below.heap_alloc wc o g hgl)
            exact ⟨(cell_same e1).trans hcy, (frozen_same e1).trans hfy⟩
          obtain ⟨py, cy, rfl, -⟩ := rowy.at
          go_wp2_with (at_builtin; refine append_intH (wc.alloc (.cells #[.int .i64 x] 3)) rfl (.tmp 32) (.tmp 34) rfl w.heap.size _ wc.heap.size 1 u x (by omega) (World.ownsRow.alloc rowy _) (cell_one_int _ _ 0 _ rfl) rfl rfl (Nat.le_trans hbz.size (by simp)) ?_; intro v8 w8 row8 hg8 hk8; obtain ⟨hc8, hf8⟩ := HK8.out _ _ hg8; obtain ⟨a8, c8, rfl, -⟩ := row8.at)
          have hra := row5.below ((Below.refl wc.heap.size wc).alloc (Nat.le_refl _) (.cells #[.int .i64 x] 3))
          have HROW : Hid (RwsRow (w8.setCell ⟨g, vs.length, none⟩ (.slice a8 (u ++ [x]).length c8)) w.heap.size (.slice (some ⟨g, 0, none⟩) (vs.length + 1) cap2) (us2 ++ [.slice a8 (u ++ [x]).length c8]) (vs ++ [u ++ [x]])) := hra.last hul2 row8 hg8 hk8
          have HBE : Hid (Below w.heap.size w (w8.setCell ⟨g, vs.length, none⟩ (.slice a8 (u ++ [x]).length c8))) := by
            have e1 := (hbz.alloc hbz.size (.cells #[.int .i64 x] 3)).grown hg8 (Nat.le_trans hbz.size (by simp)) (fun q hq => (World.ownsRow.lt rowy q hq).1)
            exact e1.grown (gbi_set w8 g vs.length (.slice a8 (u ++ [x]).length c8)) e1.size (fun q hq => by injection hq with hq; omega)
          rw [show (u ++ [x]).length = u.length + 1 by simp] at HROW HBE
          go_roundw
          case rel => exact ⟨k + 1, us2 ++ [.slice a8 (u.length + 1) c8], by omega, by go_num, by rw [← HRS.out, HR.out]; exact HROW.out, HBE.out⟩
          case measure => simp [intOf]; omega
        · have hor : k = 0 ∨ kc = 0 := by
            have := HBB.out
            by_cases e1 : k = 0
            · exact .inl e1
            · by_cases e2 : kc = 0
              · exact .inr e2
              · rw [decide_eq_false e1, decide_eq_false e2] at this; cases this
          have HR : Hid (RS = RK ++ [[] ++ [x]]) := HN1 hor
          have hlr : RK.length + 1 ≤ 1099511627776 := by omega
          have hnl : ∀ t, t < RK.length → (vD us t).ownBlock = none ∨ (vD us t).ownBlock ≠ (Value.slice none 0 0).ownBlock := fun t _ => by
            cases (vD us t).ownBlock with
            | none => exact .inl rfl
            | some q => right; intro e; cases e
          obtain ⟨av, cv, dv, rfl, -⟩ := row5.at
          clear HN1 HO1 HS1 hor HBB
          go_upto_region 7 with (at_builtin; refine append_row wc rfl (.tmp 21) (.tmp 22) rfl w.heap.size _ (.slice none 0 0) us RK [] hlr row5 (World.ownsRow_nil _ _ _ _) hnl rfl rfl hbel5.size ?_; intro v6 w6 row6 b6)
          obtain ⟨hul2, rowy, g, cap2, rfl, hcy, hfy, hgb, hgl, hyn⟩ := row6.tail
          have hbz := hbel5.trans b6
          have hvl : RK.length < 1048576 := by omega
          have HK8 : Hid (∀ W o, (w6.alloc o).grownBy W (Value.slice none 0 0).ownBlock → W.cell? ⟨g, RK.length, none⟩ = some (.slice none 0 0) ∧ W.frozen? ⟨g, RK.length, none⟩ = false) := fun W o h => by
            have e1 := (h.block g (by simp; omega) (fun e => hyn e.symm)).trans (Below.heap_alloc w6 o g hgl)
            exact ⟨(cell_same e1).trans hcy, (frozen_same e1).trans hfy⟩
          clear hyn hnl
          go_wp2_with (at_builtin; refine append_intH (w6.alloc (.cells #[.int .i64 x] 3)) rfl (.tmp 32) (.tmp 34) rfl w.heap.size _ w6.heap.size 1 [] x (by simp) (World.ownsRow.alloc rowy _) (cell_one_int _ _ 0 _ rfl) rfl rfl (Nat.le_trans hbz.size (by simp)) ?_; intro v8 w8 row8 hg8 hk8; obtain ⟨hc8, hf8⟩ := HK8.out _ _ hg8; obtain ⟨a8, c8, rfl, -⟩ := row8.at)
          have hra := row6.below ((Below.refl w6.heap.size w6).alloc (Nat.le_refl _) (.cells #[.int .i64 x] 3))
          have HROW : Hid (RwsRow (w8.setCell ⟨g, RK.length, none⟩ (.slice a8 ([] ++ [x]).length c8)) w.heap.size (.slice (some ⟨g, 0, none⟩) (RK.length + 1) cap2) (us ++ [.slice a8 ([] ++ [x]).length c8]) (RK ++ [[] ++ [x]])) := hra.last hul2 row8 hg8 hk8
          have HBE : Hid (Below w.heap.size w (w8.setCell ⟨g, RK.length, none⟩ (.slice a8 ([] ++ [x]).length c8))) := by
            have e1 := (hbz.alloc hbz.size (.cells #[.int .i64 x] 3)).grown hg8 (Nat.le_trans hbz.size (by simp)) (fun q hq => (World.ownsRow.lt rowy q hq).1)
            exact e1.grown (gbi_set w8 g RK.length (.slice a8 ([] ++ [x]).length c8)) e1.size (fun q hq => by injection hq with hq; omega)
          rw [show (([] : List Int) ++ [x]).length = 1 by simp] at HROW HBE
          go_roundw
          case rel => exact ⟨k + 1, us ++ [.slice a8 1 c8], by omega, by go_num, by rw [← HRS.out, HR.out]; exact HROW.out, HBE.out⟩
          case measure => simp [intOf]; omega
    · obtain rfl : k = n := by omega
      rw [HEN.out] at hrow
      go_wp2
      go_ret
      exact ⟨_, _, rfl, hrow, hbel⟩
end

end Go.Proofs.YtlkemmdcjnaepaaDoor
