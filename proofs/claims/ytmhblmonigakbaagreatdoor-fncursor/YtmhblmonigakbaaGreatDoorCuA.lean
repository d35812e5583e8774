/- For the law of going through a directory while it is changed: draws, a row that grows beside others. -/
import Derived.Test.YtmhblmonigakbaaGreatDoorRows
import Derived.Test.YtmhblmonigakbaaGreatDoorMy
import Derived.Test.YtmhblmonigakbaaGreatDoorMn
import Derived.Test.YtmhblmonigakbaaGreatDoorMu
import Derived.Laws.AppendOwn
import Derived.Lib.AppendZeros
import Derived.Deep.AppendSrc
namespace Go.Proofs.YtmhblmonigakbaaGreatDoor
open Go.RowKit

set_option maxRecDepth 100000 in
set_option maxHeartbeats 1000000 in
theorem at_any (S : Src) (ok : S.ok) (j : Nat) (hj : j ≤ 100) (w : World) (hl : Lies S w) :
    Calls Tryz.prog 16 #[.slice S.a S.len S.cap, .int .i64 j] w fun e w' => ∃ r : Int, e = .returned (.int .i64 r) ∧ w = w' := by
  have hlen : S.len ≤ 1048576 := ok.1
  obtain ⟨a, len, cap, zs⟩ := S
  have hlen : len ≤ 1048576 := hlen
  have hl : ∀ t, t < len → ∃ b off, a = some ⟨b, off, none⟩ ∧ w.cell? ⟨b, off + t, none⟩ = some (.int .u8 (zs.getD t 0)) := hl
  show Calls Tryz.prog 16 #[.slice a len cap, .int .i64 j] w _
  clear ok
  by_cases h : j < len
  · obtain ⟨b1, o1, rfl, hc1⟩ := hl j h
    clear hl
    generalize zs.getD j 0 = z at hc1
    have hjl : (j : Int) < (len : Int) := by omega
    go_enter Tryz.func16, Tryz.ntmps16
    go_wp2
    go_ret
    first | exact ⟨⟨_, rfl⟩, rfl⟩ | exact ⟨_, rfl, rfl⟩
  · have hjl : ¬ ((j : Int) < (len : Int)) := by omega
    clear hl
    go_enter Tryz.func16, Tryz.ntmps16
    go_wp2
    go_ret
    first | exact ⟨⟨_, rfl⟩, rfl⟩ | exact ⟨_, rfl, rfl⟩

set_option maxRecDepth 100000 in
set_option maxHeartbeats 1000000 in
theorem freshN_any (S : Src) (ok : S.ok) (sa : Nat) (hsa : sa < 100) (w : World) (hl : Lies S w) :
    Calls Tryz.prog 17 #[.slice S.a S.len S.cap, .int .i64 sa] w fun e w' => ∃ S' : Src, e = .returned (.slice S'.a S'.len S'.cap) ∧ S'.ok ∧ Lies S' w' ∧ Below w.heap.size w w' := by
  have hlen : S.len ≤ 1048576 := ok.1
  obtain ⟨a, len, cap, zs⟩ := S
  have HZ : Hid (∀ t, 0 ≤ zs.getD t 0 ∧ zs.getD t 0 ≤ 255) := ok.2
  have HC : Hid (∀ t, t < len → ∃ b off, a = some ⟨b, off, none⟩ ∧ w.cell? ⟨b, off + t, none⟩ = some (.int .u8 (zs.getD t 0))) := hl
  have hlen : len ≤ 1048576 := hlen
  clear ok hl
  show Calls Tryz.prog 17 #[.slice a len cap, .int .i64 sa] w _
  have hw8 : IntKind.u8.wrap (sa : Int) = (sa : Int) := by rw [IntKind.wrap_u8]; omega
  have h0 : (w.alloc (.cells #[.int .u8 sa] 5)).ownsRow w.heap.size 5 1 (.slice (some ⟨w.heap.size, 0, none⟩) 1 1) ([UInt8.ofNat sa] : List UInt8).length (bytesV [UInt8.ofNat sa]) := by
    have h := World.ownsRow_lit (base := w.heap.size) (e := 5) (size := 1) w #[.int .u8 sa] 1 (Nat.le_refl _) (by unfold maxLen; omega) (by simp)
    have e : (sa : Int) % 256 = (sa : Int) := by omega
    simpa [bytesV, e] using h
  go_enter Tryz.func17, Tryz.ntmps17
  go_wp2
  go_loopw [5, 6] (fun v i wr => ∃ (k : Nat) (l : List UInt8), k ≤ len ∧ k ≤ 600 ∧ l.length = k + 1 ∧ i = .int .i64 k ∧ wr.ownsRow w.heap.size 5 1 v l.length (bytesV l) ∧ Below w.heap.size w wr) (fun _ i _ => len - (intOf i).toNat)
  case atStart => exact ⟨0, [UInt8.ofNat sa], by omega, by omega, rfl, rfl, h0, (Below.refl _ _).alloc (Nat.le_refl _) _⟩
  case round =>
    obtain ⟨k, l, hk, hk6, hll, rfl, hown, hbel⟩ := hrel
    have fin : ∃ S' : Src, u5 = .slice S'.a S'.len S'.cap ∧ S'.ok ∧ Lies S' wr := bytes_lies hown (by omega)
    clear h0
    by_cases h1 : k < len
    · by_cases h2 : k < 600
      · obtain ⟨b1, o1, rfl, hc1⟩ := HC.out k h1
        have hc2 : wr.cell? ⟨b1, o1 + k, none⟩ = some (.int .u8 (zs.getD k 0)) := (hbel.cell (p := ⟨b1, o1 + k, none⟩) (World.block_lt_of_cell? w _ hc1)).trans hc1
        have hz := HZ.out k
        generalize zs.getD k 0 = z at *
        clear fin hc1
        obtain ⟨q, HQ⟩ : ∃ q : Nat, Hid ((k : Int).tmod 7 = (q : Int)) := ⟨k % 7, by show _ = _; rw [Int.tmod_eq_emod_of_nonneg (by omega)]; omega⟩
        have hq7 : q < 7 := by have h := HQ.out; rw [Int.tmod_eq_emod_of_nonneg (by omega)] at h; omega
        have hrem := HQ.out
        have e1 : IntKind.i64.wrap z = z := wraps_i64 _ (by omega) (by omega)
        obtain ⟨m, HM⟩ : ∃ m : Int, Hid ((sa : Int) * ((q : Int) + 1) = m) := ⟨_, rfl⟩
        have hm : 0 ≤ m ∧ m ≤ 800 := by
          rw [← HM.out]
          have h7 : (sa : Int) * ((q : Int) + 1) ≤ 99 * 8 := Int.mul_le_mul (by omega) (by omega) (by omega) (by omega)
          have h8 : 0 ≤ (sa : Int) * ((q : Int) + 1) := Int.mul_nonneg (by omega) (by omega)
          omega
        have hmw := HM.out
        have e2 : IntKind.i64.wrap m = m := wraps_i64 _ (by omega) (by omega)
        have e3 : IntKind.i64.wrap ((sa : Int) * ((q : Int) + 1)) = m := by rw [hmw]; exact e2
        obtain ⟨y, HY⟩ : ∃ y : Int, Hid (IntKind.u8.wrap (z * 3 + m) = y) := ⟨_, rfl⟩
        have hy : 0 ≤ y ∧ y < 256 := by rw [← HY.out, IntKind.wrap_u8]; omega
        have hyw := HY.out
        go_wp2_with (at_builtin; refine append_byte wr rfl (.tmp 20) (.tmp 34) 22 5 rfl w.heap.size Tryz.underlying22 frs_info _ l y hy.1 hy.2 (by omega) hown rfl rfl hbel.size ?_; intro v' w2 hown2 hbel2)
        go_roundw
        case rel => exact ⟨k + 1, l ++ [UInt8.ofNat y.toNat], by omega, by omega, by simp; omega, by go_num, hown2, hbel.trans hbel2⟩
        case measure => simp [intOf]; omega
      · obtain ⟨S', hS1, hS2, hS3⟩ := fin
        subst hS1
        go_wp2
        go_ret
        exact ⟨S', rfl, hS2, hS3, hbel⟩
    · obtain ⟨S', hS1, hS2, hS3⟩ := fin
      subst hS1
      go_wp2
      go_ret
      exact ⟨S', rfl, hS2, hS3, hbel⟩

/-- 'append(out, e)': the row stays in its block or goes to a new one -/
theorem append_entH (w : World) {ops : Array Oper} {rest : List Oper} {o : Oper} {a : Act} {Q : Exit → Act → World → Prop} (hgd : o.guard = none) (s x : Operand)
    (ho : o.op = .call { callee := .builtin .append, args := #[s, x], argTypes := #[24, 24] }) (base : Nat)
    (v : Value) (g cap : Nat) (l : List En) (e : En) (hl : l.length + 1 ≤ 1048576) (hown : EntRow w base v l) (hc : CellsE w g 0 e) (hs : a.eval s = v) (hx : a.eval x = .slice (some ⟨g, 0, none⟩) 1 cap)
    (hbase : base ≤ w.heap.size)
    (h : ∀ v' w', EntRow w' base v' (l ++ [e]) → w.grownBy w' v.ownBlock → (∀ k, v'.ownBlock = some k → v.ownBlock = some k ∨ w.heap.size ≤ k) → wpList Tryz.prog ops Q rest (a.put o.dst v') w') :
    wpList Tryz.prog ops Q (o :: rest) a w := by
  obtain ⟨i0, hi0, hz0, hz1, hz2⟩ := info_parts Tryz.infoE
  have hcell : ∀ j u, (encE e)[j]? = some u → w.cell? ((⟨g, 0, none⟩ : Addr).add j) = some u := fun j y hj => by
    have hj1 := (List.getElem?_eq_some_iff.1 hj).1
    rw [encE_len] at hj1
    rw [Addr.add_lit]
    match j, hj1 with
    | 0, _ => exact hc.c0.trans hj
    | 1, _ => exact hc.c1.trans hj
    | 2, _ => exact hc.c2.trans hj
    | 3, _ => exact hc.c3.trans hj
  have hsrc : _root_.Go.Src Tryz.prog i0.size 24 (.slice (some ⟨g, 0, none⟩) 1 cap) 1 (encE e) w :=
    _root_.Go.Src.ofSlice w Tryz.underlying24 ⟨g, 0, none⟩ 1 cap (encE e) (by rw [encE_len, hz1]) hcell (encE_one e)
  have hle : (l ++ [e]).length = l.length + 1 := by simp
  have hfe : flatE (l ++ [e]) = flatE l ++ encE e := by rw [flatE_append, flatE_one]
  /- where there is no room: a new row -/
  have GROW : ∀ (ad : Option Addr) (c : Nat), v = .slice ad l.length c → c < l.length + 1 → (Builtin.firstCells i0.size l.length (.slice ad l.length c)).run Tryz.prog w.drew = .ok (flatE l).toArray w.drew → wpList Tryz.prog ops Q (o :: rest) a w := fun ad c hv hroom hold => by
    have hrun := run_append_grow_src w 24 24 o.type 34 i0 _ Tryz.underlying24 hi0 hz0 ad l.length c (flatE l) hold _ 1 (encE e) hsrc hroom (by omega) (by rw [hz2]; exact growslice_fits hroom (by omega))
    have hGn : l.length + 1 ≤ grownCap w (l.length + 1) c 34 := grownCap_ge w _ _ _
    have hGm : grownCap w (l.length + 1) c 34 ≤ maxLen := grownCap_le_maxLen w (l.length + 1) c _ (by unfold maxLen; omega)
    generalize grownCap w (l.length + 1) c 34 = G at hrun hGn hGm
    refine Lib.wpList_append_run w hgd s x _ _ ho _ _ (hs.trans hv) hx _ _ hrun ?_
    refine h _ _ ⟨by rw [flatE_len], .inr ⟨w.heap.size, G, _, by rw [hle], hbase, heap_alloc_new w.drew _, by rw [hle]; exact hGn, hGm, ?_, ?_⟩⟩ ⟨rfl, rfl, rfl, by simp, fun k hk _ => Below.heap_alloc w.drew _ _ hk⟩ (fun k hk => .inr (by cases hk; exact Nat.le_refl _))
    · rw [Array.size_append, List.size_toArray, List.length_append, flatE_len, encE_len, size_zeroCells]
      simp [Value.cells]
      omega
    · rw [Array.toList_append, hle, hfe, List.take_append_of_le_length (by simp [flatE_len, encE_len]; omega), List.take_of_length_le (by simp [flatE_len, encE_len]; omega)]
  rcases hown.2 with ⟨rfl, h0⟩ | ⟨g0, c0, cur, rfl, hg, hh, hnc, hcp, hcs, htake⟩
  · have hl0 : l = [] := List.length_eq_zero_iff.1 h0
    subst hl0
    exact GROW none 0 rfl (by simp) (run_firstCells_none w.drew i0.size 0 0 0)
  · by_cases hroom : l.length + 1 ≤ c0
    · have hlen : cur.toList.length = c0 * 4 := by rw [Array.length_toList, hcs]
      have hrun := run_append_room (P := Tryz.prog) w 24 o.type 34 i0 Tryz.underlying24 hi0 g0 l.length c0 cur hh ⟨g, 0, none⟩ 1 cap (encE e) (by rw [encE_len, hz1]) hcell (encE_one e) hroom (by rw [hz1, encE_len, hcs]; omega)
      rw [hz1] at hrun
      refine Lib.wpList_append_run w hgd s x _ _ ho _ _ hs hx _ _ hrun ?_
      refine h _ _ ⟨by rw [flatE_len], .inr ⟨g0, c0, _, by rw [hle], hg, setRow_heap w g0 _ _ _ _ hh, by rw [hle]; exact hroom, hcp, ?_, ?_⟩⟩ ⟨rfl, rfl, rfl, by simp, fun k hk hn => setRow_block w g0 _ k (fun e => hn (by rw [e]; rfl))⟩ (fun k hk => .inl hk)
      · rw [List.size_toArray]
        show (putAt cur.toList (l.length * 4) (encE e)).length = _
        rw [putAt_len (by rw [encE_len, hlen]; omega), hlen]
      · show (putAt cur.toList (l.length * 4) (encE e)).take _ = _
        rw [hle, putAt_to (by rw [hlen]; omega) (by rw [encE_len]; omega), htake, hfe]
    · refine GROW _ c0 rfl (by omega) ?_
      rw [hz1]
      exact run_firstCells_some w.drew 4 l.length ⟨g0, 0, none⟩ l.length c0 (flatE l) (flatE_len l) (fun j u hj => by
        rw [Addr.add_lit, Nat.zero_add]
        have hj1 := (List.getElem?_eq_some_iff.1 hj).1
        rw [flatE_len] at hj1
        show w.cell? _ = _
        rw [cell_of_row w g0 _ _ _ _ hh, ← hj, ← htake, List.getElem?_take, if_pos hj1]
        simp)

end Go.Proofs.YtmhblmonigakbaaGreatDoor
