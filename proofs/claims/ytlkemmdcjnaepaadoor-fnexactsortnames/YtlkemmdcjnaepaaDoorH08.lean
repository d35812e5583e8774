/- Names in order: impl.SortNames. A row of texts that is handed to a law, opened. -/
import Derived.Test.YtlkemmdcjnaepaaDoorRows
import Derived.Test.YtlkemmdcjnaepaaDoorH07
import Derived.Test.YtlkemmdcjnaepaaDoorG36
import Derived.Test.YtlkemmdcjnaepaaDoorG40
import Derived.Test.YtlkemmdcjnaepaaDoorG28
import Derived.Deep.Slices
import Derived.Lib.SmallJoins
import Derived.ChangeArms
namespace Go.Proofs.YtlkemmdcjnaepaaDoor

section
open Go.RowKit Go.Sort Go.Shelf Go.Lib

set_option maxRecDepth 100000 in
set_option maxHeartbeats 4000000 in
theorem iSortNames (v : Value) (l : List ByteArray) (w : World) (hT : Tabs w) (hl : l.length ≤ 1048576) (hz : ∀ t, t < l.length → l[t]!.size ≤ 1048576) (hv : TxtsAt w v l) :
    Calls Tryd.prog 11 #[v] w fun e w' => ∃ u, e = .returned u ∧ TxtRow w' w.heap.size u (sort14 l) ∧ Below w.heap.size w w' := by
  obtain ⟨i0, hi, hz0, hz1, hz2⟩ := info_parts Tryd.infoInt
  obtain ⟨j0, hj, hy0, hy1, hy2⟩ := info_parts Tryd.infoTxt
  have HRN : Hid (∀ W, Below w.heap.size w W → Calls Tryd.prog 36 #[v] W fun e w' => ∃ u, e = .returned u ∧ KnRow w' W.heap.size u (rowK l) ∧ Below W.heap.size W w') := fun W h => rowOfNames_any v l W hl hz (hT.below h) (hv.below h)
  obtain ⟨ad, cp, rfl, -, hc⟩ := hv
  have HSP : Hid (∀ w2 W u rv, IntRow w2 w.heap.size u (upto l.length) → Below w2.heap.size w2 W → KnRow W w2.heap.size rv (rowK l) → Calls Tryd.prog 35 #[u, .func (.func 37) #[rv] #[]] W fun e w' => e = .returned (.tuple #[]) ∧ Plcd l w.heap.size W u w') := fun w2 W u rv h1 h2 h3 => sortPlaces_any l hl w2 W w.heap.size u rv h1 h2 h3
  have HC : Hid (∀ t, t < l.length → ∃ b off, ad = some ⟨b, off, none⟩ ∧ b < w.heap.size ∧ w.cell? ⟨b, off + t, none⟩ = some (.string l[t]!)) := hc
  have HZ : Hid (∀ t, t < l.length → l[t]!.size ≤ 1048576) := hz
  have HUS : Hid (∀ k, upto (k + 1) = upto k ++ [(k : Int)]) := upto_succ
  have HUL : Hid (∀ k, (upto k).length = k) := upto_len
  have HSL : Hid ((sort14 l).length = l.length) := sort14_len l
  have HTK : Hid (∀ k, k < l.length → (sort14 l).take (k + 1) = (sort14 l).take k ++ [(sort14 l)[k]!]) := fun k h => take_txt _ k (by rw [sort14_len]; exact h)
  have HTL : Hid (∀ k, k ≤ l.length → ((sort14 l).take k).length = k) := fun k h => by rw [List.length_take, sort14_len]; omega
  have HTN : Hid ((sort14 l).take l.length = sort14 l) := by show _ = _; rw [← sort14_len l, List.take_length]
  have HPL : Hid (∀ w6 u, Plcd l w.heap.size w6 u = Plcd l w.heap.size w6 u) := fun _ _ => rfl
  obtain ⟨n, HN⟩ : ∃ n, Hid (n = l.length) := ⟨_, rfl⟩
  rw [← HN.out] at hl HC HZ HSP HRN HSL HTK HTL HTN ⊢
  clear hc hz hT HPL
  go_enter Tryd.func11, Tryd.ntmps11
  go_wp2_with (at_make; refine wpList_make_own _ rfl _ _ 39 rfl w.heap.size 3 i0 (.int .i64 0) 1 Tryd.underlying39 hi hz0 hz1 .i64 .i64 _ n rfl rfl (by omega) (by rw [hz2]; omega) (by unfold maxLen; omega) (Nat.le_refl _) ?_; intro w3 hown3 hgrow3)
  have hb3 : Below w.heap.size w w3 := (Below.refl _ _).grown hgrow3 (Nat.le_refl _) (fun _ h => by cases h)
  clear hgrow3 hi hz0 hz1 hz2
  go_loopw [3, 13] (fun u i wr => ∃ k : Nat, k ≤ n ∧ i = .int .i64 k ∧ IntRow wr w.heap.size u (upto k) ∧ Below w.heap.size w wr) (fun _ i _ => n - (intOf i).toNat)
  case atStart => exact ⟨0, Nat.zero_le _, rfl, by simpa [IntRow, intsV, upto] using hown3, hb3⟩
  case round =>
    clear hown3 hb3
    obtain ⟨k, hk, rfl, hrow, hbel⟩ := hrel
    by_cases hlt : k < n
    · have hltz : (k : Int) < (n : Int) := by omega
      have hUL := HUL.out k
      have hUS : Hid _ := HUS.out k
      clear HRN HSP HC HZ HSL HTK HTL HTN hj hy0 hy1 hy2 HUS HUL
      go_wp2_with (at_builtin; refine append_int _ rfl (.tmp 16) (.tmp 18) rfl w.heap.size _ (upto k) (k : Int) (by omega) hrow rfl rfl hbel.size ?_; intro v' w4 hrow4 hbel4)
      have HB4 := hbel.trans hbel4
      go_roundw
      case rel => exact ⟨k + 1, by omega, by go_num, by rw [hUS.out]; exact hrow4, HB4⟩
      case measure => simp [intOf]; omega
    · have hltz : ¬ (k : Int) < (n : Int) := by omega
      have hkn : k = n := by omega
      rw [hkn] at hrow
      have HRc := HRN.out _ hbel
      have HW5 : Hid (IntRow wr w.heap.size u3 (upto n) ∧ Below w.heap.size w wr) := ⟨hrow, hbel⟩
      clear HRN HUS HUL hrow hbel hkn
      go_wp2_with fail
      refine HRc.mono ?_
      rintro e w5 ⟨rv, rfl, rowk, b5⟩
      have HSc := HSP.out wr w5 _ rv HW5.out.1 b5 rowk
      have HB5 : Hid (Below w.heap.size w w5) := HW5.out.2.trans (b5.mono HW5.out.2.size)
      clear HSP HW5 b5 rowk HRc
      go_wp2_with fail
      refine HSc.mono ?_
      rintro e w6 ⟨rfl, hb6, P, hP1, hP2, hP3, a6, c6, hu6, hP4⟩
      rw [List.length_map, hP1, ← HN.out] at hu6
      subst hu6
      have hPl : P.length = n := hP1.trans HN.out.symm
      have HPC : Hid (∀ t, t < n → ∃ b off, a6 = some ⟨b, off, none⟩ ∧ b < w6.heap.size ∧ w6.cell? ⟨b, off + t, none⟩ = some (.int .i64 ((P[t]! : Nat) : Int))) := fun t ht => by
        obtain ⟨b, off, e1, e2, e3⟩ := hP4 t (by rw [List.length_map]; omega)
        refine ⟨b, off, e1, e2, ?_⟩
        rw [e3]
        have ht' : t < P.length := by omega
        simp [List.getD, ht']
      have HPV : Hid (∀ t, t < n → P[t]! < n ∧ (sort14 l)[t]! = l[P[t]!]!) := fun t ht => by
        refine ⟨?_, ?_⟩
        · have h1 := hP2 t (by omega)
          rwa [← HN.out] at h1
        · have ht' : t < P.length := by omega
          rw [← hP3, getElem!_pos _ t (by rw [List.length_map]; exact ht'), List.getElem_map, getElem!_pos P t ht']
      have B6 : Hid (Below w.heap.size w w6) := HB5.out.trans hb6
      clear hP1 hP2 hP3 hP4 HB5 hb6 HSc HN hPl
      obtain ⟨R, HR⟩ : ∃ R, Hid (R = sort14 l) := ⟨_, rfl⟩
      rw [← HR.out] at HSL HTK HTL HTN HPV
      go_wp2_with (at_make; refine wpList_make_own _ rfl _ _ 24 rfl w6.heap.size 9 j0 _ 1 Tryd.underlying24 hj hy0 hy1 .i64 .i64 _ n rfl rfl (by omega) (by rw [hy2]; omega) (by unfold maxLen; omega) (Nat.le_refl _) ?_; intro w7 hown7 hgrow7)
      have hb7 : Below w6.heap.size w6 w7 := (Below.refl _ _).grown hgrow7 (Nat.le_refl _) (fun _ h => by cases h)
      clear hgrow7 hj hy0 hy1 hy2
      go_loopw [5, 31] (fun ov iv wr => ∃ k : Nat, k ≤ n ∧ iv = .int .i64 k ∧ TxtRow wr w6.heap.size ov (R.take k) ∧ Below w6.heap.size w6 wr) (fun _ iv _ => n - (intOf iv).toNat)
      case atStart => exact ⟨0, Nat.zero_le _, rfl, by simpa [TxtRow, strsV] using hown7, hb7⟩
      case round =>
        clear hown7 hb7
        obtain ⟨t, ht, rfl, hrow, hbel⟩ := hrel
        by_cases htn : t < n
        · have htz : (t : Int) < (n : Int) := by omega
          obtain ⟨pb, po, rfl, hpb, hpc⟩ := HPC.out t htn
          obtain ⟨hpv, hRt⟩ := HPV.out t htn
          obtain ⟨tq, tf, rfl, htb, htc⟩ := HC.out _ hpv
          have c1 := (hbel.cell (p := ⟨pb, po + t, none⟩) hpb).trans hpc
          have c2 := (hbel.cell (p := ⟨tq, tf + P[t]!, none⟩) (Nat.lt_of_lt_of_le htb B6.out.size)).trans ((B6.out.cell (p := ⟨tq, tf + P[t]!, none⟩) htb).trans htc)
          have hxz := HZ.out _ hpv
          have HT : Hid _ := HTK.out t htn
          rw [hRt] at HT
          have hRl := HTL.out t ht
          have hpz : ((P[t]! : Nat) : Int) < (n : Int) := by omega
          have HCL := fun W => clone_text l[P[t]!]! W hxz
          clear HC HZ HSL HTK HTL HTN HPC HPV hRt hpc htc
          generalize l[P[t]!]! = x at *
          generalize P[t]! = p at *
          generalize R.take t = RT at *
          go_wp2_with (first | (go_at_call 38; refine (HCL _).mono ?_; rintro e w8 ⟨rfl, b8⟩; have hrow8 := hrow.below b8; have hbel8 := hbel.trans (b8.mono hbel.size)) | (at_builtin; refine append_txt _ rfl (.tmp 35) (.tmp 41) rfl w6.heap.size _ RT x (by omega) hrow8 rfl rfl hbel8.size ?_; intro v' w9 hrow9 hbel9))
          have HB9 := hbel8.trans hbel9
          go_roundw
          case rel => exact ⟨t + 1, by omega, by go_num, by rw [HT.out]; exact hrow9, HB9⟩
          case measure => simp [intOf]; omega
        · have htz : ¬ (t : Int) < (n : Int) := by omega
          have htn2 : t = n := by omega
          rw [htn2, HTN.out] at hrow
          have HE : Hid (TxtRow wr w.heap.size u5 (sort14 l) ∧ Below w.heap.size w wr) := ⟨by rw [← HR.out]; exact hrow.mono B6.out.size, B6.out.trans (hbel.mono B6.out.size)⟩
          clear hrow hbel htn2 HC HZ HSL HTK HTL HTN HPC HPV
          go_wp2
          go_ret
          exact ⟨_, rfl, HE.out.1, HE.out.2⟩

theorem soImpl (w : World) (hT : Tabs w) : SoImpl w :=
  ⟨fun v l W hb hv hl hz => iSortNames v l W (hT.below hb) hl hz hv, fun a b W hb ha hb2 => iOrder a b W (hT.below hb) ha hb2⟩
end

section
open Go.RowKit Go.ChangeShapes Go.WideShapes Go.Deep Go.Joins

theorem cellsTx : Tryd.prog.cellsOf 9 = 1 := by kernel_rfl

set_option maxRecDepth 100000 in
theorem txts_open {H : Type} {enc : TypeId × Value → H} {W : World} {fuel : Nat} {a : Option Addr} {len cap : Nat} {x : DataW H × List MemPlace}
    (hf : DataW.trod enc Tryd.prog W 0 (fun _ => true) true fuel 24 [.slice a len cap] = some x) :
    ∃ l : List ByteArray, TxtsAt W (.slice a len cap) l ∧ l.length ≤ maxLen ∧ ∀ t, t < l.length → l[t]!.size ≤ maxLen := by
  rcases open_slice Tryd.underlying24 hf with ⟨h0, -⟩ | ⟨ad, len', cap', m, n, D, Pl, h0, -, hl, hm, hmm, -, hx⟩
  · cases h0
    exact ⟨[], ⟨none, 0, rfl, fun _ => rfl, fun t ht => by simp at ht⟩, by simp, fun t ht => by simp at ht⟩
  · cases h0
    simp only [if_true] at hmm
    subst hmm
    rw [cellsTx] at hx
    obtain ⟨q, hq⟩ := choose_lt (α := ByteArray) (p := fun i e => W.cell? (ad.add i) = some (.string e) ∧ e.size ≤ maxLen) (fun i hi => by
      obtain ⟨cs', h1, h2⟩ := hx i hi
      obtain ⟨_, hlen, hcell⟩ := World.cells?_some h1
      obtain ⟨c0, rfl⟩ : ∃ c0, cs' = [c0] := by
        clear hcell h1 h2
        match cs', hlen with
        | [c0], _ => exact ⟨c0, rfl⟩
      obtain ⟨z, e0, -, hs⟩ := DataW.trod_string Tryd.underlying9 h2
      cases e0
      have h3 := hcell 0 (by omega)
      rw [add_add] at h3
      exact ⟨z, by simpa using h3, hs⟩)
    have hlen : ((List.range len).map q).length = len := by simp
    have hget : ∀ t, t < len → ((List.range len).map q)[t]! = q t := fun t ht => by
      rw [getElem!_pos _ t (by rw [hlen]; exact ht)]; simp
    refine ⟨(List.range len).map q, ⟨some ad, _, by rw [hlen], fun h => (by cases h), fun t ht => ?_⟩, by rw [hlen]; omega, fun t ht => ?_⟩
    · rw [hlen] at ht
      obtain ⟨c0, -⟩ := hq t (by omega)
      obtain ⟨b, off, spot⟩ := ad
      have hspot : spot = none := by
        have h00 := (hq 0 (by omega)).1
        simpa [Addr.add] using World.cell?_spot h00
      subst hspot
      rw [add_plain] at c0
      refine ⟨b, off, rfl, World.block_lt_of_cell? W _ c0, ?_⟩
      rw [hget t ht]
      exact c0
    · rw [hlen] at ht
      rw [hget t ht]; exact (hq t (by omega)).2

set_option maxRecDepth 100000 in
theorem texts_open {H : Type} {enc : TypeId × Value → H} {W : World} {v : Value} {d : DataW H} {p : List MemPlace} {base : Nat} {r : Go.Reach} (hv : Value.okWide Tryd.prog W r base 24 v)
    (h : DataW.Trod enc Tryd.prog W 0 (fun _ => true) true 24 v d p) : ∃ l : List ByteArray, TxtsAt W v l ∧ l.length ≤ maxLen ∧ ∀ t, t < l.length → l[t]!.size ≤ maxLen := by
  obtain ⟨fuel, hf⟩ := h
  have hsl : ∃ sa sl sc, v = .slice sa sl sc := by
    unfold Value.okWide at hv
    simp only [Tryd.underlying24] at hv
    unfold Cell.okWide at hv
    simp only [Tryd.underlying24] at hv
    rcases fuel with _ | k
    · simp [DataW.trod] at hf
    · cases v <;> simp [DataW.trod, Value.cells, Cell.ok, Tryd.underlying24] at hf hv ⊢
  obtain ⟨sa, sl, sc, rfl⟩ := hsl
  exact txts_open hf
end

end Go.Proofs.YtlkemmdcjnaepaaDoor
