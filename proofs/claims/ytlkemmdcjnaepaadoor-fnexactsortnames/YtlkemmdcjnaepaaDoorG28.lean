/- Rows of texts: how they lie; what laws.eqStringS, markStringS, heldStringS, toStringS do to them. Rows of texts: laws.sameTexts; names without ? and *: laws.plainName. -/
import Derived.Test.YtlkemmdcjnaepaaDoorRows
import Derived.Test.YtlkemmdcjnaepaaDoorG00
import Derived.Test.YtlkemmdcjnaepaaDoorG27
namespace Go.Proofs.YtlkemmdcjnaepaaDoor

section
open Go.RowKit Go.Sort

def strsV (l : List ByteArray) : List Value := l.map fun z => .string z
theorem strsV_length (l : List ByteArray) : (strsV l).length = l.length := by simp [strsV]
theorem strsV_append (l m : List ByteArray) : strsV (l ++ m) = strsV l ++ strsV m := by simp [strsV]
theorem strsV_get (l : List ByteArray) (t : Nat) (h : t < l.length) : (strsV l)[t]? = some (.string l[t]!) := by
  rw [getElem!_pos l t h]; simp [strsV, h]
theorem strsV_set (l : List ByteArray) (t : Nat) (x : ByteArray) : (strsV l).set t (.string x) = strsV (l.set t x) := by simp [strsV, List.map_set]

/-- the slice v reads as the texts l -/
def TxtsAt (w : World) (v : Value) (l : List ByteArray) : Prop :=
  ∃ a cap, v = .slice a l.length cap ∧ (a = none → cap = 0) ∧ ∀ t, t < l.length → ∃ b off, a = some ⟨b, off, none⟩ ∧ b < w.heap.size ∧ w.cell? ⟨b, off + t, none⟩ = some (.string l[t]!)

/-- the slice v is a row of texts that lies from block base on and is the call's own -/
def TxtRow (w : World) (base : Nat) (v : Value) (l : List ByteArray) : Prop := w.ownsRow base 9 1 v l.length (strsV l)

theorem TxtRow.at {w : World} {base : Nat} {v : Value} {l : List ByteArray} (h : TxtRow w base v l) : TxtsAt w v l := by
  rcases h.2 with ⟨rfl, h0⟩ | ⟨g, cap, cur, rfl, hg, hh, hnc, hcp, hcs, htake⟩
  · exact ⟨none, 0, by rw [h0], fun _ => rfl, fun t ht => by omega⟩
  · refine ⟨some ⟨g, 0, none⟩, cap, rfl, fun h => (by cases h), fun t ht => ⟨g, 0, rfl, lt_of_block hh, ?_⟩⟩
    rw [Nat.zero_add, World.ownsRow.cellAt h t (by omega)]
    exact strsV_get l t ht

theorem TxtsAt.below {w w' : World} {v : Value} {l : List ByteArray} (h : TxtsAt w v l) (b : Below w.heap.size w w') : TxtsAt w' v l := by
  obtain ⟨a, cap, rfl, hn, hc⟩ := h
  refine ⟨a, cap, rfl, hn, fun t ht => ?_⟩
  obtain ⟨bb, off, h1, h2, h3⟩ := hc t ht
  exact ⟨bb, off, h1, Nat.lt_of_lt_of_le h2 b.size, (b.cell (p := ⟨bb, off + t, none⟩) h2).trans h3⟩

theorem TxtRow.below {w w' : World} {base : Nat} {v : Value} {l : List ByteArray} (h : TxtRow w base v l) (b : Below w.heap.size w w') : TxtRow w' base v l := own_below h b
theorem TxtRow.mono {w : World} {base base' : Nat} {v : Value} {l : List ByteArray} (h : TxtRow w base v l) (hb : base' ≤ base) : TxtRow w base' v l :=
  ⟨h.1, by
    rcases h.2 with h0 | ⟨g, cap, cur, e, hg, r⟩
    · exact .inl h0
    · exact .inr ⟨g, cap, cur, e, Nat.le_trans hb hg, r⟩⟩

theorem strs_ext (l m : List ByteArray) (hl : l.length = m.length) (h : ∀ t, t < l.length → l[t]! = m[t]!) : l = m := by
  apply List.ext_getElem hl
  intro t h1 h2
  have := h t h1
  rwa [getElem!_pos l t h1, getElem!_pos m t h2] at this
theorem text_beq (x y : ByteArray) : (x.toList == y.toList) = decide (x = y) := by
  by_cases e : x = y
  · simp [e]
  · rw [decide_eq_false e, beq_eq_false_iff_ne]
    exact fun h => e (list_ext (by simpa [ByteArray.toList_eq] using h))

theorem Tryd.infoTxt : (Tryd.prog.info? 9).map (fun i => (i.zero, i.size, i.bytes)) = some (some (.string ⟨#[]⟩), 1, 16) := by kernel_rfl

set_option maxRecDepth 100000 in
set_option maxHeartbeats 1000000 in
theorem eqStringS_any (v u : Value) (l m : List ByteArray) (w : World) (hl : l.length ≤ 9223372036854775807) (hv : TxtsAt w v l) (hu : TxtsAt w u m) :
    Calls Tryd.prog 29 #[v, u] w fun e w' => e = .returned (.bool (decide (l = m))) ∧ Below w.heap.size w w' := by
  obtain ⟨a, ca, rfl, -, hva⟩ := hv
  obtain ⟨b, cb, rfl, -, hub⟩ := hu
  by_cases hlen : l.length = m.length
  · have hlen' : (l.length : Int) = (m.length : Int) := by omega
    obtain ⟨n, HN⟩ : ∃ n, Hid (n = m.length) := ⟨_, rfl⟩
    rw [hlen] at hva hl ⊢
    rw [← HN.out] at hva hub hl ⊢
    have HEND : Hid ((∀ t, t < n → l[t]! = m[t]!) → decide (l = m) = true) := fun h => decide_eq_true (strs_ext l m hlen fun t ht => h t (by rw [HN.out]; omega))
    have HNO : Hid (∀ k : Nat, ¬ l[k]! = m[k]! → decide (l = m) = false) := fun k h => decide_eq_false fun e => h (by rw [e])
    generalize decide (l = m) = r at HEND HNO ⊢
    go_enter Tryd.func29, Tryd.ntmps29
    go_wp2
    go_loopw [5] (fun i wr => ∃ k : Nat, k ≤ n ∧ i = .int .i64 k ∧ Hid (∀ t, t < k → l[t]! = m[t]!) ∧ Below w.heap.size w wr) (fun i _ => n - (intOf i).toNat)
    case atStart => exact ⟨0, Nat.zero_le _, rfl, fun t ht => by omega, Below.refl _ _⟩
    case round =>
      obtain ⟨k, hk, rfl, HEQ, hbel⟩ := hrel
      by_cases hlt : k < n
      · obtain ⟨b1, o1, rfl, hb1, hc1⟩ := hva k hlt
        obtain ⟨b2, o2, rfl, hb2, hc2⟩ := hub k hlt
        have hc1' := (hbel.cell (p := ⟨b1, o1 + k, none⟩) hb1).trans hc1
        have hc2' := (hbel.cell (p := ⟨b2, o2 + k, none⟩) hb2).trans hc2
        have HX : Hid (l[k]! = m[k]! → ∀ t, t < k + 1 → l[t]! = m[t]!) := fun h t ht => by
          by_cases e : t = k
          · rw [e]; exact h
          · exact HEQ.out t (by omega)
        have HNK := HNO.out k
        generalize l[k]! = x at hc1' HX HNK
        generalize m[k]! = y at hc2' HX HNK
        have HNK : Hid _ := HNK
        have hkn : (k : Int) < (n : Int) := by omega
        have hk0 : (0 : Int) ≤ (k : Int) := by omega
        clear hc1 hc2 hva hub
        by_cases hxy : x = y
        · have hf : (x.toList == y.toList) = true := by simp [hxy]
          have HX' : Hid _ := HX.out hxy
          clear HX hxy
          go_wp2
          go_quiet (fail)
          go_wp2
          go_roundw
          case rel => exact ⟨k + 1, by omega, by go_num, HX', below_drewN hbel _⟩
          case measure => simp [intOf]; omega
        · have hf : (x.toList == y.toList) = false := by rw [text_beq]; exact decide_eq_false hxy
          have hr : Hid (r = false) := HNK.out hxy
          clear HX hxy HNK
          go_wp2
          go_quiet (fail)
          go_wp2
          go_ret
          exact ⟨ret_bool hr.out.symm, below_drewN hbel _⟩
      · obtain rfl : k = n := by omega
        have hr : Hid (r = true) := HEND.out HEQ.out
        go_wp2
        go_ret
        exact ⟨ret_bool hr.out.symm, hbel⟩
  · have hne : ((l.length : Int) != (m.length : Int)) = true := by simp; omega
    have hneq : ¬ l = m := fun e => hlen (by rw [e])
    rw [decide_eq_false hneq]
    go_enter Tryd.func29, Tryd.ntmps29
    go_wp2
    go_ret
    exact ⟨rfl, Below.refl _ _⟩

/-- the texts of the numbers from k on -/
def marksT (k n : Nat) : List ByteArray := (List.range n).map fun t => mkT (k + t)
theorem marksT_len (k n : Nat) : (marksT k n).length = n := by simp [marksT]
theorem marksT_get (k n t : Nat) (h : t < n) : (marksT k n)[t]! = mkT (k + t) := by
  rw [getElem!_pos _ _ (by rw [marksT_len]; exact h)]; simp [marksT]
/-- the first j of them marked -/
def markdT (k j : Nat) (l : List ByteArray) : List ByteArray := (List.range l.length).map fun t => if t < j then mkT (k + t) else l[t]!
theorem markdT_len (k j : Nat) (l : List ByteArray) : (markdT k j l).length = l.length := by simp [markdT]
theorem markdT_zero (k : Nat) (l : List ByteArray) : markdT k 0 l = l := by
  apply strs_ext _ _ (markdT_len _ _ _)
  intro t ht
  have hl : t < l.length := by rw [markdT_len] at ht; exact ht
  rw [getElem!_pos (markdT k 0 l) t ht]; simp [markdT]
theorem markdT_all (k : Nat) (l : List ByteArray) : markdT k l.length l = marksT k l.length := by
  unfold markdT marksT
  apply List.map_congr_left
  intro t ht
  rw [if_pos (List.mem_range.1 ht)]
theorem markdT_step (k j : Nat) (l : List ByteArray) : (markdT k j l).set j (mkT (k + j)) = markdT k (j + 1) l := by
  apply List.ext_getElem (by simp [markdT])
  intro t h1 h2
  rw [List.getElem_set]
  simp only [markdT, List.getElem_map, List.getElem_range]
  by_cases e : j = t
  · subst e; simp
  · rw [if_neg e]
    by_cases h3 : t < j
    · rw [if_pos h3, if_pos (by omega)]
    · rw [if_neg h3, if_neg (by omega)]

set_option maxRecDepth 100000 in
set_option maxHeartbeats 1000000 in
theorem markStringS_any (v : Value) (l : List ByteArray) (k : Nat) (base : Nat) (w : World) (hv : TxtRow w base v l) (hl : l.length ≤ 1048577) (hk0 : 0 < k) (hk1 : k ≤ 100000000) :
    Calls Tryd.prog 30 #[v, .int .i64 k] w fun e w' => e = .returned (.int .i64 ((k + l.length : Nat) : Int)) ∧ TxtRow w' base v (marksT k l.length) ∧ w.grownBy w' v.ownBlock := by
  rcases hv.2 with ⟨rfl, h0⟩ | ⟨g, cap, cur, rfl, hg, hh, hnc, hcp, hcs, htake⟩
  · obtain rfl : l = [] := List.length_eq_zero_iff.1 h0
    go_enter Tryd.func30, Tryd.ntmps30
    go_wp2
    refine wp_loop_rounds 1 ?_
    rw [rounds_succ]
    go_wp2
    go_ret
    exact ⟨by simp, hv, ⟨rfl, rfl, rfl, Nat.le_refl _, fun _ _ _ => rfl⟩⟩
  · obtain ⟨n, HN⟩ : ∃ n, Hid (n = l.length) := ⟨_, rfl⟩
    have hv1 : w.ownsRow base 9 1 (.slice (some ⟨g, 0, none⟩) n cap) n (strsV (markdT k 0 l)) := by
      rw [markdT_zero, HN.out]; exact hv
    have HM : Hid (∀ j, (strsV (markdT k j l)).set j (.string (mkT (k + j))) = strsV (markdT k (j + 1) l)) := fun j => by rw [strsV_set, markdT_step]
    have HE : Hid (markdT k n l = marksT k l.length) := by show _ = _; rw [HN.out]; exact markdT_all k l
    clear hv hh hcs htake
    rw [← HN.out] at hl hnc ⊢
    go_enter Tryd.func30, Tryd.ntmps30
    go_wp2
    go_loopw [1, 5] (fun q i wr => ∃ (j m : Nat), j ≤ n ∧ i = .int .i64 j ∧ q = .int .i64 m ∧ Hid (m = k + j) ∧ wr.ownsRow base 9 1 (.slice (some ⟨g, 0, none⟩) n cap) n (strsV (markdT k j l)) ∧ w.grownBy wr (some g)) (fun _ i _ => n - (intOf i).toNat)
    case atStart => exact ⟨0, k, Nat.zero_le _, rfl, rfl, rfl, hv1, ⟨rfl, rfl, rfl, Nat.le_refl _, fun _ _ _ => rfl⟩⟩
    case round =>
      obtain ⟨j, m, hj, rfl, rfl, HMM, hown, hgb⟩ := hrel
      have hm0 : 0 < m := by have := HMM.out; omega
      have hm1 : m ≤ 200000000 := by have := HMM.out; omega
      by_cases hlt : j < n
      · have HP : Hid (∀ w3, Below wr.heap.size wr w3 → ((w3.setCell ⟨g, j, none⟩ (.string (mkT m))).ownsRow base 9 1 (.slice (some ⟨g, 0, none⟩) n cap) n (strsV (markdT k (j + 1) l))) ∧ (∃ u, w3.cell? ⟨g, j, none⟩ = some u) ∧ w3.frozen? ⟨g, j, none⟩ = false) := fun w3 hb => by
          have h3 := own_below hown hb
          refine ⟨?_, ⟨_, (h3.cellAt j (by omega)).trans (List.getElem?_eq_getElem (by have := h3.1; omega))⟩, h3.frozenAt j⟩
          rw [← HM.out j, ← HMM.out]
          exact (h3.stored j _).1
        have HT := fun w' => markText_any m w' hm0 (by omega)
        clear hown
        go_wp2_with (go_at_call 52; refine (HT _).mono ?_; rintro e w3 ⟨rfl, b3⟩; obtain ⟨h3, ⟨u2, d2⟩, f2⟩ := HP.out w3 b3; have HS : Hid _ := h3; clear h3)
        go_roundw
        case rel => exact ⟨j + 1, m + 1, by omega, by go_num, by go_num, by show m + 1 = _; rw [HMM.out]; omega, HS.out, gbi_trans (gbi_trans hgb (gb_belowE b3)) (gbi_set _ _ _ _)⟩
        case measure => simp [intOf]; omega
      · obtain rfl : n = j := by omega
        rw [HE.out] at hown
        go_wp2
        go_ret
        refine ⟨by rw [HMM.out]; rfl, ?_, hgb⟩
        rw [← HN.out] at hown
        unfold TxtRow
        rw [marksT_len]
        exact hown

set_option maxRecDepth 100000 in
set_option maxHeartbeats 1000000 in
theorem heldStringS_marks (v : Value) (n k : Nat) (w : World) (hn : n ≤ 1048577) (hk0 : 0 < k) (hk1 : k ≤ 100000000) (hv : TxtsAt w v (marksT k n)) :
    Calls Tryd.prog 31 #[v, .int .i64 k] w fun e w' => e = .returned (.int .i64 ((k + n : Nat) : Int)) ∧ Below w.heap.size w w' := by
  obtain ⟨a, cap, rfl, -, hva⟩ := hv
  rw [marksT_len] at hva ⊢
  have HV : Hid (∀ t, t < n → ∃ b off, a = some ⟨b, off, none⟩ ∧ b < w.heap.size ∧ w.cell? ⟨b, off + t, none⟩ = some (.string (mkT (k + t)))) := fun t ht => by
    obtain ⟨b, off, h1, h2, h3⟩ := hva t ht
    rw [marksT_get k n t ht] at h3
    exact ⟨b, off, h1, h2, h3⟩
  clear hva
  go_enter Tryd.func31, Tryd.ntmps31
  go_wp2
  go_loopw [1, 5] (fun q i wr => ∃ (j m : Nat), j ≤ n ∧ i = .int .i64 j ∧ q = .int .i64 m ∧ Hid (m = k + j) ∧ Below w.heap.size w wr) (fun _ i _ => n - (intOf i).toNat)
  case atStart => exact ⟨0, k, Nat.zero_le _, rfl, rfl, rfl, Below.refl _ _⟩
  case round =>
    obtain ⟨j, m, hj, rfl, rfl, HMM, hbel⟩ := hrel
    have hm0 : 0 < m := by have := HMM.out; omega
    have hm1 : m ≤ 200000000 := by have := HMM.out; omega
    by_cases hlt : j < n
    · obtain ⟨b, off, rfl, hb, hc⟩ := HV.out j hlt
      rw [← HMM.out] at hc
      have hc1 := (hbel.cell (p := ⟨b, off + j, none⟩) hb).trans hc
      have HT : ∀ (dd : Nat) (os : Array Obj), Calls Tryd.prog 52 #[.int .i64 (m : Int)] (grow (redrawn wr dd) os) fun e w'' => e = .returned (.string (mkT m)) ∧ ∃ p : Regrown, w'' = grow (redrawn wr p.d) p.os := fun dd os => Calls.regrown_of (markText_any m _ hm0 (by omega))
      have q2 := cell_regrown hc1
      generalize mkT m = tx at hc1 q2 HT
      have hj0 : (0 : Int) ≤ (j : Int) := by omega
      have hjn : (j : Int) < (n : Int) := by omega
      clear hc
      go_wp2
      refine wp_region_quiet_below (by kernel_rfl) (by kernel_rfl) ?_
      repeat (go_big_quiet_step (exact HT _ _))
      refine wpQuiet_nil ?_
      rintro w' ⟨⟨dq, osq⟩, rfl⟩
      have hbq := below_regrown wr dq osq
      generalize grow (redrawn wr dq) osq = w3 at hbq ⊢
      go_wp2
      go_roundw
      case rel => exact ⟨j + 1, m + 1, by omega, by go_num, by go_num, by show m + 1 = _; rw [HMM.out]; omega, hbel.trans (hbq.mono hbel.size)⟩
      case measure => simp [intOf]; omega
    · obtain rfl : n = j := by omega
      go_wp2
      go_ret
      exact ⟨by rw [HMM.out]; rfl, hbel⟩

/-- the first j of l, then empty ones -/
def fillT (j : Nat) (l : List ByteArray) : List ByteArray := (List.range l.length).map fun t => if t < j then l[t]! else ⟨#[]⟩
theorem fillT_len (j : Nat) (l : List ByteArray) : (fillT j l).length = l.length := by simp [fillT]
theorem fillT_zero (l : List ByteArray) : fillT 0 l = List.replicate l.length ⟨#[]⟩ := by
  apply List.ext_getElem (by simp [fillT])
  intro t h1 h2
  simp [fillT]
theorem fillT_all (l : List ByteArray) : fillT l.length l = l := by
  apply List.ext_getElem (by simp [fillT])
  intro t h1 h2
  simp only [fillT, List.getElem_map, List.getElem_range]
  rw [if_pos h2, getElem!_pos l t h2]
theorem fillT_step (j : Nat) (l : List ByteArray) : (fillT j l).set j l[j]! = fillT (j + 1) l := by
  apply List.ext_getElem (by simp [fillT])
  intro t h1 h2
  rw [List.getElem_set]
  simp only [fillT, List.getElem_map, List.getElem_range]
  by_cases e : j = t
  · subst e; simp
  · rw [if_neg e]
    by_cases h3 : t < j
    · rw [if_pos h3, if_pos (by omega)]
    · rw [if_neg h3, if_neg (by omega)]
theorem made_strs (n : Nat) : (madeCells #[.string ⟨#[]⟩] (n * 1)).toList = strsV (List.replicate n ⟨#[]⟩) := by
  rw [toList_madeCells_one]; simp [strsV]

set_option maxRecDepth 100000 in
set_option maxHeartbeats 1000000 in
theorem toStringS_any (v : Value) (l : List ByteArray) (w : World) (hl : l.length ≤ 1048576) (hv : TxtsAt w v l) :
    Calls Tryd.prog 28 #[v] w fun e w' => ∃ u, e = .returned u ∧ TxtRow w' w.heap.size u l ∧ Below w.heap.size w w' := by
  obtain ⟨a, ca, rfl, -, hva⟩ := hv
  obtain ⟨n, HN⟩ : ∃ n, Hid (n = l.length) := ⟨_, rfl⟩
  have HM : Hid (∀ j, (strsV (fillT j l)).set j (.string l[j]!) = strsV (fillT (j + 1) l)) := fun j => by rw [strsV_set, fillT_step]
  have HE : Hid (fillT n l = l) := by show _ = _; rw [HN.out]; exact fillT_all l
  have HZ : Hid (strsV (fillT 0 l) = strsV (List.replicate n ⟨#[]⟩)) := by show _ = _; rw [HN.out, fillT_zero]
  have HR : Hid (∀ w' u, TxtRow w' w.heap.size u l = w'.ownsRow w.heap.size 9 1 u n (strsV l)) := fun _ _ => by rw [HN.out]; rfl
  rw [← HN.out] at hva hl ⊢
  obtain ⟨i0, hi, hz0, hz1, hz2⟩ := info_parts Tryd.infoTxt
  go_enter Tryd.func28, Tryd.ntmps28
  go_wp2_with (at_make; refine wpList_make_full _ rfl _ _ 24 rfl w.heap.size 9 i0 (.string ⟨#[]⟩) 1 Tryd.underlying24 hi hz0 hz1 .i64 .i64 _ _ n rfl rfl rfl rfl (by rw [hz2]; omega) (by unfold maxLen; omega) (Nat.le_refl _) ?_; intro w1 hown1 hgrow1)
  have hown2 : w1.ownsRow w.heap.size 9 1 (.slice (some ⟨w.heap.size, 0, none⟩) n n) n (strsV (fillT 0 l)) := by
    rw [HZ.out, ← made_strs]; simpa [Value.cells] using hown1
  have hbel2 : Below w.heap.size w w1 := (Below.refl _ _).grown hgrow1 (Nat.le_refl _) (fun _ h => by cases h)
  clear hown1 hgrow1
  go_wp2
  go_loopw [4] (fun i wr => ∃ k : Nat, k ≤ n ∧ i = .int .i64 k ∧ wr.ownsRow w.heap.size 9 1 (.slice (some ⟨w.heap.size, 0, none⟩) n n) n (strsV (fillT k l)) ∧ Below w.heap.size w wr) (fun i _ => n - (intOf i).toNat)
  case atStart => exact ⟨0, Nat.zero_le _, rfl, hown2, hbel2⟩
  case round =>
    obtain ⟨k, hk, rfl, hown, hbel⟩ := hrel
    by_cases hlt : k < n
    · have hfz := hown.frozenAt k
      obtain ⟨u, hcl⟩ : ∃ u, wr.cell? ⟨w.heap.size, k, none⟩ = some u := ⟨_, (hown.cellAt k (by omega)).trans (List.getElem?_eq_getElem (by have := hown.1; omega))⟩
      obtain ⟨b1, o1, rfl, hb1, hc1⟩ := hva k hlt
      have hc1' := (hbel.cell (p := ⟨b1, o1 + k, none⟩) hb1).trans hc1
      have hst := (hown.stored k (.string l[k]!)).1
      rw [HM.out k] at hst
      generalize l[k]! = x at hc1' hst
      have HS : Hid ((wr.setCell ⟨w.heap.size, k, none⟩ (.string x)).ownsRow w.heap.size 9 1 (.slice (some ⟨w.heap.size, 0, none⟩) n n) n (strsV (fillT (k + 1) l))) := hst
      clear hst hc1
      go_wp2
      go_roundw
      case rel => exact ⟨k + 1, by omega, by go_num, HS.out, hbel.setCell (Nat.le_refl _) _⟩
      case measure => simp [intOf]; omega
    · obtain rfl : k = n := by omega
      rw [HE.out] at hown
      go_wp2
      go_ret
      exact ⟨_, rfl, by rw [HR.out]; exact hown, hbel⟩
end

section
open Go.RowKit Go.Sort

set_option maxRecDepth 100000 in
set_option maxHeartbeats 1000000 in
theorem sameTexts_any (v u : Value) (l m : List ByteArray) (w : World) (hl : l.length ≤ 9223372036854775807) (hv : TxtsAt w v l) (hu : TxtsAt w u m) :
    Calls Tryd.prog 12 #[v, u] w fun e w' => e = .returned (.bool (decide (l = m))) ∧ Below w.heap.size w w' := by
  obtain ⟨a, ca, rfl, -, hva⟩ := hv
  obtain ⟨b, cb, rfl, -, hub⟩ := hu
  by_cases hlen : l.length = m.length
  · have hlen' : (l.length : Int) = (m.length : Int) := by omega
    obtain ⟨n, HN⟩ : ∃ n, Hid (n = m.length) := ⟨_, rfl⟩
    rw [hlen] at hva hl ⊢
    rw [← HN.out] at hva hub hl ⊢
    have HEND : Hid ((∀ t, t < n → l[t]! = m[t]!) → decide (l = m) = true) := fun h => decide_eq_true (strs_ext l m hlen fun t ht => h t (by rw [HN.out]; omega))
    have HNO : Hid (∀ k : Nat, ¬ l[k]! = m[k]! → decide (l = m) = false) := fun k h => decide_eq_false fun e => h (by rw [e])
    generalize decide (l = m) = r at HEND HNO ⊢
    go_enter Tryd.func12, Tryd.ntmps12
    go_wp2
    go_loopw [5] (fun i wr => ∃ k : Nat, k ≤ n ∧ i = .int .i64 k ∧ Hid (∀ t, t < k → l[t]! = m[t]!) ∧ Below w.heap.size w wr) (fun i _ => n - (intOf i).toNat)
    case atStart => exact ⟨0, Nat.zero_le _, rfl, fun t ht => by omega, Below.refl _ _⟩
    case round =>
      obtain ⟨k, hk, rfl, HEQ, hbel⟩ := hrel
      by_cases hlt : k < n
      · obtain ⟨b1, o1, rfl, hb1, hc1⟩ := hva k hlt
        obtain ⟨b2, o2, rfl, hb2, hc2⟩ := hub k hlt
        have hc1' := (hbel.cell (p := ⟨b1, o1 + k, none⟩) hb1).trans hc1
        have hc2' := (hbel.cell (p := ⟨b2, o2 + k, none⟩) hb2).trans hc2
        have HX : Hid (l[k]! = m[k]! → ∀ t, t < k + 1 → l[t]! = m[t]!) := fun h t ht => by
          by_cases e : t = k
          · rw [e]; exact h
          · exact HEQ.out t (by omega)
        have HNK := HNO.out k
        generalize l[k]! = x at hc1' HX HNK
        generalize m[k]! = y at hc2' HX HNK
        have HNK : Hid _ := HNK
        have hkn : (k : Int) < (n : Int) := by omega
        have hk0 : (0 : Int) ≤ (k : Int) := by omega
        clear hc1 hc2 hva hub
        by_cases hxy : x = y
        · have hf : (x.toList == y.toList) = true := by simp [hxy]
          have HX' : Hid _ := HX.out hxy
          clear HX hxy
          go_wp2
          go_quiet (fail)
          go_wp2
          go_roundw
          case rel => exact ⟨k + 1, by omega, by go_num, HX', below_drewN hbel _⟩
          case measure => simp [intOf]; omega
        · have hf : (x.toList == y.toList) = false := by rw [text_beq]; exact decide_eq_false hxy
          have hr : Hid (r = false) := HNK.out hxy
          clear HX hxy HNK
          go_wp2
          go_quiet (fail)
          go_wp2
          go_ret
          exact ⟨ret_bool hr.out.symm, below_drewN hbel _⟩
      · obtain rfl : k = n := by omega
        have hr : Hid (r = true) := HEND.out HEQ.out
        go_wp2
        go_ret
        exact ⟨ret_bool hr.out.symm, hbel⟩
  · have hne : ((l.length : Int) != (m.length : Int)) = true := by simp; omega
    have hneq : ¬ l = m := fun e => hlen (by rw [e])
    rw [decide_eq_false hneq]
    go_enter Tryd.func12, Tryd.ntmps12
    go_wp2
    go_ret
    exact ⟨rfl, Below.refl _ _⟩


/-- no byte of it is * or ? -/
def plainB (s : ByteArray) : Bool := s.data.toList.all fun x => x != 42 && x != 63
theorem plainB_iff (s : ByteArray) : plainB s = true ↔ ∀ x ∈ s.data.toList, x ≠ 42 ∧ x ≠ 63 := by
  unfold plainB
  rw [List.all_eq_true]
  simp
theorem plainB_no {s : ByteArray} {k : Nat} (hk : k < s.size) (h : s[k].toNat = 42 ∨ s[k].toNat = 63) : plainB s = false := by
  cases hp : plainB s with
  | false => rfl
  | true =>
    have := (plainB_iff s).1 hp s[k] (by show s.data[k] ∈ _; exact Array.getElem_mem_toList hk)
    rcases h with h | h
    · exact absurd (UInt8.toNat_inj.1 (by rw [h]; rfl)) this.1
    · exact absurd (UInt8.toNat_inj.1 (by rw [h]; rfl)) this.2
theorem plainB_yes {s : ByteArray} (h : ∀ k (hk : k < s.size), s[k].toNat ≠ 42 ∧ s[k].toNat ≠ 63) : plainB s = true := by
  rw [plainB_iff]
  intro x hx
  obtain ⟨k, hk, rfl⟩ := List.getElem_of_mem hx
  have hk' : k < s.size := by simpa using hk
  have := h k hk'
  have e : s[k] = s.data.toList[k] := by show s.data[k] = _; simp
  rw [← e]
  exact ⟨fun h1 => this.1 (by rw [h1]; rfl), fun h1 => this.2 (by rw [h1]; rfl)⟩
set_option maxRecDepth 100000 in
set_option maxHeartbeats 800000 in
theorem plainName_any (s : ByteArray) (w : World) (hs : s.size ≤ 1099511627776) :
    Calls Tryd.prog 23 #[.string s] w fun e w' => e = .returned (.bool (plainB s)) ∧ Below w.heap.size w w' := by
  have HNO : Hid (∀ k (hk : k < s.size), (s[k].toNat = 42 ∨ s[k].toNat = 63) → plainB s = false) := fun k hk h => plainB_no hk h
  have HYE : Hid ((∀ k (hk : k < s.size), s[k].toNat ≠ 42 ∧ s[k].toNat ≠ 63) → plainB s = true) := plainB_yes
  generalize plainB s = r at HNO HYE ⊢
  go_enter Tryd.func23, Tryd.ntmps23
  go_wp2
  go_loopw [3] (fun i wr => ∃ k : Nat, k ≤ s.size ∧ i = .int .i64 k ∧ Hid (∀ t (ht : t < s.size), t < k → s[t].toNat ≠ 42 ∧ s[t].toNat ≠ 63) ∧ Below w.heap.size w wr) (fun i _ => s.size - (intOf i).toNat)
  case atStart => exact ⟨0, Nat.zero_le _, rfl, fun t _ ht => by omega, Below.refl _ _⟩
  case round =>
    obtain ⟨k, hk, rfl, HP, hbel⟩ := hrel
    by_cases hlt : k < s.size
    · have HN1 := HNO.out k hlt
      have HP1 : Hid (s[k].toNat ≠ 42 ∧ s[k].toNat ≠ 63 → ∀ t (ht : t < s.size), t < k + 1 → s[t].toNat ≠ 42 ∧ s[t].toNat ≠ 63) := fun h t ht htk => by
        by_cases e : t = k
        · subst e; exact h
        · exact HP.out t ht (by omega)
      have hc := s[k].toNat_lt
      by_cases h1 : s[k].toNat = 42
      · have hr := HN1 (.inl h1)
        have HR : Hid (r = false) := hr
        have hb1 : ((s[k].toNat : Int) == 42) = true := by simp [h1]
        clear HN1 HP1 HP HNO HYE hr h1
        go_wp2
        go_ret
        exact ⟨by rw [HR.out]; rfl, hbel⟩
      · have hb1 : ((s[k].toNat : Int) == 42) = false := by simp; omega
        by_cases h2 : s[k].toNat = 63
        · have hr := HN1 (.inr h2)
          have HR : Hid (r = false) := hr
          have hb2 : ((s[k].toNat : Int) == 63) = true := by simp [h2]
          clear HN1 HP1 HP HNO HYE hr h1 h2
          go_wp2
          go_ret
          exact ⟨by rw [HR.out]; rfl, hbel⟩
        · have hb2 : ((s[k].toNat : Int) == 63) = false := by simp; omega
          have HQ : Hid (∀ t (ht : t < s.size), t < k + 1 → s[t].toNat ≠ 42 ∧ s[t].toNat ≠ 63) := HP1.out ⟨h1, h2⟩
          clear HN1 HP1 HP HNO HYE h1 h2
          go_wp2
          go_roundw
          case rel => exact ⟨k + 1, by omega, by go_num, HQ, hbel⟩
          case measure => simp [intOf]; omega
    · have hr : r = true := HYE.out fun t ht => HP.out t ht (by omega)
      clear HNO HYE HP
      go_wp2
      go_ret
      exact ⟨by rw [hr]; rfl, hbel⟩
end

end Go.Proofs.YtlkemmdcjnaepaaDoor
