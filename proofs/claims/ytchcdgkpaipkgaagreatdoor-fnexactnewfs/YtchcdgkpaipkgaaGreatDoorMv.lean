/- Directories: the program's own small functions: ids, places, the first one that fits, what stands there. Directories: impl.firstOf, firstBehind, firstAlike, entAt: what they answer. Directories: rows of texts, slices.Contains of them; impl.entOk, leastIndex: what they answer. Directories: impl.leastIndex: what it answers. -/
import Derived.Test.YtchcdgkpaipkgaaGreatDoorRows
import Derived.Test.YtchcdgkpaipkgaaGreatDoorMr
import Derived.Test.YtchcdgkpaipkgaaGreatDoorMm
import Derived.Lib.QuietBelow
import Derived.BigQuiet
import Derived.Shelf.Abstract
import Derived.OwnWalk
import Derived.Laws.StructEq
namespace Go.Proofs.YtchcdgkpaipkgaaGreatDoor

section
open Go.RowKit Go.Sort

set_option maxRecDepth 100000 in
theorem idOk_any (id : Int) (w : World) :
    Calls Tryz.prog 70 #[.int .i64 id] w fun e w' => e = .returned (.bool (idB id)) ∧ w = w' := by
  have H := btw_any id 1 100000 w
  have HB : Hid (idB id = inB id 1 100000) := rfl
  generalize inB id 1 100000 = q at H HB
  go_enter Tryz.func70, Tryz.ntmps70
  go_wp2_with (go_at_call 54; refine H.mono ?_; rintro e w1 ⟨rfl, rfl⟩)
  go_ret
  exact ⟨ret_bool HB.out.symm, rfl⟩

theorem put_two (w : World) (g : Nat) (T : TypeId) (a0 a1 x0 x1 : Value) (h : w.heap[g]? = some (.cells #[a0, a1] T (0, 0))) :
    ((w.setCell ⟨g, 0, none⟩ x0).setCell ⟨g, 1, none⟩ x1).heap[g]? = some (.cells #[x0, x1] T (0, 0)) := by
  have h1 := Go.heap_setCell_same w g 0 _ _ x0 h
  exact Go.heap_setCell_same _ g 1 _ _ x1 h1

set_option maxRecDepth 100000 in
set_option maxHeartbeats 1000000 in
theorem placeOf_any (e : En) (w : World) :
    Calls Tryz.prog 62 #[.agg #[.int .i64 e.hash, .int .i64 e.index, .string e.name, .int .i64 e.id]] w fun x w' => x = .returned (.agg #[.int .i64 e.hash, .int .i64 e.index]) ∧ Below w.heap.size w w' := by
  obtain ⟨a, b, c, d⟩ := e
  dsimp only
  have hb := below_lit w (.cells #[.int .i64 a, .int .i64 b, .string c, .int .i64 d] 66)
  have HB : Hid _ := hb.alloc hb.size (.cells #[.int .i64 a, .int .i64 b] 90)
  have HE : Hid (((w.alloc (.cells #[.int .i64 a, .int .i64 b, .string c, .int .i64 d] 66)).alloc (.cells #[.int .i64 a, .int .i64 b] 90)).heap[w.heap.size + 1]? = some (.cells #[.int .i64 a, .int .i64 b] 90 (0, 0))) := by
    have := heap_alloc_new (w.alloc (.cells #[.int .i64 a, .int .i64 b, .string c, .int .i64 d] 66)) (.cells #[.int .i64 a, .int .i64 b] 90)
    rwa [hs_alloc] at this
  clear hb
  go_enter Tryz.func62, Tryz.ntmps62
  go_wp2
  exact bodyPost_ret (results_cell_row rfl _ _ (w.heap.size + 1) 90 #[.int .i64 a, .int .i64 b] (0, 0) _ rfl HE.out Tryz.underlying90 rfl (by kernel_rfl)) rfl ⟨rfl, HB.out⟩

def aheadB (a b h k : Int) : Bool := decide (a < h) || (decide (a = h) && decide (b < k))
theorem ahead_less (e : En) (h k : Int) : aheadB e.hash e.index h k = lessB e h k := rfl
theorem ahead_beh (e : En) (h k : Int) : aheadB h k e.hash e.index = behB e h k := by
  rw [Bool.eq_iff_iff, behB_iff]
  unfold aheadB
  simp only [Bool.or_eq_true, Bool.and_eq_true, decide_eq_true_eq]
  omega

set_option maxRecDepth 100000 in
set_option maxHeartbeats 1000000 in
theorem ahead_any (a b h k : Int) (w : World) :
    Calls Tryz.prog 63 #[.agg #[.int .i64 a, .int .i64 b], .agg #[.int .i64 h, .int .i64 k]] w fun x w' => x = .returned (.bool (aheadB a b h k)) ∧ Below w.heap.size w w' := by
  have HR : Hid (aheadB a b h k = (decide (a < h) || (decide (a = h) && decide (b < k)))) := rfl
  generalize aheadB a b h k = r at HR ⊢
  have hb := below_lit w (.cells #[.int .i64 a, .int .i64 b] 90)
  have HB : Hid _ := hb.alloc hb.size (.cells #[.int .i64 h, .int .i64 k] 90)
  clear hb
  by_cases h1 : a < h
  · go_enter Tryz.func63, Tryz.ntmps63
    go_wp2
    go_ret
    exact ⟨by rw [HR.out]; simp [h1], HB.out⟩
  · by_cases h2 : a = h
    · have h2' : (a == h) = true := by simp [h2]
      have HRR : Hid (r = decide (b < k)) := by show _ = _; rw [HR.out]; simp [h2]
      clear h2
      go_enter Tryz.func63, Tryz.ntmps63
      go_wp2
      go_ret
      exact ⟨by rw [HRR.out]; rfl, HB.out⟩
    · have h2' : (a == h) = false := by simp [h2]
      go_enter Tryz.func63, Tryz.ntmps63
      go_wp2
      go_ret
      exact ⟨by rw [HR.out]; simp [h1, h2], HB.out⟩

theorem plI_any (e : En) (w : World) (d : Nat) (os : Array Obj) :
    Calls Tryz.prog 62 #[.agg #[.int .i64 e.hash, .int .i64 e.index, .string e.name, .int .i64 e.id]] (grow (redrawn w d) os) fun x w'' => x = .returned (.agg #[.int .i64 e.hash, .int .i64 e.index]) ∧ ∃ p : Regrown, w'' = grow (redrawn w p.d) p.os :=
  Calls.regrown_of (placeOf_any e _)
theorem ahI_any (a b h k : Int) (w : World) (d : Nat) (os : Array Obj) :
    Calls Tryz.prog 63 #[.agg #[.int .i64 a, .int .i64 b], .agg #[.int .i64 h, .int .i64 k]] (grow (redrawn w d) os) fun x w'' => x = .returned (.bool (aheadB a b h k)) ∧ ∃ p : Regrown, w'' = grow (redrawn w p.d) p.os :=
  Calls.regrown_of (ahead_any a b h k _)
end

section
open Go.RowKit Go.Sort

theorem findIdx_hit {d : List En} {p : En → Bool} {i : Nat} (hi : i < d.length) (h : p d[i]! = true) (hb : ∀ k, k < i → p d[k]! = false) : d.findIdx p = i := by
  rw [List.findIdx_eq hi]
  refine ⟨by rw [getElem!_pos d i hi] at h; exact h, fun j hj => ?_⟩
  have := hb j hj
  rw [getElem!_pos d j (by omega)] at this
  exact this
theorem findIdx_miss {d : List En} {p : En → Bool} (hb : ∀ k, k < d.length → p d[k]! = false) : d.findIdx p = d.length := by
  rw [List.findIdx_eq_length]
  intro x hx
  obtain ⟨k, hk, rfl⟩ := List.getElem_of_mem hx
  have := hb k hk
  rw [getElem!_pos d k hk] at this
  exact this





def fitB (s : ByteArray) (e : En) : Bool := decide (e.hash = hashN s) && alikeB e.name s


theorem findIdx_cong {d : List En} {p q : En → Bool} (h : ∀ e ∈ d, p e = q e) : d.findIdx p = d.findIdx q := by
  induction d with
  | nil => rfl
  | cons x d ih =>
    rw [List.findIdx_cons, List.findIdx_cons, h x (by simp), ih fun e he => h e (by simp [he])]
/-- where a right directory has the name that is one with s -/
def atE (d : List En) (s : ByteArray) : Nat := d.findIdx (fitB s)
theorem atE_right {d : List En} (hr : RightP d) (s : ByteArray) : atE d s = (atN d s).getD d.length := by
  have h1 : atE d s = d.findIdx (fun e => alikeB e.name s) := findIdx_cong fun e he => by
    unfold fitB
    cases ha : alikeB e.name s
    · simp
    · have h2 := (entB_iff.1 (hr.each e he)).2.1
      rw [← alike_hash ha] at h2
      simp [h2]
  rw [h1, List.findIdx_eq_getD_findIdx?]
  rfl
end

section
open Go.RowKit Go.Sort

/-- the slice v is a row of texts that lies from block base on and is the call's own -/
def StrRow (w : World) (base : Nat) (v : Value) (l : List ByteArray) : Prop := w.ownsRow base 9 1 v l.length (l.map Value.string)
theorem Tryz.infoS : (Tryz.prog.info? 9).map (fun i => (i.zero, i.size, i.bytes)) = some (some (.string ⟨#[]⟩), 1, 16) := by kernel_rfl
theorem StrRow.cell {w : World} {base : Nat} {v : Value} {l : List ByteArray} (h : StrRow w base v l) : ∃ a cap, v = .slice a l.length cap ∧ ∀ t, t < l.length → ∃ b, a = some ⟨b, 0, none⟩ ∧ b < w.heap.size ∧ w.cell? ⟨b, t, none⟩ = some (.string l[t]!) := by
  rcases h.2 with ⟨rfl, h0⟩ | ⟨g, cap, cur, rfl, hg, hh, hnc, hcp, hcs, htake⟩
  · exact ⟨none, 0, by rw [h0], fun t ht => by omega⟩
  · refine ⟨some ⟨g, 0, none⟩, cap, rfl, fun t ht => ⟨g, rfl, lt_of_block hh, ?_⟩⟩
    have := World.ownsRow.cellAt h t (by simpa using ht)
    rw [this, List.getElem?_map, getElem!_pos l t ht, List.getElem?_eq_getElem ht]; rfl
theorem StrRow.below {w w' : World} {base : Nat} {v : Value} {l : List ByteArray} (h : StrRow w base v l) (b : Below w.heap.size w w') : StrRow w' base v l :=
  ⟨h.1, by
    rcases h.2 with h0 | ⟨g, cap, cur, e, hg, hh, r⟩
    · exact .inl h0
    · exact .inr ⟨g, cap, cur, e, hg, (b.block g (lt_of_block hh)).trans hh, r⟩⟩

/-- 'append(keys, key)' -/
theorem append_str (w : World) {ops : Array Oper} {rest : List Oper} {o : Oper} {a : Act} {Q : Exit → Act → World → Prop} (hgd : o.guard = none) (s x : Operand)
    (ho : o.op = .call { callee := .builtin .append, args := #[s, x], argTypes := #[25, 25] }) (base : Nat)
    (v : Value) (ad : Addr) (cap : Nat) (l : List ByteArray) (k : ByteArray) (hl : l.length + 1 ≤ 1099511627776) (hown : StrRow w base v l) (hc : w.cell? ad = some (.string k)) (hs : a.eval s = v) (hx : a.eval x = .slice (some ad) 1 cap)
    (hbase : base ≤ w.heap.size)
    (h : ∀ v' w', StrRow w' base v' (l ++ [k]) → Below base w w' → wpList Tryz.prog ops Q rest (a.put o.dst v') w') :
    wpList Tryz.prog ops Q (o :: rest) a w := by
  obtain ⟨i0, hi, hz0, hz1, hz2⟩ := info_parts Tryz.infoS
  refine wpList_append_own _ hgd s x 25 ho base 9 i0 _ 1 16 Tryz.underlying25 hi hz0 hz1 hz2 rfl (by decide) v l.length (l.map Value.string) hs hown ad 1 cap [.string k] hx rfl (fun j y hj => ?_) (fun u hu => by rw [List.mem_singleton.1 hu]; rfl) (by unfold maxLen; omega) (by omega) hbase ?_
  · have hj1 := (List.getElem?_eq_some_iff.1 hj).1
    obtain rfl : j = 0 := by simpa using hj1
    have : ad.add 0 = ad := by unfold Addr.add; split <;> simp_all
    rw [this, hc]; simpa using hj
  · intro v' w' hown' hgrow _
    refine h v' w' ?_ ?_
    · unfold StrRow
      rw [List.map_append, List.length_append]
      exact hown'
    · refine (Below.refl base w).grown hgrow hbase ?_
      intro k hk
      exact (World.ownsRow.lt hown k hk).1

def hasK (l : List ByteArray) (s : ByteArray) : Bool := l.any fun k => s.toList == k.toList
theorem hasK_yes {l : List ByteArray} {s : ByteArray} {t : Nat} (ht : t < l.length) (h : (s.toList == l[t]!.toList) = true) : hasK l s = true := by
  unfold hasK
  rw [List.any_eq_true]
  exact ⟨l[t], List.getElem_mem ht, by rw [getElem!_pos l t ht] at h; exact h⟩
theorem hasK_no {l : List ByteArray} {s : ByteArray} (h : ∀ t, t < l.length → (s.toList == l[t]!.toList) = false) : hasK l s = false := by
  unfold hasK
  rw [List.any_eq_false]
  intro k hk
  obtain ⟨t, ht, rfl⟩ := List.getElem_of_mem hk
  have := h t ht
  rw [getElem!_pos l t ht] at this
  simp [this]

set_option maxRecDepth 100000 in
set_option maxHeartbeats 1000000 in
theorem indexS_any (base : Nat) (v : Value) (l : List ByteArray) (s : ByteArray) (w : World) (hv : StrRow w base v l) (hl : l.length ≤ 1048576) :
    Calls Tryz.prog 71 #[v, .string s] w fun e w' => (∃ r : Int, e = .returned (.int .i64 r) ∧ decide (0 ≤ r) = hasK l s) ∧ w = w' := by
  have HY : Hid (∀ t, t < l.length → (s.toList == l[t]!.toList) = true → hasK l s = true) := fun t ht h => hasK_yes ht h
  have HN : Hid ((∀ t, t < l.length → (s.toList == l[t]!.toList) = false) → hasK l s = false) := fun h => hasK_no h
  generalize hasK l s = q at HY HN ⊢
  obtain ⟨a, ca, rfl, hva⟩ := hv.cell
  obtain ⟨n, HL⟩ : ∃ n, Hid (n = l.length) := ⟨_, rfl⟩
  rw [← HL.out] at hva hl HY HN ⊢
  clear hv
  go_enter Tryz.func71, Tryz.ntmps71
  go_wp2
  go_loopw [8] (fun i wr => ∃ k : Nat, k ≤ n ∧ i = .int .i64 k ∧ Hid (∀ t, t < k → (s.toList == l[t]!.toList) = false) ∧ w = wr) (fun i _ => n - (intOf i).toNat)
  case atStart => exact ⟨0, Nat.zero_le _, rfl, fun t ht => by omega, rfl⟩
  case round =>
    obtain ⟨k, hk, rfl, HNE, rfl⟩ := hrel
    by_cases hlt : k < n
    · obtain ⟨b1, rfl, hb1, hc1⟩ := hva k hlt
      have HK : Hid ((s.toList == l[k]!.toList) = true → q = true) := fun h => HY.out k hlt h
      have HK2 : Hid ((s.toList == l[k]!.toList) = false → ∀ t, t < k + 1 → (s.toList == l[t]!.toList) = false) := fun h t ht => by
        by_cases e : t = k
        · rw [e]; exact h
        · exact HNE.out t (by omega)
      generalize l[k]! = x at hc1 HK HK2
      clear hva
      cases hq : s.toList == x.toList
      · go_wp2
        go_roundw
        case rel => exact ⟨k + 1, by omega, by go_num, HK2.out hq, trivial⟩
        case measure => simp [intOf]; omega
      · go_wp2
        go_ret
        exact ⟨⟨_, rfl, by rw [HK.out hq]; simp⟩, rfl⟩
    · obtain rfl : k = n := by omega
      have hr := HN.out HNE.out
      go_wp2
      go_ret
      exact ⟨⟨_, rfl, by rw [hr]; rfl⟩, rfl⟩

set_option maxRecDepth 100000 in
set_option maxHeartbeats 1000000 in
theorem containsS_any (base : Nat) (v : Value) (l : List ByteArray) (s : ByteArray) (w : World) (hv : StrRow w base v l) (hl : l.length ≤ 1048576) :
    Calls Tryz.prog 61 #[v, .string s] w fun e w' => e = .returned (.bool (hasK l s)) ∧ w = w' := by
  have HI := indexS_any base v l s w hv hl
  generalize hasK l s = q at HI ⊢
  obtain ⟨a, ca, rfl, -⟩ := hv.cell
  clear hv
  go_enter Tryz.func61, Tryz.ntmps61
  go_wp2_with fail
  refine HI.mono ?_
  rintro e w1 ⟨⟨r, rfl, hr⟩, rfl⟩
  have HR : Hid (decide (0 ≤ r) = q) := hr
  clear hr HI
  by_cases h0 : 0 ≤ r
  · have HQ : Hid (q = true) := by show _ = _; rw [← HR.out]; simp [h0]
    go_wp2
    go_ret
    exact ⟨ret_bool HQ.out.symm, rfl⟩
  · go_wp2
    go_ret
    exact ⟨ret_bool HR.out, rfl⟩

/-- the part of an entry that its key decides -/
def entK (e : En) (key : ByteArray) : Bool := decide (e.hash = (crcV key).tmod 16) && inB e.index 0 12 && idB e.id
theorem entB_key (e : En) : entB e = ((keyN e.name).2 && entK e (keyN e.name).1) := by
  rw [entB_in, keyN_is]
  unfold entK
  cases h : (nameL e.name).isSome
  · simp
  · have : hashN e.name = (crcV (keyN e.name).1).tmod 16 := by
      unfold hashN; rw [keyN_is, h]; rfl
    rw [this]; rfl

theorem hkI_any (x : ByteArray) (w : World) (hC : CrcTab w) (hx : x.size ≤ 1048576) (d : Nat) (os : Array Obj) :
    Calls Tryz.prog 69 #[.string x] (grow (redrawn w d) os) fun e w'' => e = .returned (.int .i64 ((crcV x).tmod 16)) ∧ ∃ p : Regrown, w'' = grow (redrawn w p.d) p.os :=
  Calls.regrown_of (iHashKey x _ (hC.below (below_regrown w d os)) hx)
theorem btI_any (x a b : Int) (w : World) (d : Nat) (os : Array Obj) :
    Calls Tryz.prog 54 #[.int .i64 x, .int .i64 a, .int .i64 b] (grow (redrawn w d) os) fun e w'' => e = .returned (.bool (inB x a b)) ∧ ∃ p : Regrown, w'' = grow (redrawn w p.d) p.os :=
  Calls.regrown_of ((btw_any x a b _).mono fun e w' h => ⟨h.1, by rw [← h.2]; exact Below.refl _ _⟩)
theorem idI_any (x : Int) (w : World) (d : Nat) (os : Array Obj) :
    Calls Tryz.prog 70 #[.int .i64 x] (grow (redrawn w d) os) fun e w'' => e = .returned (.bool (idB x)) ∧ ∃ p : Regrown, w'' = grow (redrawn w p.d) p.os :=
  Calls.regrown_of ((idOk_any x _).mono fun e w' h => ⟨h.1, by rw [← h.2]; exact Below.refl _ _⟩)

set_option maxRecDepth 100000 in
set_option maxHeartbeats 2000000 in
theorem entOk_any (e : En) (key : ByteArray) (w : World) (hC : CrcTab w) (hx : key.size ≤ 1048576) :
    Calls Tryz.prog 60 #[.agg #[.int .i64 e.hash, .int .i64 e.index, .string e.name, .int .i64 e.id], .string key] w fun x w' => x = .returned (.bool (entK e key)) ∧ Below w.heap.size w w' := by
  have HR : Hid (entK e key = (decide (e.hash = (crcV key).tmod 16) && inB e.index 0 12 && idB e.id)) := rfl
  generalize entK e key = r at HR ⊢
  obtain ⟨x0, x1, x2, x3⟩ := e
  dsimp only at HR ⊢
  have hb := below_lit w (.cells #[.int .i64 x0, .int .i64 x1, .string x2, .int .i64 x3] 66)
  have hcg := new_cells w x0 x1 x2 x3
  have hC1 := hC.below hb
  obtain ⟨w5, HW5⟩ : ∃ w5, Hid (w5 = w.alloc (.cells #[.int .i64 x0, .int .i64 x1, .string x2, .int .i64 x3] 66)) := ⟨_, rfl⟩
  rw [← HW5.out] at hb hcg hC1
  have q0 := cell_regrown hcg.c0
  have q1 := cell_regrown hcg.c1
  have q3 := cell_regrown hcg.c3
  dsimp only [Nat.zero_add] at q0 q1 q3
  have hHK := fun dd os => hkI_any key w5 hC1 hx dd os
  have hBT := fun dd os => btI_any x1 0 12 w5 dd os
  have hID := fun dd os => idI_any x3 w5 dd os
  generalize (crcV key).tmod 16 = hk at hHK HR
  generalize inB x1 0 12 = b1 at hBT HR
  generalize idB x3 = b3 at hID HR
  clear hcg hC hC1
  by_cases h1 : x0 = hk
  · have h1' : (x0 == hk) = true := by simp [h1]
    cases b1
    · have HRR : Hid (r = false) := by show _ = _; rw [HR.out]; simp
      clear h1
      go_enter Tryz.func60, Tryz.ntmps60
      go_wp2
      rw [← HW5.out]
      refine wp_region_quiet_below (by kernel_rfl) (by kernel_rfl) ?_
      repeat (go_big_quiet_step (first | with_reducible exact hHK _ _ | with_reducible exact hBT _ _ | with_reducible exact hID _ _))
      refine wpQuiet_nil ?_
      rintro w' ⟨⟨dq, osq⟩, rfl⟩
      have hbq := below_regrown w5 dq osq
      generalize grow (redrawn w5 dq) osq = w6 at hbq ⊢
      have hb6 : Below w.heap.size w w6 := hb.trans (hbq.mono hb.size)
      go_wp2
      go_ret
      exact ⟨ret_bool HRR.out.symm, hb6⟩
    · have HRR : Hid (r = b3) := by show _ = _; rw [HR.out]; simp [h1]
      clear h1
      go_enter Tryz.func60, Tryz.ntmps60
      go_wp2
      rw [← HW5.out]
      refine wp_region_quiet_below (by kernel_rfl) (by kernel_rfl) ?_
      repeat (go_big_quiet_step (first | with_reducible exact hHK _ _ | with_reducible exact hBT _ _ | with_reducible exact hID _ _))
      refine wpQuiet_nil ?_
      rintro w' ⟨⟨dq, osq⟩, rfl⟩
      have hbq := below_regrown w5 dq osq
      generalize grow (redrawn w5 dq) osq = w6 at hbq ⊢
      have hb6 : Below w.heap.size w w6 := hb.trans (hbq.mono hb.size)
      go_wp2
      go_ret
      exact ⟨ret_bool HRR.out.symm, hb6⟩
  · have h1' : (x0 == hk) = false := by simp [h1]
    have HRR : Hid (r = false) := by show _ = _; rw [HR.out]; simp [h1]
    go_enter Tryz.func60, Tryz.ntmps60
    go_wp2
    rw [← HW5.out]
    refine wp_region_quiet_below (by kernel_rfl) (by kernel_rfl) ?_
    repeat (go_big_quiet_step (first | with_reducible exact hHK _ _ | with_reducible exact hBT _ _ | with_reducible exact hID _ _))
    refine wpQuiet_nil ?_
    rintro w' ⟨⟨dq, osq⟩, rfl⟩
    have hbq := below_regrown w5 dq osq
    generalize grow (redrawn w5 dq) osq = w6 at hbq ⊢
    have hb6 : Below w.heap.size w w6 := hb.trans (hbq.mono hb.size)
    go_wp2
    go_ret
    exact ⟨ret_bool HRR.out.symm, hb6⟩
end

section
open Go.RowKit Go.Sort

theorem eqPl (a b c d : Int) (w : World) : (binOp .eql 90 (.agg #[.int .i64 a, .int .i64 b]) (.agg #[.int .i64 c, .int .i64 d])).run Tryz.prog w = .ok (.bool (a == c && b == d)) w := by
  have u3 := Tryz.underlying3
  have a3 := Tryz.isAgg3
  have z3 := Tryz.sizeOf3
  have hS : Tryz.prog.underlying 90 = some (.struct (Tryz.prog.fieldsOf 90)) := by kernel_rfl
  have hp : Tryz.prog.stoodInHeld 90 = false := by kernel_rfl
  rw [run_eql_struct, show (10000 : Nat) = 9999 + 1 from rfl, run_equalIn_agg w 9999 90 _ _ hS hp]
  simp only [Program.fieldsOf, Tryz.underlying90]
  go_simp
  by_cases h1 : a = c <;> by_cases h2 : b = d <;> simp [h1, h2]
end

end Go.Proofs.YtchcdgkpaipkgaaGreatDoor
