/- Names in order: impl.rowOfNames, stand, Order. Names in order: spec.SortNames. Rows of the call's own with the blocks between which they lie: what keeps them. -/
import Derived.Test.YtlkemmdcjnaepaaDoorRows
import Derived.Test.YtlkemmdcjnaepaaDoorG37
import Derived.Test.YtlkemmdcjnaepaaDoorG30
import Derived.Test.YtlkemmdcjnaepaaDoorG19
import Derived.Test.YtlkemmdcjnaepaaDoorG36
import Derived.Test.YtlkemmdcjnaepaaDoorG25
import Derived.Lib.QuietBelow
import Derived.BigQuiet
import Derived.WalkKit
import Derived.WalkLawsBesides
import Derived.Below
namespace Go.Proofs.YtlkemmdcjnaepaaDoor

section
open Go.RowKit Go.Sort
open Go.Op (bytesLess)

def rowK (l : List ByteArray) : List Kn := l.map fun s => ⟨key14 s, s⟩
theorem rowK_len (l : List ByteArray) : (rowK l).length = l.length := by simp [rowK]
theorem rowK_get (l : List ByteArray) (t : Nat) (h : t < l.length) : (rowK l)[t]! = ⟨key14 l[t]!, l[t]!⟩ := by
  rw [getElem!_pos _ t (by rw [rowK_len]; exact h), getElem!_pos l t h]
  simp [rowK]
theorem rowK_take (l : List ByteArray) (k : Nat) (h : k < l.length) : rowK (l.take (k + 1)) = rowK (l.take k) ++ [⟨key14 l[k]!, l[k]!⟩] := by
  rw [List.take_add_one, List.getElem?_eq_getElem h, getElem!_pos l k h]
  unfold rowK
  rw [List.map_append]
  rfl
def cmpB (a b : ByteArray) : Int := if bytesLess a.toList b.toList then -1 else if bytesLess b.toList a.toList then 1 else 0
def stdN (x y : Kn) : Int := if cmpB x.key y.key = 0 then cmpB x.name y.name else cmpB x.key y.key
theorem std_ord (a b : ByteArray) : stdN ⟨key14 a, a⟩ ⟨key14 b, b⟩ = ordN a b := by
  unfold stdN ordN lt14 cmpB
  dsimp only
  by_cases e : (key14 a).toList = (key14 b).toList
  · rw [e, bl_irr]
    have hk : ((key14 b).toList == (key14 b).toList) = true := by simp
    rw [hk]
    by_cases e2 : a.toList = b.toList
    · rw [e2, bl_irr]; simp
    · have hn : (a.toList == b.toList) = false := by simpa using e2
      rw [hn]
      rcases bl_tri _ _ e2 with h | h
      · rw [h]; simp
      · rw [h, bl_asym h]; simp
  · have hk : ((key14 a).toList == (key14 b).toList) = false := by simpa using e
    have hn : (a.toList == b.toList) = false := by
      rw [beq_eq_false_iff_ne]
      intro h
      exact e (by rw [toList_inj h])
    rw [hk, hn]
    rcases bl_tri _ _ e with h | h
    · rw [h]; simp
    · rw [h, bl_asym h]; simp

set_option maxRecDepth 100000 in
theorem isNaN_any (s : ByteArray) (w : World) :
    Calls Tryd.prog 85 #[.string s] w fun e w' => e = .returned (.bool false) ∧ w' = w := by
  have h : (s.toList == s.toList) = true := by simp
  go_enter Tryd.func85, Tryd.ntmps85
  go_wp2
  go_ret
  exact ⟨rfl, rfl⟩
set_option maxRecDepth 100000 in
theorem cmpS_any (a b : ByteArray) (w : World) :
    Calls Tryd.prog 59 #[.string a, .string b] w fun e w' => e = .returned (.int .i64 (cmpB a b)) ∧ w' = w := by
  unfold cmpB
  obtain ⟨q1, h1⟩ : ∃ q, bytesLess a.toList b.toList = q := ⟨_, rfl⟩
  obtain ⟨q2, h2⟩ : ∃ q, bytesLess b.toList a.toList = q := ⟨_, rfl⟩
  rw [h1, h2]
  cases q1
  · cases q2
    · have h3 : (a.toList == b.toList) = true := by
        rw [beq_iff_eq]
        refine Classical.byContradiction fun e => ?_
        rcases bl_tri _ _ e with h | h
        · rw [h] at h1; cases h1
        · rw [h] at h2; cases h2
      go_enter Tryd.func59, Tryd.ntmps59
      go_wp2_with (go_at_call 85; refine (isNaN_any _ _).mono ?_; rintro e w' ⟨rfl, rfl⟩)
      go_ret
      exact ⟨rfl, rfl⟩
    · have h3 : (a.toList == b.toList) = false := by
        rw [beq_eq_false_iff_ne]
        intro e
        rw [e, bl_irr] at h2
        cases h2
      go_enter Tryd.func59, Tryd.ntmps59
      go_wp2_with (go_at_call 85; refine (isNaN_any _ _).mono ?_; rintro e w' ⟨rfl, rfl⟩)
      go_ret
      exact ⟨rfl, rfl⟩
  · go_enter Tryd.func59, Tryd.ntmps59
    go_wp2_with (go_at_call 85; refine (isNaN_any _ _).mono ?_; rintro e w' ⟨rfl, rfl⟩)
    go_ret
    exact ⟨rfl, rfl⟩

set_option maxRecDepth 100000 in
set_option maxHeartbeats 1000000 in
theorem stand_any (v : Value) (L : List Kn) (i j : Nat) (zi zj : Int) (ei : zi = i) (ej : zj = j) (w : World) (hv : KnsAt w v L) (hi : i < L.length) (hj : j < L.length) :
    Calls Tryd.prog 37 #[v, .int .i64 zi, .int .i64 zj] w fun e w' => e = .returned (.int .i64 (stdN L[i]! L[j]!)) ∧ ∃ q, w' = w.drewN q := by
  subst ei ej
  obtain ⟨a, cap, rfl, -, hc⟩ := hv
  obtain ⟨b1, o1, rfl, hb1, h1⟩ := hc i hi
  obtain ⟨b2, o2, e2, hb2, h2⟩ := hc j hj
  cases e2
  have c1 := h1.c0
  have c2 := h1.c1
  have c3 := h2.c0
  have c4 := h2.c1
  have hi' : (i : Int) < (L.length : Int) := by omega
  have hj' : (j : Int) < (L.length : Int) := by omega
  clear h1 h2 hc hi hj
  generalize L[i]! = x at *
  generalize L[j]! = y at *
  generalize L.length = n at *
  obtain ⟨x1, x2⟩ := x
  obtain ⟨y1, y2⟩ := y
  dsimp only at c1 c2 c3 c4
  unfold stdN
  dsimp only
  have H1 := fun W => cmpS_any x1 y1 W
  have H2 := fun W => cmpS_any x2 y2 W
  generalize cmpB x1 y1 = k1 at H1 ⊢
  generalize cmpB x2 y2 = k2 at H2 ⊢
  by_cases hk : k1 = 0
  · rw [if_pos hk]
    have hkb : (k1 != 0) = false := by simp [hk]
    clear hk
    go_enter Tryd.func37, Tryd.ntmps37
    go_wp2
    go_quiet ((go_at_call 59; exact Calls.quiet_of_same (H1 _)))
    have d2 : (w.drewN nq).cell? ⟨b1, o1 + i * 2 + 1, none⟩ = some (.string x2) := c2
    have d4 : (w.drewN nq).cell? ⟨b1, o1 + j * 2 + 1, none⟩ = some (.string y2) := c4
    clear c1 c2 c3 c4 H1
    generalize hW : w.drewN nq = W1 at d2 d4 ⊢
    go_wp2
    go_quiet ((go_at_call 59; exact Calls.quiet_of_same (H2 _)))
    go_wp2
    go_ret
    refine ⟨rfl, ?_⟩
    rw [← hW]
    exact ⟨_, World.drewN_drewN ..⟩
  · rw [if_neg hk]
    have hkb : (k1 != 0) = true := by simp [hk]
    clear hk
    go_enter Tryd.func37, Tryd.ntmps37
    go_wp2
    go_quiet ((go_at_call 59; exact Calls.quiet_of_same (H1 _)))
    go_wp2
    go_ret
    exact ⟨rfl, _, rfl⟩

theorem two_txts (w : World) (a b : ByteArray) : TxtsAt (w.alloc (.cells #[.string a, .string b] 9)) (.slice (some ⟨w.heap.size, 0, none⟩) 2 2) [a, b] := by
  refine ⟨_, _, rfl, fun h => (by cases h), fun t ht => ⟨w.heap.size, 0, rfl, by simp, ?_⟩⟩
  rw [World.cell?_alloc_mark]
  match t, ht with
  | 0, _ => rfl
  | 1, _ => rfl

set_option maxRecDepth 100000 in
set_option maxHeartbeats 2000000 in
theorem rowOfNames_any (v : Value) (l : List ByteArray) (w : World) (hl : l.length ≤ 1048576) (hz : ∀ t, t < l.length → l[t]!.size ≤ 1048576) (hT : Tabs w) (hv : TxtsAt w v l) :
    Calls Tryd.prog 36 #[v] w fun e w' => ∃ u, e = .returned u ∧ KnRow w' w.heap.size u (rowK l) ∧ Below w.heap.size w w' := by
  obtain ⟨i0, hi, hz0, hz1, hz2⟩ := info_parts Tryd.infoKn
  obtain ⟨ad, cp, rfl, -, hc⟩ := hv
  have HC : Hid (∀ t, t < l.length → ∃ b off, ad = some ⟨b, off, none⟩ ∧ b < w.heap.size ∧ w.cell? ⟨b, off + t, none⟩ = some (.string l[t]!)) := hc
  have HRT : Hid (∀ k, k < l.length → rowK (l.take (k + 1)) = rowK (l.take k) ++ [⟨key14 l[k]!, l[k]!⟩]) := fun k hk => rowK_take l k hk
  have HRL : Hid (∀ k, k ≤ l.length → (rowK (l.take k)).length = k) := fun k hk => by rw [rowK_len, List.length_take]; omega
  have HRE : Hid (rowK (l.take l.length) = rowK l) := by show _ = _; rw [List.take_length]
  have HKO : Hid (∀ k W, k < l.length → Below w.heap.size w W → Calls Tryd.prog 58 #[.string l[k]!] W fun e w' => e = .returned (.tuple #[.string (keyN l[k]!).1, .bool (keyN l[k]!).2]) ∧ Below W.heap.size W w') := fun k W hk hb => iKeyOf l[k]! W (hT.below hb) (hz k hk)
  obtain ⟨n, HN⟩ : ∃ n, Hid (n = l.length) := ⟨_, rfl⟩
  rw [← HN.out] at hl HRT HRE HKO HC HRL ⊢
  generalize rowK l = R at HRE ⊢
  clear hc hz hT
  go_enter Tryd.func36, Tryd.ntmps36
  go_wp2_with (at_make; refine wpList_make_own _ rfl _ _ 43 rfl w.heap.size 70 i0 (.agg #[.string ⟨#[]⟩, .string ⟨#[]⟩]) 2 Tryd.underlying43 hi hz0 hz1 .i64 .i64 _ n rfl rfl (by omega) (by rw [hz2]; omega) (by unfold maxLen; omega) (Nat.le_refl _) ?_; intro w3 hown3 hgrow3)
  have hb3 : Below w.heap.size w w3 := (Below.refl _ _).grown hgrow3 (Nat.le_refl _) (fun _ h => by cases h)
  clear hgrow3 hi hz0 hz1 hz2
  go_loopw [3, 13] (fun u i wr => ∃ k : Nat, k ≤ n ∧ i = .int .i64 k ∧ KnRow wr w.heap.size u (rowK (l.take k)) ∧ Below w.heap.size w wr) (fun _ i _ => n - (intOf i).toNat)
  case atStart => exact ⟨0, Nat.zero_le _, rfl, by simpa [KnRow, rowK, flatKn] using hown3, hb3⟩
  case round =>
    obtain ⟨k, hk, rfl, hrow, hbel⟩ := hrel
    by_cases hlt : k < n
    · have hltz : (k : Int) < (n : Int) := by omega
      obtain ⟨b1, o1, rfl, hb1, hc1⟩ := HC.out k hlt
      have hc2 := (hbel.cell (p := ⟨b1, o1 + k, none⟩) hb1).trans hc1
      have HT : Hid _ := HRT.out k hlt
      have HL := HRL.out k hk
      have HKC := HKO.out k wr hlt hbel
      have HQ : Hid (key14 l[k]! = if (keyN l[k]!).2 then (keyN l[k]!).1 else l[k]!) := rfl
      clear hc1 HC HRT HRL HKO HRE
      generalize l[k]! = x at *
      generalize key14 x = kx at *
      generalize (keyN x).1 = y at *
      generalize (keyN x).2 = q at *
      generalize rowK (l.take k) = RK at *
      cases q
      · obtain rfl : kx = x := HQ.out
        go_wp2_with (first | (go_at_call 58; refine HKC.mono ?_; rintro e w1 ⟨rfl, hb4⟩; have hrow1 := hrow.below hb4; have hbel1 := hbel.trans (hb4.mono hbel.size)) | (at_builtin; refine append_kns _ rfl (.tmp 25) (.tmp 29) rfl w.heap.size _ _ RK [⟨kx, kx⟩] (by simp; omega) (World.ownsRow.alloc hrow1 _) (one_kn _ ⟨kx, kx⟩) rfl rfl (by simp; have := hbel1.size; omega) ?_; intro v' w4 hrow4 hbel4))
        have HB4 := (hbel1.alloc hbel1.size _).trans hbel4
        go_roundw
        case rel => exact ⟨k + 1, by omega, by go_num, by rw [HT.out]; exact hrow4, HB4⟩
        case measure => simp [intOf]; omega
      · obtain rfl : kx = y := HQ.out
        go_wp2_with (first | (go_at_call 58; refine HKC.mono ?_; rintro e w1 ⟨rfl, hb4⟩; have hrow1 := hrow.below hb4; have hbel1 := hbel.trans (hb4.mono hbel.size)) | (at_builtin; refine append_kns _ rfl (.tmp 25) (.tmp 29) rfl w.heap.size _ _ RK [⟨kx, x⟩] (by simp; omega) (World.ownsRow.alloc hrow1 _) (one_kn _ ⟨kx, x⟩) rfl rfl (by simp; have := hbel1.size; omega) ?_; intro v' w4 hrow4 hbel4))
        have HB4 := (hbel1.alloc hbel1.size _).trans hbel4
        go_roundw
        case rel => exact ⟨k + 1, by omega, by go_num, by rw [HT.out]; exact hrow4, HB4⟩
        case measure => simp [intOf]; omega
    · obtain rfl : k = n := by omega
      have hrow' : KnRow wr w.heap.size u3 R := by rw [← HRE.out]; exact hrow
      go_wp2
      go_ret
      exact ⟨_, rfl, hrow', hbel⟩

set_option maxRecDepth 100000 in
theorem iOrder (a b : ByteArray) (w : World) (hT : Tabs w) (ha : a.size ≤ 1048576) (hb : b.size ≤ 1048576) :
    Calls Tryd.prog 14 #[.string a, .string b] w fun e w' => e = .returned (.int .i64 (ordN a b)) ∧ Below w.heap.size w w' := by
  have b0 := (Below.refl w.heap.size w).alloc (Nat.le_refl _) (.cells #[.string a, .string b] 9)
  have HR := rowOfNames_any _ [a, b] _ (by simp) (fun t ht => by
    match t, ht with
    | 0, _ => exact ha
    | 1, _ => exact hb) (hT.below b0) (two_txts w a b)
  rw [← std_ord]
  have HS := fun v W h => stand_any v (rowK [a, b]) 0 1 0 1 rfl rfl W h (by simp [rowK]) (by simp [rowK])
  rw [rowK_get [a, b] 0 (by simp), rowK_get [a, b] 1 (by simp)] at HS
  have HS : ∀ v W, KnsAt W v (rowK [a, b]) → Calls Tryd.prog 37 #[v, .int .i64 0, .int .i64 1] W fun e w' => e = .returned (.int .i64 (stdN ⟨key14 a, a⟩ ⟨key14 b, b⟩)) ∧ ∃ q, w' = W.drewN q := HS
  generalize stdN ⟨key14 a, a⟩ ⟨key14 b, b⟩ = r at HS ⊢
  generalize rowK [a, b] = R at HR HS
  go_enter Tryd.func14, Tryd.ntmps14
  go_wp2_with fail
  refine HR.mono ?_
  rintro e w1 ⟨u, rfl, row, b1⟩
  have B1 := b0.trans (b1.mono b0.size)
  have hk := row.at
  obtain ⟨x, y, rfl, -⟩ := id hk
  go_wp2_with fail
  refine (HS _ w1 hk).mono ?_
  rintro e w2 ⟨rfl, q, rfl⟩
  go_wp2
  go_ret
  exact ⟨rfl, below_drewN B1 q⟩
end

section
open Go.RowKit Go.Sort

set_option maxRecDepth 100000 in
set_option maxHeartbeats 2000000 in
theorem sSortNames (v : Value) (l : List ByteArray) (w : World) (hl : l.length ≤ 1048576) (hz : ∀ t, t < l.length → l[t]!.size ≤ 1048576) (hv : TxtsAt w v l) :
    Calls Tryd.prog 13 #[v] w fun e w' => ∃ u, e = .returned u ∧ TxtRow w' w.heap.size u (sort14 l) ∧ Below w.heap.size w w' := by
  obtain ⟨a, cap, rfl, -, hcs⟩ := hv
  have HEN : Hid (∀ s, Srt14 (l.take l.length) s → s = sort14 l) := fun s h => by rw [List.take_length] at h; exact sort14_is h
  have HPU : Hid (∀ k s j, k < l.length → Srt14 (l.take k) s → j ≤ s.length → (j = 0 ∨ lt14 l[k]! s[j - 1]! = false) → (∀ t, j ≤ t → t < s.length → lt14 l[k]! s[t]! = true) → Srt14 (l.take (k + 1)) (putT s l[k]! j)) := fun k s j hk h h1 h2 h3 => by
    rw [take_txt l k hk]; exact h.put j h1 h2 h3
  have HSL : Hid (∀ k s, k ≤ l.length → Srt14 (l.take k) s → s.length = k ∧ ∀ t, t < s.length → s[t]!.size ≤ 1048576) := fun k s hk h => by
    have h1 : s.length = k := by rw [h.perm.length_eq, List.length_take]; omega
    refine ⟨h1, fun t ht => ?_⟩
    rw [getElem!_pos s t ht]
    have h2 := List.mem_of_mem_take (h.perm.mem_iff.1 (List.getElem_mem ht))
    obtain ⟨q, hq, e⟩ := List.getElem_of_mem h2
    rw [← e, ← getElem!_pos l q hq]
    exact hz q hq
  have HST : Hid (Srt14 (l.take 0) []) := Srt14.nil
  generalize sort14 l = r at HEN ⊢
  obtain ⟨n, HN⟩ : ∃ n, Hid (n = l.length) := ⟨_, rfl⟩
  rw [← HN.out] at hcs hl hz HEN HPU HSL ⊢
  have hE := lit_txts w
  go_enter Tryd.func13, Tryd.ntmps13
  go_wp2
  go_loopw [3, 4] (fun ov iv wr => ∃ (k : Nat) (s : List ByteArray), k ≤ n ∧ iv = .int .i64 k ∧ TxtRow wr w.heap.size ov s ∧ Hid (Srt14 (l.take k) s) ∧ Below w.heap.size w wr) (fun _ iv _ => n - (intOf iv).toNat)
  case atStart => exact ⟨0, [], Nat.zero_le _, rfl, hE, HST, below_lit _ _⟩
  case round =>
    obtain ⟨k, s, hk, rfl, hrow, HS, hbel⟩ := hrel
    clear hE HST
    by_cases hlt : k < n
    · obtain ⟨b1, o1, rfl, hb1, hc1⟩ := hcs k hlt
      have hxz := hz k hlt
      obtain ⟨hsl, hsz⟩ := HSL.out k s hk HS.out
      have HSLn : Hid (s.length = k) := hsl
      have hsk : s.length ≤ 1048576 := by omega
      clear hsl
      have HP := fun j => HPU.out k s j hlt HS.out
      have HC1 : Hid (∀ W, Below w.heap.size w W → W.cell? ⟨b1, o1 + k, none⟩ = some (.string l[k]!)) := fun W h => (h.cell (p := ⟨b1, o1 + k, none⟩) hb1).trans hc1
      generalize l[k]! = x at hxz HP HC1
      have HP2 : Hid (∀ j, j ≤ s.length → (j = 0 ∨ lt14 x s[j - 1]! = false) → (∀ t, j ≤ t → t < s.length → lt14 x s[t]! = true) → Srt14 (l.take (k + 1)) (putT s x j)) := HP
      obtain ⟨ao, co, rfl, -, hso⟩ := hrow.at
      have hca := hrow.cap
      have HOC : Hid (∀ W, Below wr.heap.size wr W → ∀ t, t < s.length → ∃ b off, ao = some ⟨b, off, none⟩ ∧ W.cell? ⟨b, off + t, none⟩ = some (.string s[t]!)) := fun W h t ht => by
        obtain ⟨b, off, e, hb, hc⟩ := hso t ht
        exact ⟨b, off, e, (h.cell (p := ⟨b, off + t, none⟩) hb).trans hc⟩
      have HORD := fun (y : ByteArray) (W : World) (hy : y.size ≤ 1048576) => sOrder x y W hxz hy
      obtain ⟨wo, rfl⟩ : ∃ wo : World, wo = wr := ⟨_, rfl⟩
      have HBW : Hid (Below w.heap.size w wo) := hbel
      have HRW : Hid (TxtRow wo w.heap.size (.slice ao s.length co) s) := hrow
      clear hso HP HPU HSL hrow hcs hz hbel HEN hc1
      go_wp2
      go_loopw [5] (fun av wx => ∃ j : Nat, j ≤ s.length ∧ av = .int .i64 j ∧ Hid (∀ t, j ≤ t → t < s.length → lt14 x s[t]! = true) ∧ Below wo.heap.size wo wx) (fun av _ => (intOf av).toNat)
      case atStart => exact ⟨s.length, Nat.le_refl _, rfl, fun t h1 h2 => by omega, Below.refl _ _⟩
      case round =>
        obtain ⟨j, hj, rfl, HGE, hbx⟩ := hrel
        obtain ⟨q, HQ⟩ : ∃ q, Hid (q = (decide (0 < j) && lt14 x s[j - 1]!)) := ⟨_, rfl⟩
        go_upto_region 6 with fail
        go_cut [30] from 16 to 32 (fun qv wy => qv = .bool q ∧ Below wr.heap.size wr wy)
        case first =>
          cases j with
          | zero =>
            obtain rfl : q = false := HQ.out
            clear HOC HORD HC1 HGE HP2 HRW HBW
            refine wp_region_quiet_below (by kernel_rfl) (by kernel_rfl) ?_
            repeat (go_big_quiet_step (fail))
            refine wpQuiet_nil ?_
            rintro w' ⟨⟨dq, osq⟩, rfl⟩
            have hbq := below_regrown wr dq osq
            generalize grow (redrawn wr dq) osq = w4 at hbq ⊢
            (try go_wp2_with fail)
            go_meet
            exact ⟨rfl, hbq⟩
          | succ j =>
            have hq : q = lt14 x s[j]! := by rw [HQ.out]; simp
            obtain ⟨b2, o2, rfl, hc2⟩ := HOC.out _ hbx j (by omega)
            have hc1 := HC1.out _ (HBW.out.trans (hbx.mono HBW.out.size))
            have hcall := fun dd os => Calls.regrown_of (d := dd) (os := os) (HORD s[j]! (grow (redrawn wr dd) os) (hsz j (by omega)))
            have HOQ : Hid (decide (ordN x s[j]! < 0) = q) := by
              show _ = _
              rw [hq, Bool.eq_iff_iff, decide_eq_true_eq]
              exact ord_neg x s[j]!
            generalize ordN x s[j]! = od at hcall HOQ
            generalize s[j]! = y at hc2 hcall
            have k1 := cell_regrown hc1
            have k2 := cell_regrown hc2
            have hj0 : (0 : Int) < (j : Int) + 1 := by omega
            have hj1 : IntKind.i64.wrap ((j : Int) + 1 - 1) = (j : Int) := by rw [IntKind.wrap_i64]; omega
            have hj2 : IntKind.i64.wrap (j : Int) = (j : Int) := by rw [IntKind.wrap_i64]; omega
            have hj3 : (j : Int) < (s.length : Int) := by omega
            have hk3 : (k : Int) < (n : Int) := by omega
            have hodq := HOQ.out
            clear hq HQ HOC HORD HC1 HGE HP2 HRW HBW hc1 hc2 HOQ
            refine wp_region_quiet_below (by kernel_rfl) (by kernel_rfl) ?_
            repeat (go_big_quiet_step (exact hcall _ _))
            refine wpQuiet_nil ?_
            rintro w' ⟨⟨dq, osq⟩, rfl⟩
            have hbq := below_regrown wr dq osq
            generalize grow (redrawn wr dq) osq = w4 at hbq ⊢
            (try go_wp2_with fail)
            (try rw [hodq])
            go_meet
            exact ⟨rfl, hbq⟩
        case rest =>
          obtain ⟨rfl, hby⟩ := hcut
          have hbz := hbx.trans (hby.mono hbx.size)
          cases q
          · have hlo : j = 0 ∨ lt14 x s[j - 1]! = false := by
              have := HQ.out
              by_cases e : j = 0
              · exact .inl e
              · right
                rwa [decide_eq_true (by omega), Bool.true_and, eq_comm] at this
            have HSR : Hid (Srt14 (l.take (k + 1)) (putT s x j)) := HP2.out j hj hlo HGE.out
            have hrowz := HRW.out.below hbz
            have hcx := HC1.out _ (HBW.out.trans (hbz.mono HBW.out.size))
            have hBz := HBW.out.trans (hbz.mono HBW.out.size)
            have hsl1 := fun W => slice_txt_h ao s.length co j W (by omega)
            have hsl2 := fun W => slice_txt_l ao s.length co j W hj
            have HT1 : Hid (∀ W, Below wc.heap.size wc W → TxtsAt W (sliced ao 0 j co 1) (s.take j)) := fun W h => by
              have := (hrowz.at.below h).cut rfl 0 j (Nat.zero_le _) hj hca
              simpa using this
            have HT2 : Hid (∀ W, Below wc.heap.size wc W → TxtsAt W (sliced ao j s.length co 1) (s.drop j)) := fun W h => by
              have := (hrowz.at.below h).cut rfl j s.length hj (Nat.le_refl _) hca
              simpa using this
            generalize sliced ao 0 j co 1 = U1 at hsl1 HT1
            generalize sliced ao j s.length co 1 = U2 at hsl2 HT2
            have hL := lit_txts wc
            have hbl := below_lit wc (.cells #[] 9)
            have HJ : Hid (j ≤ s.length) := hj
            have hln : (s.take j).length ≤ s.length := by rw [List.length_take]; exact Nat.min_le_right _ _
            clear HP2 HRW HBW HOC HORD HC1 HQ HGE hlo hrowz hca hj hsz hbx hby
            go_upto_region 9 with (at_builtin; refine append_txts _ rfl (.tmp 33) (.tmp 36) rfl wc.heap.size _ _ [] (s.take j) (by simp; omega) hL (HT1.out _ hbl) rfl rfl hbl.size ?_; intro v5 w5 row5 b5)
            rw [List.nil_append] at row5
            have B5 : Below wc.heap.size wc w5 := hbl.trans b5
            have hc5 := (B5.cell (p := ⟨b1, o1 + k, none⟩) (World.block_lt_of_cell? wc _ hcx)).trans hcx
            obtain ⟨a5, c5, rfl, -⟩ := row5.at
            go_upto_region 10 with (at_builtin; refine append_txt w5 rfl (.tmp 38) (.tmp 43) rfl wc.heap.size _ (s.take j) x (by omega) row5 rfl rfl B5.size ?_; intro v6 w6 row6 b6)
            have B6 : Below wc.heap.size wc w6 := B5.trans b6
            obtain ⟨a6, c6, rfl, -⟩ := row6.at
            have hT2 := HT2.out w6 B6
            have hld : (s.take j ++ [x]).length + (s.drop j).length ≤ 1099511627776 := by simp; omega
            clear HT1 HT2 row5 hc5 hcx hL
            go_wp2_with (at_builtin; refine append_txts _ rfl (.tmp 45) (.tmp 48) rfl wc.heap.size _ _ (s.take j ++ [x]) (s.drop j) hld row6 hT2 rfl rfl B6.size ?_; intro v7 w7 row7 b7)
            have HR7 : Hid (TxtRow w7 w.heap.size v7 (putT s x j)) := (show TxtRow w7 wc.heap.size v7 (putT s x j) from row7).mono hBz.size
            have HB7 : Hid (Below w.heap.size w w7) := hBz.trans ((B6.trans b7).mono hBz.size)
            go_roundw
            case rel => exact ⟨k + 1, putT s x j, by omega, by go_num, HR7.out, HSR, HB7.out⟩
            case measure => simp [intOf]; omega
          · have hq := HQ.out
            obtain ⟨i, rfl⟩ : ∃ i, j = i + 1 := ⟨j - 1, by
              cases j with
              | zero => simp at hq
              | succ j => omega⟩
            have HG2 : Hid (∀ t, i ≤ t → t < s.length → lt14 x s[t]! = true) := fun t h1 h2 => by
              by_cases e : t = i
              · subst e; simpa using hq.symm
              · exact HGE.out t (by omega) h2
            have hw1 : IntKind.i64.wrap ((i : Int) + 1 - 1) = (i : Int) := by rw [IntKind.wrap_i64]; omega
            clear hq HQ HGE
            go_wp2
            go_roundw
            case rel => exact ⟨i, by omega, by go_num, HG2, hbz⟩
            case measure => simp [intOf]
    · obtain rfl : k = n := by omega
      obtain rfl := HEN.out s HS.out
      go_wp2
      go_ret
      exact ⟨_, rfl, hrow, hbel⟩
end

section
open Go.RowKit

structure OwB (w : World) (lo hi : Nat) (e : TypeId) (size : Nat) (v : Value) (n : Nat) (xs : List Value) : Prop where
  row : w.ownsRow lo e size v n xs
  top : ∀ k, v.ownBlock = some k → k < hi
theorem OwB.new {w w' : World} {e : TypeId} {size n : Nat} {v : Value} {xs : List Value} (h : w'.ownsRow w.heap.size e size v n xs) : OwB w' w.heap.size w'.heap.size e size v n xs :=
  ⟨h, fun k e => (World.ownsRow.lt h k e).2⟩
theorem OwB.below {w w' : World} {lo hi : Nat} {e : TypeId} {size n : Nat} {v : Value} {xs : List Value} (h : OwB w lo hi e size v n xs) (b : Below w.heap.size w w') : OwB w' lo hi e size v n xs :=
  ⟨⟨h.row.1, by
    rcases h.row.2 with h0 | ⟨g, cap, cur, e, hg, hh, r⟩
    · exact .inl h0
    · exact .inr ⟨g, cap, cur, e, hg, (b.block g (lt_of_block hh)).trans hh, r⟩⟩, h.top⟩
/-- a row that another one's marks leave alone -/
theorem OwB.kept {w w' : World} {lo hi lo2 hi2 : Nat} {e e2 : TypeId} {size size2 n n2 : Nat} {v u : Value} {xs ys : List Value} (h : OwB w lo hi e size v n xs) (h2 : OwB w lo2 hi2 e2 size2 u n2 ys) (hg : w.grownBy w' u.ownBlock) (hd : hi ≤ lo2 ∨ hi2 ≤ lo) : OwB w' lo hi e size v n xs := by
  refine ⟨World.ownsRow.kept h.row hg ?_, h.top⟩
  cases e : v.ownBlock with
  | none => exact .inl rfl
  | some k =>
    right
    intro e2
    have h1 := (World.ownsRow.lt h.row k e).1
    have h3 := h.top k e
    have h4 := (World.ownsRow.lt h2.row k e2.symm).1
    have h5 := h2.top k e2.symm
    omega
theorem OwB.marked {w w' : World} {lo hi : Nat} {e : TypeId} {size n n2 : Nat} {v : Value} {xs ys : List Value} (h : OwB w lo hi e size v n xs) (r : w'.ownsRow lo e size v n2 ys) : OwB w' lo hi e size v n2 ys := ⟨r, h.top⟩
/-- marks put into a row from lo on write nothing below it -/
theorem OwB.bel {w w' : World} {B lo hi : Nat} {e : TypeId} {size n : Nat} {v : Value} {xs : List Value} (h : OwB w lo hi e size v n xs) (hg : w.grownBy w' v.ownBlock) (hB : B ≤ lo) (hs : B ≤ w.heap.size) : Below B w w' :=
  ⟨hg.os, hg.tape, hg.output, hg.size, fun k hk => hg.block k (by omega) (fun e => by have := (World.ownsRow.lt h.row k e.symm).1; omega)⟩
end

end Go.Proofs.YtlkemmdcjnaepaaDoor
