/- The law of what is taken apart: its walk. -/
import Derived.Test.YtalpeeaaaapijaaRows
import Derived.Test.YtalpeeaaaapijaaSd2
import Derived.Test.YtalpeeaaaapijaaPNil
import Derived.Test.YtalpeeaaaapijaaIApt
import Derived.Test.YtalpeeaaaapijaaSAp
import Derived.Test.YtalpeeaaaapijaaSmI
namespace Go.Proofs.Ytalpeeaaaapijaa
open Go.RowKit Go.Sort

set_option maxRecDepth 100000 in
theorem at0_any (S : Src) (ok : S.ok) :
    ∃ x : Int, 0 ≤ x ∧ x ≤ 255 ∧ ∀ w', Lies S w' → Calls Try.prog 15 #[.slice S.a S.len S.cap, .int .i64 0] w' fun e w'' => e = .returned (.int .i64 x) ∧ w' = w'' := by
  have hlen : S.len ≤ 1048576 := ok.1
  have hb := ok.2 0
  by_cases h : 0 < S.len
  · refine ⟨S.zs.getD 0 0, hb.1, hb.2, fun w' hl' => ?_⟩
    obtain ⟨b, off, ha, hc1⟩ := hl' 0 h
    rw [ha]
    rw [Nat.add_zero] at hc1
    generalize S.zs.getD 0 0 = x at hc1 hb ⊢
    have h' : (0 : Int) < (S.len : Int) := by omega
    go_enter Try.func15, Try.ntmps15
    go_wp2
    go_ret
    exact ⟨ret_int (by first | rfl | (simp; done) | (simp; omega)), rfl⟩
  · refine ⟨0, by omega, by omega, fun w' _ => ?_⟩
    have h0 : S.len = 0 := by omega
    rw [h0]
    go_enter Try.func15, Try.ntmps15
    go_wp2
    go_ret
    exact ⟨ret_int (by first | rfl | (simp; done) | (simp; omega)), rfl⟩

theorem prts_any (c : Int) (hp : partsN c = []) (w : World) (d : Nat) (os : Array Obj) :
    Calls Try.prog 13 #[.int .i64 c] (grow (redrawn w d) os) fun e w'' => e = .returned (.slice none 0 0) ∧ ∃ p : Regrown, w'' = grow (redrawn w p.d) p.os :=
  Calls.regrown_of (iPartsNil c _ hp)

/-- marks stand in their order -/
theorem apart_order (l : List Int) (i : Nat) (hi : i + 1 < (apartN l).length) : ¬ (0 < clsN ((apartN l).getD (i + 1) 0) ∧ clsN ((apartN l).getD (i + 1) 0) < clsN ((apartN l).getD i 0)) := by
  unfold apartN srtN at *
  have hok := srtR_ok (l.flatMap takeN) [] trivial
  generalize srtR [] (l.flatMap takeN) = r at hok hi ⊢
  rw [List.length_reverse] at hi
  have h := okR_at r hok (r.length - 1 - (i + 1)) (by omega)
  have e1 : r.reverse.getD (i + 1) 0 = r.getD (r.length - 1 - (i + 1)) 0 := by
    simp only [List.getD]
    rw [List.getElem?_reverse (by omega)]
  have e2 : r.reverse.getD i 0 = r.getD (r.length - 1 - (i + 1) + 1) 0 := by
    simp only [List.getD]
    rw [List.getElem?_reverse (by omega)]
    congr 2; omega
  rw [e1, e2]
  exact h

/-- 'append(out, x...)', out and x rows of the call's own -/
theorem append_rows (w : World) {ops : Array Oper} {rest : List Oper} {o : Oper} {a : Act} {Q : Exit → Act → World → Prop} (hgd : o.guard = none) (s x : Operand)
    (ho : o.op = .call { callee := .builtin .append, args := #[s, x], argTypes := #[24, 24] }) (base b2 : Nat)
    (v u : Value) (l m : List Int) (hl : l.length + m.length ≤ 1099511627776) (hown : IntRow w base v l) (hu : IntRow w b2 u m) (hs : a.eval s = v) (hx : a.eval x = u)
    (hbase : base ≤ w.heap.size)
    (h : ∀ v' w', IntRow w' base v' (l ++ m) → Below base w w' → wpList Try.prog ops Q rest (a.put o.dst v') w') :
    wpList Try.prog ops Q (o :: rest) a w := by
  obtain ⟨i0, hi, hz0, hz1, hz2⟩ := info_parts Try.infoInt
  rcases hu.2 with ⟨rfl, h0⟩ | ⟨g, cap, cur, rfl, hg, hh, hnc, hcp, hcs, htake⟩
  · have hm : m = [] := List.eq_nil_of_length_eq_zero h0
    subst hm
    refine wpList_plain hgd fun K hK' => ?_
    have hr := run_append_owned_none (P := Try.prog) w base 24 o.type 3 i0 1 Try.underlying24 hi v l.length (intsV l) hown
    unfold Oper.wp
    simp [execOp, ho, resolve, invoke, builtin, hs, hx, hr, Result.andThen]
    exact hK' _ _ (h v w (by simpa using hown) (Below.refl _ _))
  · have hcl : ∀ j y, (intsV m)[j]? = some y → w.cell? ((⟨g, 0, none⟩ : Addr).add j) = some y := by
      intro j y hy
      have hj : j < m.length := by
        have := (List.getElem?_eq_some_iff.1 hy).1
        simpa [intsV] using this
      rw [Addr.add_lit, Nat.zero_add, World.ownsRow.cellAt hu j (by omega)]
      exact hy
    have hlen : (intsV m).length = m.length := by simp [intsV]
    refine wpList_append_own _ hgd s x 24 ho base 3 i0 (.int .i64 0) 1 8 Try.underlying24 hi hz0 hz1 hz2 rfl (by decide) v l.length (intsV l) hs hown ⟨g, 0, none⟩ m.length cap (intsV m) hx (by rw [hlen]; omega) hcl ?_ (by unfold maxLen; omega) (by omega) hbase ?_
    · intro y hy
      simp only [intsV] at hy
      obtain ⟨z, _, rfl⟩ := List.mem_map.1 hy
      rfl
    · intro v' w' hown' hgrow _
      refine h v' w' ?_ ?_
      · unfold IntRow
        rw [intsV_append, List.length_append]
        exact hown'
      · refine (Below.refl base w).grown hgrow hbase ?_
        intro k hk
        exact (World.ownsRow.lt hown k hk).1

theorem IntsAt.take {w : World} {a : Option Addr} {n cap : Nat} {l : List Int} (h : IntsAt w (.slice a n cap) l) (k : Nat) (hk : k ≤ l.length) : IntsAt w (.slice a k cap) (l.take k) := by
  obtain ⟨a', cap', e, hc⟩ := h
  cases e
  have hlen : (l.take k).length = k := by simp; omega
  refine ⟨a, cap, by rw [hlen], fun t ht => ?_⟩
  rw [hlen] at ht
  obtain ⟨b, off, h1, h2, h3⟩ := hc t (by omega)
  refine ⟨b, off, h1, h2, h3.trans ?_⟩
  simp only [List.getD]
  rw [List.getElem?_take_of_lt ht]
theorem IntsAt.drop {w : World} {g off n cap : Nat} {l : List Int} (h : IntsAt w (.slice (some ⟨g, off, none⟩) n cap) l) (k cap' : Nat) (hk : k ≤ l.length) (n' : Nat) (hn : n' = l.length - k) : IntsAt w (.slice (some ⟨g, off + k, none⟩) n' cap') (l.drop k) := by
  subst hn
  obtain ⟨a, c, e, hc⟩ := h
  cases e
  have hlen : (l.drop k).length = l.length - k := by simp
  refine ⟨some ⟨g, off + k, none⟩, cap', by rw [hlen], fun t ht => ?_⟩
  rw [hlen] at ht
  obtain ⟨b, off', h1, h2, h3⟩ := hc (k + t) (by omega)
  cases h1
  refine ⟨g, off + k, rfl, h2, ?_⟩
  rw [show off + k + t = off + (k + t) by omega, h3]
  simp only [List.getD]
  rw [List.getElem?_drop]

theorem World.ownsRow.lt_size {w : World} {base : Nat} {v : Value} {l : List Int} (h : IntRow w base v l) : ∀ k, v.ownBlock = some k → k < w.heap.size := fun k hk => (World.ownsRow.lt h k hk).2
/-- a row that lies ahead of what is made is kept -/
theorem row_kept {w w' : World} {base B : Nat} {v : Value} {l : List Int} (h : IntRow w base v l) (b : Below B w w') (hB : ∀ k, v.ownBlock = some k → k < B) : IntRow w' base v l :=
  ⟨h.1, by
    rcases h.2 with h0 | ⟨g, cap, cur, rfl, hg, hh, r⟩
    · exact .inl h0
    · exact .inr ⟨g, cap, cur, rfl, hg, (b.block g (hB g rfl)).trans hh, r⟩⟩

set_option maxRecDepth 100000 in
set_option maxHeartbeats 1000000 in
theorem apart_walk (S : Src) (ok : S.ok) (w : World) (hl : Lies S w) :
    Calls Try.prog 3 #[.slice S.a S.len S.cap] w fun e w' => e = .returned (.bool true) ∧ Below w.heap.size w w' := by
  have hlen : S.len ≤ 1048576 := ok.1
  go_enter Try.func3, Try.ntmps3
  go_wp2_with (first | (go_at_call 8; go_in))
  refine (sdrawApart_any S ok _ hl).mono ?_
  rintro e w1 ⟨l, v, hl8, rfl, r1, b1⟩
  have HIA := fun w' u h => iApart u l w' h (by omega)
  have HSA := fun w' h => sApart v l w' (by omega) h
  have hxl : (apartN l).length ≤ 72 := by
    have := takes_len l
    unfold apartN srtN
    rw [List.length_reverse, srtR_len]
    simp only [List.length_nil]; omega
  have HII := fun w' u (h : IntsAt w' u (apartN l)) => iApart u (apartN l) w' h (by omega)
  rw [apart_idem l] at HII
  have HPT : ∀ k, apartN (apartN (l.take k) ++ apartN (l.drop k)) = apartN l := fun k => by rw [apart_parts, List.take_append_drop]
  have HLV : ∀ i, i < (apartN l).length → partsN ((apartN l).getD i 0) = [] := fun i hi => apart_leaves l _ (by simp [List.getD, hi])
  have HOR := apart_order l
  obtain ⟨z, hz0, hz1, HAT⟩ := at0_any S ok
  have HPL : ∀ k, (apartN (l.take k)).length ≤ 72 ∧ (apartN (l.drop k)).length ≤ 72 := fun k => by
    have h1 := takes_len (l.take k)
    have h2 := takes_len (l.drop k)
    unfold apartN srtN
    rw [List.length_reverse, List.length_reverse, srtR_len, srtR_len]
    simp only [List.length_nil, List.length_take, List.length_drop] at *
    omega
  obtain ⟨x, HX⟩ : ∃ x, Hid (x = apartN l) := ⟨_, rfl⟩
  rw [← HX.out] at HIA HSA HII hxl HLV HOR
  have HPT' : Hid (∀ k, apartN (apartN (l.take k) ++ apartN (l.drop k)) = x) := fun k => by rw [HX.out]; exact HPT k
  clear HPT
  go_wp2_with fail
  refine (HIA w1 v r1.at).mono ?_
  rintro e w2 ⟨u2, rfl, r2, b2⟩
  have D2 : Below w.heap.size w w2 := b1.trans (b2.mono b1.size)
  have r12 := r1.below b2
  go_wp2_with fail
  refine (HII w2 u2 r2.at).mono ?_
  rintro e w3 ⟨u3, rfl, r3, b3⟩
  have D3 : Below w.heap.size w w3 := D2.trans (b3.mono D2.size)
  have r13 := r12.below b3
  have r23 := r2.below b3
  have S1 := sameInts_any u3 u2 x x w3 (by omega) r3.at r23.at
  rw [decide_eq_true rfl] at S1
  go_wp2_with fail
  refine S1.mono ?_
  rintro e w4 ⟨rfl, b4⟩
  have D4 : Below w.heap.size w w4 := D3.trans (b4.mono D3.size)
  have r14 := r13.below b4
  have r24 := r23.below b4
  clear S1 r3 r13 r23
  go_wp2_with fail
  refine (HSA w4 r14.at).mono ?_
  rintro e w5 ⟨u5, rfl, r5, b5⟩
  have D5 : Below w.heap.size w w5 := D4.trans (b5.mono D4.size)
  have r15 := r14.below b5
  have r25 := r24.below b5
  have S2 := sameInts_any u2 u5 x x w5 (by omega) r25.at r5.at
  rw [decide_eq_true rfl] at S2
  go_wp2_with fail
  refine S2.mono ?_
  rintro e w6 ⟨rfl, b6⟩
  have D6 : Below w.heap.size w w6 := D5.trans (b6.mono D5.size)
  have r16 := r15.below b6
  have r26 := r25.below b6
  clear S2 r5 r15 r25 r14 r24 r12 HSA
  obtain ⟨a2, c2, rfl, hc2⟩ := r26.at
  obtain ⟨n, HN⟩ : ∃ n, Hid (n = x.length) := ⟨_, rfl⟩
  rw [← HN.out] at hc2 hxl ⊢
  have HC2 : Hid (∀ t, t < n → ∃ b off, a2 = some ⟨b, off, none⟩ ∧ b < w6.heap.size ∧ w6.cell? ⟨b, off + t, none⟩ = some (.int .i64 (x.getD t 0))) := hc2
  clear hc2
  go_wp2
  go_loopw [5] (fun vi wr => ∃ i : Nat, i ≤ n ∧ vi = .int .i64 i ∧ Below w6.heap.size w6 wr) (fun vi _ => n - (intOf vi).toNat)
  case atStart => exact ⟨0, Nat.zero_le _, rfl, Below.refl _ _⟩
  case round =>
    obtain ⟨i, hi, rfl, hbel⟩ := hrel
    by_cases hlt : i < n
    · have hltz : (i : Int) < (n : Int) := by omega
      have hlv := HLV i (by have := HN.out; omega)
      obtain ⟨b1', o1', rfl, hb1, hc1⟩ := HC2.out i hlt
      have k1 := cell_regrown ((hbel.cell (p := ⟨b1', o1' + i, none⟩) hb1).trans hc1)
      by_cases h0 : i = 0
      · subst h0
        rw [Nat.add_zero] at k1
        generalize x.getD 0 0 = y at *
        go_wp2
        refine wp_region_quiet_below (by kernel_rfl) (by kernel_rfl) ?_
        repeat (go_big_quiet_step (exact prts_any _ hlv _ _ _))
        refine wpQuiet_nil ?_
        rintro w' ⟨⟨dq, osq⟩, rfl⟩
        have hbq := below_regrown wr dq osq
        generalize grow (redrawn wr dq) osq = w7 at hbq ⊢
        have hbel7 : Below w6.heap.size w6 w7 := hbel.trans (hbq.mono hbel.size)
        go_wp2
        go_roundw
        case rel => exact ⟨0 + 1, by omega, by go_num, hbel7⟩
        case measure => simp [intOf]; omega
      · obtain ⟨j, HJ⟩ : ∃ j, Hid (i = j + 1) := ⟨i - 1, show i = i - 1 + 1 by omega⟩
        obtain ⟨b2', o2', e2, hb2, hc2⟩ := HC2.out j (by have := HJ.out; omega)
        cases e2
        have k2 := cell_regrown ((hbel.cell (p := ⟨b1', o1' + j, none⟩) hb2).trans hc2)
        have hor := HOR j (by have := HJ.out; have := HN.out; omega)
        have zj : IntKind.i64.wrap ((i : Int) - 1) = (j : Int) := by have hj := HJ.out; rw [IntKind.wrap_i64]; omega
        have hjn : (j : Int) < (n : Int) := by have := HJ.out; omega
        have hi0 : 0 < i := by omega
        rw [← HJ.out] at hor
        generalize x.getD i 0 = y at *
        generalize x.getD j 0 = y' at *
        by_cases hy : 0 < clsN y
        · have hyy : ¬ clsN y < clsN y' := fun q => hor ⟨hy, q⟩
          clear hor
          go_wp2
          refine wp_region_quiet_below (by kernel_rfl) (by kernel_rfl) ?_
          repeat (go_big_quiet_step (first | exact cls_any _ _ _ _ | exact prts_any _ hlv _ _ _))
          refine wpQuiet_nil ?_
          rintro w' ⟨⟨dq, osq⟩, rfl⟩
          have hbq := below_regrown wr dq osq
          generalize grow (redrawn wr dq) osq = w7 at hbq ⊢
          have hbel7 : Below w6.heap.size w6 w7 := hbel.trans (hbq.mono hbel.size)
          go_wp2
          go_roundw
          case rel => exact ⟨i + 1, by omega, by go_num, hbel7⟩
          case measure => simp [intOf]; omega
        · have hyd : decide (0 < clsN y) = false := decide_eq_false hy
          clear hor
          go_wp2
          refine wp_region_quiet_below (by kernel_rfl) (by kernel_rfl) ?_
          repeat (go_big_quiet_step (first | exact cls_any _ _ _ _ | exact prts_any _ hlv _ _ _))
          refine wpQuiet_nil ?_
          rintro w' ⟨⟨dq, osq⟩, rfl⟩
          have hbq := below_regrown wr dq osq
          generalize grow (redrawn wr dq) osq = w7 at hbq ⊢
          have hbel7 : Below w6.heap.size w6 w7 := hbel.trans (hbq.mono hbel.size)
          go_wp2
          go_roundw
          case rel => exact ⟨i + 1, by omega, by go_num, hbel7⟩
          case measure => simp [intOf]; omega
    · obtain rfl : i = n := by omega
      have D7 : Below w.heap.size w wr := D6.trans (hbel.mono D6.size)
      have r17 := r16.below hbel
      have r27 := r26.below hbel
      have hL := hl.below D7
      have hAt := HAT wr hL
      rw [← HN.out] at r27
      clear HC2 HLV HOR HII HIA r16 r26
      rcases r17.2 with ⟨rfl, h0⟩ | ⟨g, cap, cur, rfl, hg, hh, hnc, hcp, hcs, htake⟩
      · have hl0 : Hid (l = []) := List.eq_nil_of_length_eq_zero h0
        have KA : IntsAt wr (.slice none 0 0) (l.take 0) := ⟨none, 0, by simp, fun t ht => by simp at ht⟩
        have KB : IntsAt wr (.slice none 0 0) (l.drop 0) := by rw [hl0.out]; exact ⟨none, 0, rfl, fun t ht => by simp at ht⟩
        have H1 := iApart _ (l.take 0) wr KA (by rw [List.length_take]; omega)
        go_wp2_with fail
        refine H1.mono ?_
        rintro e w8 ⟨u8, rfl, r8, b8⟩
        have H2 := iApart _ (l.drop 0) w8 (KB.below b8) (by rw [List.length_drop]; omega)
        go_wp2_with fail
        refine H2.mono ?_
        rintro e w9 ⟨u9, rfl, r9, b9⟩
        have r89 := r8.below b9
        have D8 : Below w.heap.size w w8 := D7.trans (b8.mono D7.size)
        have D9 : Below w.heap.size w w9 := D8.trans (b9.mono D8.size)
        have r29 := (r27.below b8).below b9
        have hpl := HPL 0
        have hpt := HPT'.out 0
        clear H1 H2 HPL HPT'
        generalize apartN (l.take 0) = pa at *
        generalize apartN (l.drop 0) = pb at *
        have e0 : IntRow (w9.alloc (.cells #[] 3)) w9.heap.size (.slice (some ⟨w9.heap.size, 0, none⟩) 0 0) [] := lit_at w9 #[] [] 0 rfl rfl (by decide)
        have hsA : w9.heap.size ≤ (w9.alloc (.cells #[] 3)).heap.size := by rw [hs_alloc]; omega
        have bA : Below w9.heap.size w9 (w9.alloc (.cells #[] 3)) := (Below.refl _ _).alloc (Nat.le_refl _) _
        have r8A := r89.below bA
        have r9A := r9.below bA
        have r2A := r29.below bA
        have hF := fun w' u (h : IntsAt w' u (pa ++ pb)) => iApart u (pa ++ pb) w' h (by rw [List.length_append]; omega)
        rw [hpt] at hF
        have hp1 : ([] : List Int).length + pa.length ≤ 1099511627776 := by simp; omega
        have hp2 : ([] ++ pa).length + pb.length ≤ 1099511627776 := by simp; omega
        go_wp2_with (first | (at_builtin; refine append_rows _ rfl (.tmp 82) (.tmp 83) rfl w9.heap.size _ _ _ [] pa hp1 e0 r8A rfl rfl hsA ?_; intro v10 w10 r10 b10; have r9B := row_kept r9A b10 (World.ownsRow.lt_size r9); have r2B := row_kept r2A b10 (World.ownsRow.lt_size r29); have hs10 : w9.heap.size ≤ w10.heap.size := Nat.le_trans hsA b10.size) | (at_builtin; refine append_rows w10 rfl (.tmp 84) (.tmp 85) rfl w9.heap.size _ _ _ ([] ++ pa) pb hp2 r10 r9B rfl rfl hs10 ?_; intro v11 w11 r11 b11; have r2C := row_kept r2B b11 (World.ownsRow.lt_size r29)))
        have D11 : Below w.heap.size w w11 := D9.trans ((bA.trans (b10.trans b11)).mono D9.size)
        refine (hF _ _ (by simpa using r11.at)).mono ?_
        rintro e w12 ⟨u12, rfl, r12, b12⟩
        have D12 : Below w.heap.size w w12 := D11.trans (b12.mono D11.size)
        have r2D := r2C.below b12
        have S3 := sameInts_any u12 _ x x w12 (by have := HN.out; omega) r12.at r2D.at
        rw [decide_eq_true rfl] at S3
        go_wp2_with fail
        refine S3.mono ?_
        rintro e w13 ⟨rfl, b13⟩
        go_wp2
        go_ret
        exact ⟨rfl, D12.trans (b13.mono D12.size)⟩
      · have R := r17.at
        have hcm : cap ≤ 9223372036854775807 := by unfold maxLen at hcp; omega
        obtain ⟨m, HM⟩ : ∃ m, Hid (m = l.length) := ⟨_, rfl⟩
        rw [← HM.out] at hl8 hnc R ⊢
        clear hh hcp hcs htake
        by_cases hm0 : m = 0
        · subst hm0
          have KA : IntsAt wr (.slice (some ⟨g, 0, none⟩) 0 cap) (l.take 0) := R.take 0 (by omega)
          have KB : IntsAt wr (.slice (some ⟨g, 0, none⟩) 0 cap) (l.drop 0) := by simpa using R
          have hlm : l.length ≤ 8 := by have := HM.out; omega
          by_cases hc0 : cap = 0
          · subst hc0
            have H1 := iApart _ (l.take 0) wr KA (by rw [List.length_take]; omega)
            go_wp2_with fail
            refine H1.mono ?_
            rintro e w8 ⟨u8, rfl, r8, b8⟩
            have H2 := iApart _ (l.drop 0) w8 (KB.below b8) (by rw [List.length_drop]; omega)
            go_wp2_with fail
            refine H2.mono ?_
            rintro e w9 ⟨u9, rfl, r9, b9⟩
            have r89 := r8.below b9
            have D8 : Below w.heap.size w w8 := D7.trans (b8.mono D7.size)
            have D9 : Below w.heap.size w w9 := D8.trans (b9.mono D8.size)
            have r29 := (r27.below b8).below b9
            have hpl := HPL 0
            have hpt := HPT'.out 0
            clear H1 H2 HPL HPT'
            generalize apartN (l.take 0) = pa at *
            generalize apartN (l.drop 0) = pb at *
            have e0 : IntRow (w9.alloc (.cells #[] 3)) w9.heap.size (.slice (some ⟨w9.heap.size, 0, none⟩) 0 0) [] := lit_at w9 #[] [] 0 rfl rfl (by decide)
            have hsA : w9.heap.size ≤ (w9.alloc (.cells #[] 3)).heap.size := by rw [hs_alloc]; omega
            have bA : Below w9.heap.size w9 (w9.alloc (.cells #[] 3)) := (Below.refl _ _).alloc (Nat.le_refl _) _
            have r8A := r89.below bA
            have r9A := r9.below bA
            have r2A := r29.below bA
            have hF := fun w' u (h : IntsAt w' u (pa ++ pb)) => iApart u (pa ++ pb) w' h (by rw [List.length_append]; omega)
            rw [hpt] at hF
            have hp1 : ([] : List Int).length + pa.length ≤ 1099511627776 := by simp; omega
            have hp2 : ([] ++ pa).length + pb.length ≤ 1099511627776 := by simp; omega
            go_wp2_with (first | (at_builtin; refine append_rows _ rfl (.tmp 82) (.tmp 83) rfl w9.heap.size _ _ _ [] pa hp1 e0 r8A rfl rfl hsA ?_; intro v10 w10 r10 b10; have r9B := row_kept r9A b10 (World.ownsRow.lt_size r9); have r2B := row_kept r2A b10 (World.ownsRow.lt_size r29); have hs10 : w9.heap.size ≤ w10.heap.size := Nat.le_trans hsA b10.size) | (at_builtin; refine append_rows w10 rfl (.tmp 84) (.tmp 85) rfl w9.heap.size _ _ _ ([] ++ pa) pb hp2 r10 r9B rfl rfl hs10 ?_; intro v11 w11 r11 b11; have r2C := row_kept r2B b11 (World.ownsRow.lt_size r29)))
            have D11 : Below w.heap.size w w11 := D9.trans ((bA.trans (b10.trans b11)).mono D9.size)
            refine (hF _ _ (by simpa using r11.at)).mono ?_
            rintro e w12 ⟨u12, rfl, r12, b12⟩
            have D12 : Below w.heap.size w w12 := D11.trans (b12.mono D11.size)
            have r2D := r2C.below b12
            have S3 := sameInts_any u12 _ x x w12 (by have := HN.out; omega) r12.at r2D.at
            rw [decide_eq_true rfl] at S3
            go_wp2_with fail
            refine S3.mono ?_
            rintro e w13 ⟨rfl, b13⟩
            go_wp2
            go_ret
            exact ⟨rfl, D12.trans (b13.mono D12.size)⟩
          · have hcp : 0 < cap := by omega
            have H1 := iApart _ (l.take 0) wr KA (by rw [List.length_take]; omega)
            go_wp2_with fail
            refine H1.mono ?_
            rintro e w8 ⟨u8, rfl, r8, b8⟩
            have H2 := iApart _ (l.drop 0) w8 (KB.below b8) (by rw [List.length_drop]; omega)
            go_wp2_with fail
            refine H2.mono ?_
            rintro e w9 ⟨u9, rfl, r9, b9⟩
            have r89 := r8.below b9
            have D8 : Below w.heap.size w w8 := D7.trans (b8.mono D7.size)
            have D9 : Below w.heap.size w w9 := D8.trans (b9.mono D8.size)
            have r29 := (r27.below b8).below b9
            have hpl := HPL 0
            have hpt := HPT'.out 0
            clear H1 H2 HPL HPT'
            generalize apartN (l.take 0) = pa at *
            generalize apartN (l.drop 0) = pb at *
            have e0 : IntRow (w9.alloc (.cells #[] 3)) w9.heap.size (.slice (some ⟨w9.heap.size, 0, none⟩) 0 0) [] := lit_at w9 #[] [] 0 rfl rfl (by decide)
            have hsA : w9.heap.size ≤ (w9.alloc (.cells #[] 3)).heap.size := by rw [hs_alloc]; omega
            have bA : Below w9.heap.size w9 (w9.alloc (.cells #[] 3)) := (Below.refl _ _).alloc (Nat.le_refl _) _
            have r8A := r89.below bA
            have r9A := r9.below bA
            have r2A := r29.below bA
            have hF := fun w' u (h : IntsAt w' u (pa ++ pb)) => iApart u (pa ++ pb) w' h (by rw [List.length_append]; omega)
            rw [hpt] at hF
            have hp1 : ([] : List Int).length + pa.length ≤ 1099511627776 := by simp; omega
            have hp2 : ([] ++ pa).length + pb.length ≤ 1099511627776 := by simp; omega
            go_wp2_with (first | (at_builtin; refine append_rows _ rfl (.tmp 82) (.tmp 83) rfl w9.heap.size _ _ _ [] pa hp1 e0 r8A rfl rfl hsA ?_; intro v10 w10 r10 b10; have r9B := row_kept r9A b10 (World.ownsRow.lt_size r9); have r2B := row_kept r2A b10 (World.ownsRow.lt_size r29); have hs10 : w9.heap.size ≤ w10.heap.size := Nat.le_trans hsA b10.size) | (at_builtin; refine append_rows w10 rfl (.tmp 84) (.tmp 85) rfl w9.heap.size _ _ _ ([] ++ pa) pb hp2 r10 r9B rfl rfl hs10 ?_; intro v11 w11 r11 b11; have r2C := row_kept r2B b11 (World.ownsRow.lt_size r29)))
            have D11 : Below w.heap.size w w11 := D9.trans ((bA.trans (b10.trans b11)).mono D9.size)
            refine (hF _ _ (by simpa using r11.at)).mono ?_
            rintro e w12 ⟨u12, rfl, r12, b12⟩
            have D12 : Below w.heap.size w w12 := D11.trans (b12.mono D11.size)
            have r2D := r2C.below b12
            have S3 := sameInts_any u12 _ x x w12 (by have := HN.out; omega) r12.at r2D.at
            rw [decide_eq_true rfl] at S3
            go_wp2_with fail
            refine S3.mono ?_
            rintro e w13 ⟨rfl, b13⟩
            go_wp2
            go_ret
            exact ⟨rfl, D12.trans (b13.mono D12.size)⟩
        · obtain ⟨k, HK⟩ : ∃ k : Nat, Hid (z.tmod (m : Int) = (k : Int)) := ⟨(z.tmod (m : Int)).toNat, by show _ = _; rw [Int.tmod_eq_emod_of_nonneg hz0]; have := Int.emod_nonneg z (show (m : Int) ≠ 0 by omega); omega⟩
          have hkm : k < m := by have h1 := HK.out; rw [Int.tmod_eq_emod_of_nonneg hz0] at h1; have := Int.emod_lt_of_pos z (show (0 : Int) < (m : Int) by omega); omega
          have hrem := HK.out
          have hmpos : 0 < m := by omega
          have hmz : ¬ (m : Int) = 0 := by omega
          have hml := HM.out
          have hkc : k < cap := by omega
          have KA : IntsAt wr (.slice (some ⟨g, 0, none⟩) k cap) (l.take k) := R.take k (by omega)
          have KB : IntsAt wr (.slice (some ⟨g, k, none⟩) (m - k) (cap - k)) (l.drop k) := by simpa using R.drop k (cap - k) (by omega) (m - k) (by omega)
          have HML : Hid (m = l.length) := hml
          have hlm : l.length ≤ 8 := by omega
          clear hml
          go_wp2_with fail
          refine hAt.mono ?_
          rintro e w7 ⟨rfl, rfl⟩
          have H1 := iApart _ (l.take k) wr KA (by rw [List.length_take]; omega)
          go_wp2_with fail
          refine H1.mono ?_
          rintro e w8 ⟨u8, rfl, r8, b8⟩
          have H2 := iApart _ (l.drop k) w8 (KB.below b8) (by rw [List.length_drop]; omega)
          go_wp2_with fail
          refine H2.mono ?_
          rintro e w9 ⟨u9, rfl, r9, b9⟩
          have r89 := r8.below b9
          have D8 : Below w.heap.size w w8 := D7.trans (b8.mono D7.size)
          have D9 : Below w.heap.size w w9 := D8.trans (b9.mono D8.size)
          have r29 := (r27.below b8).below b9
          have hpl := HPL k
          have hpt := HPT'.out k
          clear H1 H2 HPL HPT'
          generalize apartN (l.take k) = pa at *
          generalize apartN (l.drop k) = pb at *
          have e0 : IntRow (w9.alloc (.cells #[] 3)) w9.heap.size (.slice (some ⟨w9.heap.size, 0, none⟩) 0 0) [] := lit_at w9 #[] [] 0 rfl rfl (by decide)
          have hsA : w9.heap.size ≤ (w9.alloc (.cells #[] 3)).heap.size := by rw [hs_alloc]; omega
          have bA : Below w9.heap.size w9 (w9.alloc (.cells #[] 3)) := (Below.refl _ _).alloc (Nat.le_refl _) _
          have r8A := r89.below bA
          have r9A := r9.below bA
          have r2A := r29.below bA
          have hF := fun w' u (h : IntsAt w' u (pa ++ pb)) => iApart u (pa ++ pb) w' h (by rw [List.length_append]; omega)
          rw [hpt] at hF
          have hp1 : ([] : List Int).length + pa.length ≤ 1099511627776 := by simp; omega
          have hp2 : ([] ++ pa).length + pb.length ≤ 1099511627776 := by simp; omega
          go_wp2_with (first | (at_builtin; refine append_rows _ rfl (.tmp 82) (.tmp 83) rfl w9.heap.size _ _ _ [] pa hp1 e0 r8A rfl rfl hsA ?_; intro v10 w10 r10 b10; have r9B := row_kept r9A b10 (World.ownsRow.lt_size r9); have r2B := row_kept r2A b10 (World.ownsRow.lt_size r29); have hs10 : w9.heap.size ≤ w10.heap.size := Nat.le_trans hsA b10.size) | (at_builtin; refine append_rows w10 rfl (.tmp 84) (.tmp 85) rfl w9.heap.size _ _ _ ([] ++ pa) pb hp2 r10 r9B rfl rfl hs10 ?_; intro v11 w11 r11 b11; have r2C := row_kept r2B b11 (World.ownsRow.lt_size r29)))
          have D11 : Below w.heap.size w w11 := D9.trans ((bA.trans (b10.trans b11)).mono D9.size)
          refine (hF _ _ (by simpa using r11.at)).mono ?_
          rintro e w12 ⟨u12, rfl, r12, b12⟩
          have D12 : Below w.heap.size w w12 := D11.trans (b12.mono D11.size)
          have r2D := r2C.below b12
          have S3 := sameInts_any u12 _ x x w12 (by have := HN.out; omega) r12.at r2D.at
          rw [decide_eq_true rfl] at S3
          go_wp2_with fail
          refine S3.mono ?_
          rintro e w13 ⟨rfl, b13⟩
          go_wp2
          go_ret
          exact ⟨rfl, D12.trans (b13.mono D12.size)⟩

end Go.Proofs.Ytalpeeaaaapijaa
