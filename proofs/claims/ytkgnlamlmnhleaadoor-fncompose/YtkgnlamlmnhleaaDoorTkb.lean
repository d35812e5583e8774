/- Names: impl.takeApart: a row of signs, taken apart, each with its class. -/
import Derived.Test.YtkgnlamlmnhleaaDoorRows
import Derived.Test.YtkgnlamlmnhleaaDoorTka
import Derived.Laws.EntriesVeiled
namespace Go.Proofs.YtkgnlamlmnhleaaDoor
open Go.RowKit

theorem Kp.row {h : Nat} {w w' : World} {v : Value} {l : List Int} {base : Nat} (k : Kp h w w') (hr : IntRow w base v l) (hb : h + 3 < base) : IntRow w' base v l :=
  ⟨hr.1, by
    rcases hr.2 with h0 | ⟨g, cap, cur, e, hg, hh, r⟩
    · exact .inl h0
    · exact .inr ⟨g, cap, cur, e, hg, (k.block g (lt_of_block hh) (by omega) (by omega) (fun c fr e => by rw [hh] at e; cases e)).trans hh, r⟩⟩

set_option maxRecDepth 100000 in
set_option maxHeartbeats 2000000 in
theorem tk_step (h : Nat) (c : Int) (tk : Int → List Int) (hne : partsN c ≠ []) (HC : ∀ p ∈ partsN c, TakeC h p (tk p)) : TakeC h c ((partsN c).flatMap tk) := by
  intro w v m hl st
  have HP := partsOf_any h c w st.src
  have hn3 := partsN_le c
  generalize partsN c = ps at *
  have hpos : 0 < ps.length := List.length_pos_iff.2 hne
  have HLEN : Hid (∀ k, k < ps.length → (m ++ (ps.take k).flatMap tk).length + (tk (ps.getD k 0)).length ≤ 1099511627776) := fun k hk => by
    have e := flatMap_take ps tk k hk
    have e2 : ps.flatMap tk = (ps.take (k + 1)).flatMap tk ++ (ps.drop (k + 1)).flatMap tk := by rw [← List.flatMap_append, List.take_append_drop]
    have e3 : (ps.flatMap tk).length = ((ps.take k).flatMap tk).length + (tk (ps.getD k 0)).length + ((ps.drop (k + 1)).flatMap tk).length := by rw [e2, e, List.length_append, List.length_append]
    rw [List.length_append]; omega
  clear hl
  obtain ⟨n, HN⟩ : ∃ n, Hid (n = ps.length) := ⟨_, rfl⟩
  go_enter Tryd.func39, Tryd.ntmps39
  go_wp2_with fail
  refine HP.mono ?_
  rintro _ w1 ⟨v0, rfl, hr0, hs1, hg1⟩
  have st1 : Hid (TakeSt h w1 v m) := st.sought hs1 hg1
  have K1 : Hid (Kp h w w1) := Kp.src hg1 st.src.lt
  have HR0 : Hid (IntRow w1 w.heap.size v0 ps) := hr0
  have hlt := st.lt
  obtain ⟨a0, cap0, rfl, _⟩ := hr0.at
  rw [← HN.out] at hpos hn3 HLEN HR0 ⊢
  have hz : ((n : Int) == 0) = false := by rw [beq_eq_false_iff_ne]; omega
  clear hr0 hs1 hg1 HP st
  go_wp2
  go_loopw [22] (fun vi wr => ∃ (k : Nat) (v' : Value), k ≤ n ∧ vi = .int .i64 k ∧ Hid (TakeSt h wr v' (m ++ (ps.take k).flatMap tk)) ∧ Hid (Kp h w1 wr)) (fun vi _ => n - (intOf vi).toNat)
  case atStart => exact ⟨0, v, Nat.zero_le _, rfl, by show TakeSt h w1 v (m ++ (ps.take 0).flatMap tk); simpa using st1.out, Kp.refl h w1⟩
  case round =>
    obtain ⟨k, v', hk, rfl, HS, HK⟩ := hrel
    by_cases hlt2 : k < n
    · have hltz : (k : Int) < (n : Int) := by omega
      have hkp : k < ps.length := by have := HN.out; omega
      have hr2 := (HK.out.row HR0.out hlt).at
      obtain ⟨a1, cap1, he, hcs⟩ := hr2
      obtain ⟨b1, o1, rfl, hb1, hc1⟩ := hcs k hkp
      cases he
      have cf := cell_of_row wr _ 0 _ _ (0, 0) HS.out.fn
      have HM : Hid (ps.getD k 0 ∈ ps) := by show ps.getD k 0 ∈ ps; simp [List.getD, hkp]
      have HT : Hid ((ps.take (k + 1)).flatMap tk = (ps.take k).flatMap tk ++ tk (ps.getD k 0)) := flatMap_take ps tk k hkp
      have hCall := HC _ HM.out wr v' _ (HLEN.out k hlt2) HS.out
      generalize ps.getD k 0 = x at *
      go_wp2_with fail
      refine hCall.mono ?_
      rintro _ w2 ⟨rfl, ⟨v2, hS2⟩, hK2⟩
      have HS2 : Hid (TakeSt h w2 v2 (m ++ (ps.take (k + 1)).flatMap tk)) := by rw [HT.out, ← List.append_assoc]; exact hS2
      have HK2 : Hid (Kp h w1 w2) := HK.out.trans hK2
      clear hCall hS2 hK2 cf hc1 hb1
      go_wp2
      go_roundw
      case rel => exact ⟨k + 1, v2, by omega, by go_num, HS2, HK2⟩
      case measure => simp [intOf]; omega
    · obtain rfl : k = n := by omega
      have HS2 : Hid (TakeSt h wr v' (m ++ ps.flatMap tk)) := by
        have h1 := HS.out
        rw [HN.out, List.take_of_length_le (Nat.le_refl _)] at h1
        exact h1
      have HK2 : Hid (Kp h w wr) := K1.out.trans HK.out
      go_wp2
      go_end0
      exact ⟨rfl, ⟨v', HS2.out⟩, HK2.out⟩

theorem tk_by (h : Nat) (c : Int) (tk : Int → List Int) (HC : ∀ p ∈ partsN c, TakeC h p (tk p)) : TakeC h c (takeBy tk c) := by
  unfold takeBy
  by_cases hp : partsN c = []
  · rw [if_pos hp]; exact tk_leaf h c hp
  · rw [if_neg hp]; exact tk_step h c tk hp HC
theorem tk_whole (h : Nat) (c : Int) : TakeC h c (takeN c) :=
  tk_by h c take1 fun d hd => tk_by h d (fun e => [e]) fun e he => tk_leaf h e (parts_two c d e hd he)

/-- 'make([]T, 0, n)': the new block is the next one -/
theorem wpList_make_at {P : Program} (w : World) {ops : Array Oper} {rest : List Oper} {o : Oper} {a : Act} {Q : Exit → Act → World → Prop}
    (hg : o.guard = none) (l c : Operand) (t : TypeId) (hop : o.op = Op.makeSlice t l c)
    (base : Nat) (e : TypeId) (i : TypeInfo) (z : Value) (size : Nat) (h1 : P.underlying t = some (.slice e)) (h2 : P.info? e = some i) (h3 : i.zero = some z) (h4 : i.size = size)
    (kl kc : IntKind) (C : Int) (n : Nat) (hl : a.eval l = .int kl 0) (hc : a.eval c = .int kc C) (hC : C = (n : Int)) (b2 : i.bytes * n ≤ 281474976710656) (b3 : n ≤ maxLen) (b4 : base ≤ w.heap.size)
    (hK : ∀ cs, (w.alloc (.cells cs e)).ownsRow base e size (.slice (some ⟨w.heap.size, 0, none⟩) 0 n) 0 [] → wpList P ops Q rest (a.put o.dst (.slice (some ⟨w.heap.size, 0, none⟩) 0 n)) (w.alloc (.cells cs e))) :
    wpList P ops Q (o :: rest) a w := by
  refine wpList_plain hg fun K hK' => ?_
  subst hC
  subst h4
  have h63 : (n : Int) ≤ 9223372036854775807 := by
    have h := b3
    simp [maxLen] at h
    omega
  have hb' : (i.bytes : Int) * (n : Int) ≤ 281474976710656 := by
    have h : ((i.bytes * n : Nat) : Int) ≤ 281474976710656 := by omega
    rwa [Int.natCast_mul] at h
  have hr := run_make (P := P) w t e i z h1 h2 h3 kl kc 0 n (Int.le_refl _) (by omega) hb' h63
  simp only [Int.toNat_zero, Int.toNat_natCast] at hr
  unfold Oper.wp
  simp [execOp, hop, hl, hc, hr, Result.andThen]
  exact hK' _ _ (hK _ (World.ownsRow_made w _ n b4 b3 (size_madeCells _ _)))

/-- what takeApart begins with -/
theorem tk_start (w : World) (cs : Array Value) (v : Value) (hr : ((w.alloc (.cells #[.map none] 65)).alloc (.cells cs 47)).ownsRow (w.heap.size + 1) 47 2 v 0 []) (hS : ∃ g n c, v = .slice (some ⟨g, 0, none⟩) n c) (F : Value)
    (hF : F = .func (.func 39) #[] #[.pointer (some ⟨w.heap.size, 0, none⟩), .pointer (some ⟨w.heap.size + 2, 0, none⟩), .pointer (some ⟨w.heap.size + 3, 0, none⟩)]) :
    TakeSt w.heap.size ((((w.alloc (.cells #[.map none] 65)).alloc (.cells cs 47)).alloc (.cells #[v] 43)).alloc (.cells #[F] 66)) v [] ∧
    Kp w.heap.size w ((((w.alloc (.cells #[.map none] 65)).alloc (.cells cs 47)).alloc (.cells #[v] 43)).alloc (.cells #[F] 66)) := by
  subst hF
  refine ⟨⟨⟨none, ?_, .inl rfl⟩, ?_, ?_, (hr.alloc _).alloc _, hS⟩, ⟨rfl, rfl, rfl, by simp only [hs_alloc]; omega, fun k hk => ?_, fun k hk _ _ _ => ?_⟩⟩
  · rw [heap_alloc_old _ _ (by simp only [hs_alloc]; omega), heap_alloc_old _ _ (by simp only [hs_alloc]; omega), heap_alloc_old _ _ (by simp only [hs_alloc]; omega), heap_alloc_new]
  · rw [heap_alloc_old _ _ (by simp only [hs_alloc]; omega)]
    have := heap_alloc_new ((w.alloc (.cells #[.map none] 65)).alloc (.cells cs 47)) (.cells #[v] 43)
    rwa [hs_alloc, hs_alloc] at this
  · have := heap_alloc_new (((w.alloc (.cells #[.map none] 65)).alloc (.cells cs 47)).alloc (.cells #[v] 43)) (.cells #[.func (.func 39) #[] #[.pointer (some ⟨w.heap.size, 0, none⟩), .pointer (some ⟨w.heap.size + 2, 0, none⟩), .pointer (some ⟨w.heap.size + 3, 0, none⟩)]] 66)
    rwa [hs_alloc, hs_alloc, hs_alloc] at this
  · rw [heap_alloc_old _ _ (by simp only [hs_alloc]; omega), heap_alloc_old _ _ (by simp only [hs_alloc]; omega), heap_alloc_old _ _ (by simp only [hs_alloc]; omega), heap_alloc_old _ _ (by omega)]
  · rw [heap_alloc_old _ _ (by simp only [hs_alloc]; omega), heap_alloc_old _ _ (by simp only [hs_alloc]; omega), heap_alloc_old _ _ (by simp only [hs_alloc]; omega), heap_alloc_old _ _ (by omega)]

theorem takes_len (l : List Int) : (l.flatMap takeN).length ≤ 9 * l.length := by
  induction l with
  | nil => simp
  | cons c l ih => rw [List.flatMap_cons, List.length_append, List.length_cons]; have := (takeN_ne c).2; omega

set_option maxRecDepth 100000 in
set_option maxHeartbeats 2000000 in
theorem takeApart_any (v : Value) (l : List Int) (w : World) (hv : IntsAt w v l) (hl : l.length ≤ 1048576) :
    Calls Tryd.prog 23 #[v] w fun e w' => ∃ g n c, e = .returned (.slice (some ⟨g, 0, none⟩) n c) ∧ PRow w' (w.heap.size + 1) (.slice (some ⟨g, 0, none⟩) n c) (l.flatMap takeN) ∧ Below w.heap.size w w' := by
  obtain ⟨i0, hi, hz0, hz1, hz2⟩ := info_parts Tryd.infoP
  have hmf : ∀ (fn : Fn) (first cap : Array Value) (w : World), (Instr.makeFunc fn first cap).run Tryd.prog w = .ok (.func fn first cap) w := fun _ _ _ _ => rfl
  obtain ⟨ad, cap, rfl, hc⟩ := hv
  have HC : Hid (∀ t, t < l.length → ∃ b off, ad = some ⟨b, off, none⟩ ∧ b < w.heap.size ∧ w.cell? ⟨b, off + t, none⟩ = some (.int .i64 (l.getD t 0))) := hc
  obtain ⟨n, HN⟩ : ∃ n, Hid (n = l.length) := ⟨_, rfl⟩
  rw [← HN.out] at hl ⊢
  have hTL := takes_len
  have HT : Hid (∀ x : Int, TakeC w.heap.size x (takeN x)) := fun x => tk_whole _ x
  clear hc
  go_enter Tryd.func23, Tryd.ntmps23
  go_wp2_with (at_make; refine wpList_make_at _ rfl _ _ 43 rfl (w.heap.size + 1) 47 i0 _ 2 Tryd.underlying43 hi hz0 hz1 .i64 .i64 _ n rfl rfl (by omega) (by rw [hz2]; omega) (by unfold maxLen; omega) (by simp) ?_; intro cs hown1)
  rw [hs_alloc] at hown1
  obtain ⟨hS0, hK0⟩ := tk_start w cs _ hown1 ⟨_, _, _, rfl⟩ _ rfl
  have HS0 : Hid _ := hS0
  have HK0 : Hid _ := hK0
  clear hS0 hK0 hown1 hi hz0 hz1 hz2
  go_loopw [14] (fun vi wr => ∃ (k : Nat) (v' : Value), k ≤ n ∧ vi = .int .i64 k ∧ Hid (TakeSt w.heap.size wr v' ((l.take k).flatMap takeN)) ∧ Hid (Kp w.heap.size w wr)) (fun vi _ => n - (intOf vi).toNat)
  case atStart => exact ⟨0, _, Nat.zero_le _, rfl, HS0, HK0⟩
  case round =>
    obtain ⟨k, v', hk, rfl, HS, HK⟩ := hrel
    by_cases hlt2 : k < n
    · have hltz : (k : Int) < (n : Int) := by omega
      have hkp : k < l.length := by have := HN.out; omega
      obtain ⟨b1, o1, rfl, hb1, hc1⟩ := HC.out k hkp
      have hc2 : wr.cell? ⟨b1, o1 + k, none⟩ = some (.int .i64 (l.getD k 0)) := (World.cell?_of_block (w := w) (HK.out.old b1 hb1)).trans hc1
      have cf := cell_of_row wr _ 0 _ _ (0, 0) HS.out.fn
      have HF : Hid ((l.take (k + 1)).flatMap takeN = (l.take k).flatMap takeN ++ takeN (l.getD k 0)) := flatMap_take l takeN k hkp
      have hCall := HT.out (l.getD k 0) wr v' _ (by have h1 := hTL (l.take k); have h2 := (takeN_ne (l.getD k 0)).2; rw [List.length_take] at h1; omega) HS.out
      clear hc1 HC
      generalize l.getD k 0 = x at *
      go_wp2_with fail
      refine hCall.mono ?_
      rintro _ w2 ⟨rfl, ⟨v2, hS2⟩, hK2⟩
      have HS2 : Hid (TakeSt w.heap.size w2 v2 ((l.take (k + 1)).flatMap takeN)) := by rw [HF.out]; exact hS2
      have HK2 : Hid (Kp w.heap.size w w2) := HK.out.trans hK2
      clear hCall hS2 hK2 cf hc2
      go_wp2
      go_roundw
      case rel => exact ⟨k + 1, v2, by omega, by go_num, HS2, HK2⟩
      case measure => simp [intOf]; omega
    · obtain rfl : k = n := by omega
      have HS2 : Hid (TakeSt w.heap.size wr v' (l.flatMap takeN)) := by
        have h1 := HS.out
        rw [HN.out, List.take_of_length_le (Nat.le_refl _)] at h1
        exact h1
      have c2 := cell_of_row wr _ 0 _ _ (0, 0) HS.out.out
      go_wp2
      go_ret
      obtain ⟨g, m, cp, hv⟩ := HS2.out.isS
      subst hv
      exact ⟨g, m, cp, rfl, HS2.out.row, ⟨HK.out.os, HK.out.tape, HK.out.output, HK.out.size, HK.out.old⟩⟩

end Go.Proofs.YtkgnlamlmnhleaaDoor
