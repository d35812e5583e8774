/- Names: impl.takeApart: a row of signs, taken apart, each with its class. Names: marks between two letters, put in order by themselves: what that comes to. No word of the program. Names: slices.rotateCmpFunc at signs with their classes: one part goes ahead of the other. The library's functions that the program calls, laid at this program's own numbers: slices.insertionSortCmpFunc at signs with their classes. -/
import Derived.Test.YtlkemmdcjnaepaaDoorRows
import Derived.Test.YtlkemmdcjnaepaaDoorG12
import Derived.Test.YtlkemmdcjnaepaaDoorG10
import Derived.Test.YtlkemmdcjnaepaaDoorG11
import Derived.Test.YtlkemmdcjnaepaaDoorProg
import Derived.Laws.EntriesVeiled
import Derived.Shelf.SlSortCmp.InsertionK
namespace Go.Proofs.YtlkemmdcjnaepaaDoor

section
open Go.RowKit

theorem Kp.row {h : Nat} {w w' : World} {v : Value} {l : List Int} {base : Nat} (k : Kp h w w') (hr : IntRow w base v l) (hb : h + 3 < base) : IntRow w' base v l :=
  ⟨hr.1, by
    rcases hr.2 with h0 | ⟨g, cap, cur, e, hg, hh, r⟩
    · exact .inl h0
    · exact .inr ⟨g, cap, cur, e, hg, (k.block g (lt_of_block hh) (by omega) (by omega) (fun c fr e => by rw [hh] at e; cases e)).trans hh, r⟩⟩

set_option maxRecDepth 100000 in
set_option maxHeartbeats 2000000 in
theorem tk_step (h : Nat) (c : Int) (tk : Int → List Int) (hne : partsN c ≠ []) (HC : ∀ p ∈ partsN c, TakeC h p (tk p)) : TakeC h c ((partsN c).flatMap tk) := by
  intro w v m hl st
  have HP := partsOf_any h c w st.src
  have hn3 := partsN_le c
  generalize partsN c = ps at *
  have hpos : 0 < ps.length := List.length_pos_iff.2 hne
  have HLEN : Hid (∀ k, k < ps.length → (m ++ (ps.take k).flatMap tk).length + (tk (ps.getD k 0)).length ≤ 1099511627776) := fun k hk => by
    have e := flatMap_take ps tk k hk
    have e2 : ps.flatMap tk = (ps.take (k + 1)).flatMap tk ++ (ps.drop (k + 1)).flatMap tk := by rw [← List.flatMap_append, List.take_append_drop]
    have e3 : (ps.flatMap tk).length = ((ps.take k).flatMap tk).length + (tk (ps.getD k 0)).length + ((ps.drop (k + 1)).flatMap tk).length := by rw [e2, e, List.length_append, List.length_append]
    rw [List.length_append]; omega
  clear hl
  obtain ⟨n, HN⟩ : ∃ n, Hid (n = ps.length) := ⟨_, rfl⟩
  go_enter Tryd.func110, Tryd.ntmps110
  go_wp2_with fail
  refine HP.mono ?_
  rintro _ w1 ⟨v0, rfl, hr0, hs1, hg1⟩
  have st1 : Hid (TakeSt h w1 v m) := st.sought hs1 hg1
  have K1 : Hid (Kp h w w1) := Kp.src hg1 st.src.lt
  have HR0 : Hid (IntRow w1 w.heap.size v0 ps) := hr0
  have hlt := st.lt
  obtain ⟨a0, cap0, rfl, _⟩ := hr0.at
  rw [← HN.out] at hpos hn3 HLEN HR0 ⊢
  have hz : ((n : Int) == 0) = false := by rw [beq_eq_false_iff_ne]; omega
  clear hr0 hs1 hg1 HP st
  go_wp2
  go_loopw [22] (fun vi wr => ∃ (k : Nat) (v' : Value), k ≤ n ∧ vi = .int .i64 k ∧ Hid (TakeSt h wr v' (m ++ (ps.take k).flatMap tk)) ∧ Hid (Kp h w1 wr)) (fun vi _ => n - (intOf vi).toNat)
  case atStart => exact ⟨0, v, Nat.zero_le _, rfl, by show TakeSt h w1 v (m ++ (ps.take 0).flatMap tk); simpa using st1.out, Kp.refl h w1⟩
  case round =>
    obtain ⟨k, v', hk, rfl, HS, HK⟩ := hrel
    by_cases hlt2 : k < n
    · have hltz : (k : Int) < (n : Int) := by omega
      have hkp : k < ps.length := by have := HN.out; omega
      have hr2 := (HK.out.row HR0.out hlt).at
      obtain ⟨a1, cap1, he, hcs⟩ := hr2
      obtain ⟨b1, o1, rfl, hb1, hc1⟩ := hcs k hkp
      cases he
      have cf := cell_of_row wr _ 0 _ _ (0, 0) HS.out.fn
      have HM : Hid (ps.getD k 0 ∈ ps) := by show ps.getD k 0 ∈ ps; simp [List.getD, hkp]
      have HT : Hid ((ps.take (k + 1)).flatMap tk = (ps.take k).flatMap tk ++ tk (ps.getD k 0)) := flatMap_take ps tk k hkp
      have hCall := HC _ HM.out wr v' _ (HLEN.out k hlt2) HS.out
      generalize ps.getD k 0 = x at *
      go_wp2_with fail
      refine hCall.mono ?_
      rintro _ w2 ⟨rfl, ⟨v2, hS2⟩, hK2⟩
      have HS2 : Hid (TakeSt h w2 v2 (m ++ (ps.take (k + 1)).flatMap tk)) := by rw [HT.out, ← List.append_assoc]; exact hS2
      have HK2 : Hid (Kp h w1 w2) := HK.out.trans hK2
      clear hCall hS2 hK2 cf hc1 hb1
      go_wp2
      go_roundw
      case rel => exact ⟨k + 1, v2, by omega, by go_num, HS2, HK2⟩
      case measure => simp [intOf]; omega
    · obtain rfl : k = n := by omega
      have HS2 : Hid (TakeSt h wr v' (m ++ ps.flatMap tk)) := by
        have h1 := HS.out
        rw [HN.out, List.take_of_length_le (Nat.le_refl _)] at h1
        exact h1
      have HK2 : Hid (Kp h w wr) := K1.out.trans HK.out
      go_wp2
      go_end0
      exact ⟨rfl, ⟨v', HS2.out⟩, HK2.out⟩

theorem tk_by (h : Nat) (c : Int) (tk : Int → List Int) (HC : ∀ p ∈ partsN c, TakeC h p (tk p)) : TakeC h c (takeBy tk c) := by
  unfold takeBy
  by_cases hp : partsN c = []
  · rw [if_pos hp]; exact tk_leaf h c hp
  · rw [if_neg hp]; exact tk_step h c tk hp HC
theorem tk_whole (h : Nat) (c : Int) : TakeC h c (takeN c) :=
  tk_by h c take1 fun d hd => tk_by h d (fun e => [e]) fun e he => tk_leaf h e (parts_two c d e hd he)

/-- 'make([]T, 0, n)': the new block is the next one -/
theorem wpList_make_at {P : Program} (w : World) {ops : Array Oper} {rest : List Oper} {o : Oper} {a : Act} {Q : Exit → Act → World → Prop}
    (hg : o.guard = none) (l c : Operand) (t : TypeId) (hop : o.op = Op.makeSlice t l c)
    (base : Nat) (e : TypeId) (i : TypeInfo) (z : Value) (size : Nat) (h1 : P.underlying t = some (.slice e)) (h2 : P.info? e = some i) (h3 : i.zero = some z) (h4 : i.size = size)
    (kl kc : IntKind) (C : Int) (n : Nat) (hl : a.eval l = .int kl 0) (hc : a.eval c = .int kc C) (hC : C = (n : Int)) (b2 : i.bytes * n ≤ 281474976710656) (b3 : n ≤ maxLen) (b4 : base ≤ w.heap.size)
    (hK : ∀ cs, (w.alloc (.cells cs e)).ownsRow base e size (.slice (some ⟨w.heap.size, 0, none⟩) 0 n) 0 [] → wpList P ops Q rest (a.put o.dst (.slice (some ⟨w.heap.size, 0, none⟩) 0 n)) (w.alloc (.cells cs e))) :
    wpList P ops Q (o :: rest) a w := by
  refine wpList_plain hg fun K hK' => ?_
  subst hC
  subst h4
  have h63 : (n : Int) ≤ 9223372036854775807 := by
    have h := b3
    simp [maxLen] at h
    omega
  have hb' : (i.bytes : Int) * (n : Int) ≤ 281474976710656 := by
    have h : ((i.bytes * n : Nat) : Int) ≤ 281474976710656 := by omega
    rwa [Int.natCast_mul] at h
  have hr := run_make (P := P) w t e i z h1 h2 h3 kl kc 0 n (Int.le_refl _) (by omega) hb' h63
  simp only [Int.toNat_zero, Int.toNat_natCast] at hr
  unfold Oper.wp
  simp [execOp, hop, hl, hc, hr, Result.andThen]
  exact hK' _ _ (hK _ (World.ownsRow_made w _ n b4 b3 (size_madeCells _ _)))

/-- what takeApart begins with -/
theorem tk_start (w : World) (cs : Array Value) (v : Value) (hr : ((w.alloc (.cells #[.map none] 119)).alloc (.cells cs 108)).ownsRow (w.heap.size + 1) 108 2 v 0 []) (hS : ∃ g n c, v = .slice (some ⟨g, 0, none⟩) n c) (F : Value)
    (hF : F = .func (.func 110) #[] #[.pointer (some ⟨w.heap.size, 0, none⟩), .pointer (some ⟨w.heap.size + 2, 0, none⟩), .pointer (some ⟨w.heap.size + 3, 0, none⟩)]) :
    TakeSt w.heap.size ((((w.alloc (.cells #[.map none] 119)).alloc (.cells cs 108)).alloc (.cells #[v] 104)).alloc (.cells #[F] 120)) v [] ∧
    Kp w.heap.size w ((((w.alloc (.cells #[.map none] 119)).alloc (.cells cs 108)).alloc (.cells #[v] 104)).alloc (.cells #[F] 120)) := by
  subst hF
  refine ⟨⟨⟨none, ?_, .inl rfl⟩, ?_, ?_, (hr.alloc _).alloc _, hS⟩, ⟨rfl, rfl, rfl, by simp only [hs_alloc]; omega, fun k hk => ?_, fun k hk _ _ _ => ?_⟩⟩
  · rw [heap_alloc_old _ _ (by simp only [hs_alloc]; omega), heap_alloc_old _ _ (by simp only [hs_alloc]; omega), heap_alloc_old _ _ (by simp only [hs_alloc]; omega), heap_alloc_new]
  · rw [heap_alloc_old _ _ (by simp only [hs_alloc]; omega)]
    have := heap_alloc_new ((w.alloc (.cells #[.map none] 119)).alloc (.cells cs 108)) (.cells #[v] 104)
    rwa [hs_alloc, hs_alloc] at this
  · have := heap_alloc_new (((w.alloc (.cells #[.map none] 119)).alloc (.cells cs 108)).alloc (.cells #[v] 104)) (.cells #[.func (.func 110) #[] #[.pointer (some ⟨w.heap.size, 0, none⟩), .pointer (some ⟨w.heap.size + 2, 0, none⟩), .pointer (some ⟨w.heap.size + 3, 0, none⟩)]] 120)
    rwa [hs_alloc, hs_alloc, hs_alloc] at this
  · rw [heap_alloc_old _ _ (by simp only [hs_alloc]; omega), heap_alloc_old _ _ (by simp only [hs_alloc]; omega), heap_alloc_old _ _ (by simp only [hs_alloc]; omega), heap_alloc_old _ _ (by omega)]
  · rw [heap_alloc_old _ _ (by simp only [hs_alloc]; omega), heap_alloc_old _ _ (by simp only [hs_alloc]; omega), heap_alloc_old _ _ (by simp only [hs_alloc]; omega), heap_alloc_old _ _ (by omega)]

theorem takes_len (l : List Int) : (l.flatMap takeN).length ≤ 9 * l.length := by
  induction l with
  | nil => simp
  | cons c l ih => rw [List.flatMap_cons, List.length_append, List.length_cons]; have := (takeN_ne c).2; omega

set_option maxRecDepth 100000 in
set_option maxHeartbeats 2000000 in
theorem takeApart_any (v : Value) (l : List Int) (w : World) (hv : IntsAt w v l) (hl : l.length ≤ 1048576) :
    Calls Tryd.prog 101 #[v] w fun e w' => ∃ g n c, e = .returned (.slice (some ⟨g, 0, none⟩) n c) ∧ PRow w' (w.heap.size + 1) (.slice (some ⟨g, 0, none⟩) n c) (l.flatMap takeN) ∧ Below w.heap.size w w' := by
  obtain ⟨i0, hi, hz0, hz1, hz2⟩ := info_parts Tryd.infoP
  have hmf : ∀ (fn : Fn) (first cap : Array Value) (w : World), (Instr.makeFunc fn first cap).run Tryd.prog w = .ok (.func fn first cap) w := fun _ _ _ _ => rfl
  obtain ⟨ad, cap, rfl, hc⟩ := hv
  have HC : Hid (∀ t, t < l.length → ∃ b off, ad = some ⟨b, off, none⟩ ∧ b < w.heap.size ∧ w.cell? ⟨b, off + t, none⟩ = some (.int .i64 (l.getD t 0))) := hc
  obtain ⟨n, HN⟩ : ∃ n, Hid (n = l.length) := ⟨_, rfl⟩
  rw [← HN.out] at hl ⊢
  have hTL := takes_len
  have HT : Hid (∀ x : Int, TakeC w.heap.size x (takeN x)) := fun x => tk_whole _ x
  clear hc
  go_enter Tryd.func101, Tryd.ntmps101
  go_wp2_with (at_make; refine wpList_make_at _ rfl _ _ 104 rfl (w.heap.size + 1) 108 i0 _ 2 Tryd.underlying104 hi hz0 hz1 .i64 .i64 _ n rfl rfl (by omega) (by rw [hz2]; omega) (by unfold maxLen; omega) (by simp) ?_; intro cs hown1)
  rw [hs_alloc] at hown1
  obtain ⟨hS0, hK0⟩ := tk_start w cs _ hown1 ⟨_, _, _, rfl⟩ _ rfl
  have HS0 : Hid _ := hS0
  have HK0 : Hid _ := hK0
  clear hS0 hK0 hown1 hi hz0 hz1 hz2
  go_loopw [14] (fun vi wr => ∃ (k : Nat) (v' : Value), k ≤ n ∧ vi = .int .i64 k ∧ Hid (TakeSt w.heap.size wr v' ((l.take k).flatMap takeN)) ∧ Hid (Kp w.heap.size w wr)) (fun vi _ => n - (intOf vi).toNat)
  case atStart => exact ⟨0, _, Nat.zero_le _, rfl, HS0, HK0⟩
  case round =>
    obtain ⟨k, v', hk, rfl, HS, HK⟩ := hrel
    by_cases hlt2 : k < n
    · have hltz : (k : Int) < (n : Int) := by omega
      have hkp : k < l.length := by have := HN.out; omega
      obtain ⟨b1, o1, rfl, hb1, hc1⟩ := HC.out k hkp
      have hc2 : wr.cell? ⟨b1, o1 + k, none⟩ = some (.int .i64 (l.getD k 0)) := (World.cell?_of_block (w := w) (HK.out.old b1 hb1)).trans hc1
      have cf := cell_of_row wr _ 0 _ _ (0, 0) HS.out.fn
      have HF : Hid ((l.take (k + 1)).flatMap takeN = (l.take k).flatMap takeN ++ takeN (l.getD k 0)) := flatMap_take l takeN k hkp
      have hCall := HT.out (l.getD k 0) wr v' _ (by have h1 := hTL (l.take k); have h2 := (takeN_ne (l.getD k 0)).2; rw [List.length_take] at h1; omega) HS.out
      clear hc1 HC
      generalize l.getD k 0 = x at *
      go_wp2_with fail
      refine hCall.mono ?_
      rintro _ w2 ⟨rfl, ⟨v2, hS2⟩, hK2⟩
      have HS2 : Hid (TakeSt w.heap.size w2 v2 ((l.take (k + 1)).flatMap takeN)) := by rw [HF.out]; exact hS2
      have HK2 : Hid (Kp w.heap.size w w2) := HK.out.trans hK2
      clear hCall hS2 hK2 cf hc2
      go_wp2
      go_roundw
      case rel => exact ⟨k + 1, v2, by omega, by go_num, HS2, HK2⟩
      case measure => simp [intOf]; omega
    · obtain rfl : k = n := by omega
      have HS2 : Hid (TakeSt w.heap.size wr v' (l.flatMap takeN)) := by
        have h1 := HS.out
        rw [HN.out, List.take_of_length_le (Nat.le_refl _)] at h1
        exact h1
      have c2 := cell_of_row wr _ 0 _ _ (0, 0) HS.out.out
      go_wp2
      go_ret
      obtain ⟨g, m, cp, hv⟩ := HS2.out.isS
      subst hv
      exact ⟨g, m, cp, rfl, HS2.out.row, ⟨HK.out.os, HK.out.tape, HK.out.output, HK.out.size, HK.out.old⟩⟩
end

section
def markB (c : Int) : Prop := 0 < clsN c
/-- nothing goes past the end of what stands there -/
def shutR : List Int → Prop
  | [] => True
  | z :: _ => ¬ markB z

theorem insR_over (x : Int) (r : List Int) (hr : shutR r) : ∀ s, insR x (s ++ r) = insR x s ++ r
  | [] => by
    cases r with
    | nil => rfl
    | cons z p =>
      have : ¬ past x z := by
        have hz : ¬ 0 < clsN z := hr
        unfold past; omega
      show insR x (z :: p) = [x] ++ z :: p
      rw [insR_neg this]; rfl
  | z :: s => by
    by_cases hp : past x z
    · show insR x (z :: (s ++ r)) = _
      rw [insR_pos hp, insR_pos hp, insR_over x r hr s]; rfl
    · show insR x (z :: (s ++ r)) = _
      rw [insR_neg hp, insR_neg hp]; rfl
theorem srtR_over (r : List Int) (hr : shutR r) : ∀ (M s : List Int), srtR (s ++ r) M = srtR s M ++ r
  | [], s => rfl
  | x :: M, s => by
    show srtR (insR x (s ++ r)) M = srtR (insR x s) M ++ r
    rw [insR_over x r hr s, srtR_over r hr M]
theorem srtN_over (A M : List Int) (hA : shutR (srtR [] A)) : srtN (A ++ M) = srtN A ++ srtN M := by
  unfold srtN
  rw [srtR_append]
  have := srtR_over (srtR [] A) hA M []
  rw [List.nil_append] at this
  rw [this, List.reverse_append]
theorem srtR_letter (A : List Int) (c : Int) (hc : ¬ markB c) : srtR [] (A ++ [c]) = c :: srtR [] A := by
  rw [srtR_append]
  show insR c (srtR [] A) = _
  cases h : srtR [] A with
  | nil => rfl
  | cons z p =>
    rw [insR_neg]
    intro hp
    exact hc hp.1
theorem srtN_letter (A : List Int) (c : Int) (hc : ¬ markB c) : srtN (A ++ [c]) = srtN A ++ [c] := by
  unfold srtN
  rw [srtR_letter A c hc]; simp
theorem shut_letter (A : List Int) (c : Int) (hc : ¬ markB c) : shutR (srtR [] (A ++ [c])) := by
  rw [srtR_letter A c hc]; exact hc

theorem insR_filter (x k : Int) : ∀ r, (insR x r).filter (fun y => clsN y == k) = (x :: r).filter (fun y => clsN y == k)
  | [] => rfl
  | z :: p => by
    by_cases hp : past x z
    · rw [insR_pos hp]
      have ih := insR_filter x k p
      have hlt : clsN x < clsN z := hp.2
      by_cases hx : clsN x = k
      · have hz : ¬ clsN z = k := by omega
        rw [List.filter_cons_of_neg (by simpa using hz), ih, List.filter_cons_of_pos (by simpa using hx), List.filter_cons_of_pos (by simpa using hx), List.filter_cons_of_neg (by simpa using hz)]
      · rw [List.filter_cons_of_neg (a := x) (by simpa using hx)] at ih ⊢
        rw [List.filter_cons, List.filter_cons, ih]
    · rw [insR_neg hp]
theorem srtR_filter (k : Int) : ∀ (M r : List Int), (srtR r M).filter (fun y => clsN y == k) = (M.reverse ++ r).filter (fun y => clsN y == k)
  | [], r => rfl
  | x :: M, r => by
    show (srtR (insR x r) M).filter _ = _
    rw [srtR_filter k M, List.filter_append, insR_filter, ← List.filter_append]
    simp
theorem srtN_filter (M : List Int) (k : Int) : (srtN M).filter (fun y => clsN y == k) = M.filter (fun y => clsN y == k) := by
  unfold srtN
  rw [List.filter_reverse, srtR_filter k M []]
  simp [← List.filter_reverse]
theorem okR_le : ∀ (r : List Int), okR r → (∀ y ∈ r, markB y) → r.Pairwise (fun x y => clsN y ≤ clsN x)
  | [], _, _ => List.Pairwise.nil
  | [x], _, _ => by simp
  | y :: z :: p, h, hm => by
    have ih := okR_le (z :: p) h.2 (fun u hu => hm u (by simp [hu]))
    refine List.pairwise_cons.2 ⟨fun u hu => ?_, ih⟩
    have h1 : clsN z ≤ clsN y := by
      have h2 : 0 < clsN y := hm y (by simp)
      have h3 := h.1
      unfold past at h3
      omega
    rcases List.mem_cons.1 hu with e | e
    · rw [e]; exact h1
    · have := (List.pairwise_cons.1 ih).1 u e
      omega
theorem srtN_sorted (M : List Int) (hm : ∀ y ∈ M, markB y) : SrtL clsN (srtN M) := by
  have h := okR_le (srtR [] M) (srtR_ok M [] trivial) (fun y hy => by
    rcases (srtR_mem M [] y).1 hy with h | h
    · cases h
    · exact hm y h)
  unfold SrtL srtN
  rw [List.pairwise_reverse]
  exact h
/-- the one way to put marks in order -/
theorem marks_one (M Z : List Int) (hm : ∀ y ∈ M, markB y) (hs : SrtL clsN Z) (h : ∀ k : Int, Z.filter (fun y => clsN y == k) = M.filter (fun y => clsN y == k)) : Z = srtN M :=
  srtL_same clsN Z (srtN M) hs (srtN_sorted M hm) fun k => by rw [h k, srtN_filter]

/-- how far the marks are in order: the first f as they come to be, the others as they were -/
structure Upto (x : List Int) (i f : Nat) (y : List Int) : Prop where
  row : y = srtN (x.take f) ++ x.drop f
  shut : shutR (srtR [] (x.take f))
  marks : ∀ t, f ≤ t → t < i → markB (x.getD t 0)
  le : f ≤ i
theorem Upto.start (x : List Int) : Upto x 0 0 x := ⟨by simp [srtN, srtR], trivial, fun t h1 h2 => by omega, Nat.le_refl _⟩
theorem Upto.mark {x y : List Int} {i f : Nat} (h : Upto x i f y) (hm : markB (x.getD i 0)) : Upto x (i + 1) f y :=
  ⟨h.row, h.shut, fun t h1 h2 => by
    by_cases ht : t = i
    · rw [ht]; exact hm
    · exact h.marks t h1 (by omega), by have := h.le; omega⟩
theorem Upto.mid_marks {x y : List Int} {i f : Nat} (h : Upto x i f y) (hi : i ≤ x.length) : ∀ c ∈ (x.drop f).take (i - f), markB c := by
  intro c hc
  obtain ⟨t, ht, rfl⟩ := List.mem_iff_getElem.1 hc
  have ht' : t < i - f := by have := ht; simp at this; omega
  have := h.marks (f + t) (by omega) (by omega)
  rw [List.getElem_take, List.getElem_drop]
  simpa [List.getD, show f + t < x.length by omega] using this
theorem Upto.split {x y : List Int} {i f : Nat} (h : Upto x i f y) : y = srtN (x.take f) ++ ((x.drop f).take (i - f) ++ x.drop i) := by
  rw [h.row]
  congr 1
  rw [show x.drop i = (x.drop f).drop (i - f) by rw [List.drop_drop]; congr 1; have := h.le; omega, List.take_append_drop]
theorem Upto.take_i {x y : List Int} {i f : Nat} (h : Upto x i f y) : x.take i = x.take f ++ (x.drop f).take (i - f) := by
  have := h.le
  rw [show i = f + (i - f) by omega, List.take_add]
  congr 2; omega
/-- a letter: what is ahead of it is put in order -/
theorem Upto.letter {x y Z : List Int} {i f : Nat} (h : Upto x i f y) (hi : i < x.length) (hl : ¬ markB (x.getD i 0)) (hZ : Z = srtN ((x.drop f).take (i - f))) :
    Upto x (i + 1) (i + 1) (srtN (x.take f) ++ (Z ++ x.drop i)) := by
  have e1 : x.take (i + 1) = x.take i ++ [x.getD i 0] := by
    rw [List.take_add_one, List.getElem?_eq_getElem hi]; simp [List.getD, hi]
  refine ⟨?_, by rw [e1]; exact shut_letter _ _ hl, fun t h1 h2 => by omega, Nat.le_refl _⟩
  rw [e1, srtN_letter _ _ hl, h.take_i, srtN_over _ _ h.shut, ← hZ]
  have e2 : x.drop i = x.getD i 0 :: x.drop (i + 1) := by
    rw [List.drop_eq_getElem_cons hi]; simp [List.getD, hi]
  rw [e2]; simp
theorem Upto.last {x y Z : List Int} {f : Nat} (h : Upto x x.length f y) (hZ : Z = srtN (x.drop f)) : srtN (x.take f) ++ Z = srtN x := by
  rw [hZ, ← srtN_over _ _ h.shut, List.take_append_drop]
end

section
open Go.RowKit Go.Shelf Go.Lib Go.Sort

set_option maxRecDepth 1000000 in
set_option maxHeartbeats 4000000 in
theorem rotate_any (blk off cap a m b : Nat) (cb : Value) (d : Array Int) (w : World) (hH : HoldsK encP 2 w blk off d) (hblk : blk < w.heap.size) (ham : a < m) (hmb : m < b) (hb : b ≤ d.size) (hsz : d.size < 4611686018427387904) :
    Calls Tryd.prog 126 #[.slice (some ⟨blk, off, none⟩) d.size cap, .int .i64 a, .int .i64 m, .int .i64 b, cb] w fun e w' => e = .returned (.tuple #[]) ∧ ∃ d', SWp w blk off d' w' ∧ Rot a m b d d' := by
  have HST : Hid (SWp w blk off d w) := SWp.start hH hblk
  clear hH
  have z1 : IntKind.i64.wrap ((m : Int) - (a : Int)) = ((m - a : Nat) : Int) := by rw [IntKind.wrap_i64]; omega
  have z2 : IntKind.i64.wrap ((b : Int) - (m : Int)) = ((b - m : Nat) : Int) := by rw [IntKind.wrap_i64]; omega
  obtain ⟨i0, HI0⟩ : ∃ i0, Hid (i0 = m - a) := ⟨_, rfl⟩
  obtain ⟨j0, HJ0⟩ : ∃ j0, Hid (j0 = b - m) := ⟨_, rfl⟩
  rw [← HI0.out] at z1
  rw [← HJ0.out] at z2
  go_enter Tryd.func126, Tryd.ntmps126
  go_wp2
  go_loopw [10, 11] (fun vi vj wr => ∃ (i j : Nat) (dk : Array Int), 0 < i ∧ 0 < j ∧ i ≤ i0 ∧ j ≤ j0 ∧ vi = .int .i64 i ∧ vj = .int .i64 j ∧ Hid (SWp w blk off dk wr) ∧ Hid (RotTo a m b d i j dk)) (fun vi vj _ => (intOf vi).toNat + (intOf vj).toNat)
  case atStart => exact ⟨i0, j0, d, by have := HI0.out; omega, by have := HJ0.out; omega, Nat.le_refl _, Nat.le_refl _, rfl, rfl, HST, by rw [HI0.out, HJ0.out]; exact RotTo.start d (by omega) (by omega)⟩
  case round =>
    obtain ⟨i, j, dk, hi, hj, hi0, hj0, rfl, rfl, HD, HS⟩ := hrel
    have hsk : dk.size = d.size := HS.out.1
    have hi1 : i ≤ m := by have := HI0.out; omega
    have hj1 : m + j ≤ d.size := by have := HJ0.out; omega
    have z3 : IntKind.i64.wrap ((m : Int) - (i : Int)) = ((m - i : Nat) : Int) := by rw [IntKind.wrap_i64]; omega
    obtain ⟨p, HP⟩ : ∃ p, Hid (p = m - i) := ⟨_, rfl⟩
    rw [← HP.out] at z3
    rcases Nat.lt_trichotomy i j with hlt | heq | hgt
    · have hij : ¬ (i : Int) = (j : Int) := by omega
      have hij2 : ¬ (j : Int) < (i : Int) := by omega
      have z4 : IntKind.i64.wrap ((m : Int) + (j : Int)) = ((m + j : Nat) : Int) := by rw [IntKind.wrap_i64]; omega
      obtain ⟨r, HR⟩ : ∃ r, Hid (r = m + j) := ⟨_, rfl⟩
      rw [← HR.out] at z4
      have z5 : IntKind.i64.wrap ((r : Int) - (i : Int)) = ((m + j - i : Nat) : Int) := by rw [HR.out, IntKind.wrap_i64]; omega
      obtain ⟨s, HSS⟩ : ∃ s, Hid (s = m + j - i) := ⟨_, rfl⟩
      rw [← HSS.out] at z5
      have hC := swapRange_any blk off cap p s i cb dk wr HD.out.holds HD.out.lt (by have := HP.out; have := HSS.out; omega) (by have := HSS.out; omega) (by omega)
      rw [hsk] at hC
      have z6 : IntKind.i64.wrap ((j : Int) - (i : Int)) = ((j - i : Nat) : Int) := by rw [IntKind.wrap_i64]; omega
      go_wp2_with fail
      refine hC.mono ?_
      rintro e w1 ⟨rfl, dn, hD, hS⟩
      have HD1 : Hid (SWp w blk off dn w1) := HD.out.trans hD hS.1
      have HS1 : Hid (RotTo a m b d i (j - i) dn) := HS.out.right hi1 hlt hi (by rw [← HP.out, ← HSS.out]; exact hS)
      clear hD hS hC
      go_wp2
      go_roundw
      case rel => exact ⟨i, j - i, dn, hi, by omega, hi0, by omega, rfl, by first | rfl | rw [z6], HD1, HS1⟩
      case measure => simp [intOf]; omega
    · subst heq
      have hC := swapRange_any blk off cap p m i cb dk wr HD.out.holds HD.out.lt (by have := HP.out; omega) (by omega) (by omega)
      rw [hsk] at hC
      go_wp2_with fail
      refine hC.mono ?_
      rintro e w1 ⟨rfl, dn, hD, hS⟩
      have HD1 : Hid (SWp w blk off dn w1) := HD.out.trans hD hS.1
      have HS1 : Hid (Rot a m b d dn) := HS.out.last hi1 (by rw [← HP.out]; exact hS)
      clear hD hS hC
      go_wp2
      go_end0
      exact ⟨rfl, dn, HD1.out, HS1.out⟩
    · have hij : ¬ (i : Int) = (j : Int) := by omega
      have hij2 : (j : Int) < (i : Int) := by omega
      have hC := swapRange_any blk off cap p m j cb dk wr HD.out.holds HD.out.lt (by have := HP.out; omega) (by omega) (by omega)
      rw [hsk] at hC
      have z6 : IntKind.i64.wrap ((i : Int) - (j : Int)) = ((i - j : Nat) : Int) := by rw [IntKind.wrap_i64]; omega
      go_wp2_with fail
      refine hC.mono ?_
      rintro e w1 ⟨rfl, dn, hD, hS⟩
      have HD1 : Hid (SWp w blk off dn w1) := HD.out.trans hD hS.1
      have HS1 : Hid (RotTo a m b d (i - j) j dn) := HS.out.left hi1 hgt hj (by rw [← HP.out]; exact hS)
      clear hD hS hC
      go_wp2
      go_roundw
      case rel => exact ⟨i - j, j, dn, by omega, hj, by omega, hj0, by first | rfl | rw [z6], rfl, HD1, HS1⟩
      case measure => simp [intOf]; omega
end

section
open Go.Shelf
def Tryd.laysIns_ren : Go.Shelf.Ren := ⟨fun | 20 => 124 | n => n, fun | 24 => 108 | 22 => 104 | 3 => 3 | 25 => 122 | 4 => 4 | 0 => 0 | n => n, fun | n => n⟩
theorem Tryd.laysIns : Go.Proofs.SlLaysF0.n20 Tryd.prog Tryd.laysIns_ren := {
  mixed := by kernel_rfl
  f20 := ⟨Tryd.f124.name, by decide, Tryd.func124.trans (congrArg some (by kernel_rfl))⟩
  t0 := Tryd.underlying0
  a0 := Tryd.isAgg0
  z0 := Tryd.sizeOf0
  v0 := Tryd.zeroValue0
  t3 := Tryd.underlying3
  a3 := Tryd.isAgg3
  z3 := Tryd.sizeOf3
  v3 := Tryd.zeroValue3
  t4 := Tryd.underlying4
  a4 := Tryd.isAgg4
  z4 := Tryd.sizeOf4
  v4 := Tryd.zeroValue4
  t22 := Tryd.underlying104
  a22 := Tryd.isAgg104
  z22 := Tryd.sizeOf104
  v22 := Tryd.zeroValue104
  t25 := Tryd.underlying122
  a25 := Tryd.isAgg122
  z25 := Tryd.sizeOf122
  v25 := Tryd.zeroValue122 }
end

end Go.Proofs.YtlkemmdcjnaepaaDoor
