/- Signs put together: impl.Compose. -/
import Derived.Test.YtkgnlamlmnhleaaRows
import Derived.Test.YtkgnlamlmnhleaaSCm
import Derived.Test.YtkgnlamlmnhleaaIPw
import Derived.Test.YtkgnlamlmnhleaaApH
import Derived.Test.YtkgnlamlmnhleaaIApt
import Derived.WalkMore
import Derived.Deep.Cut
import Derived.Deep.CutRange
namespace Go.Proofs.Ytkgnlamlmnhleaa
open Go.RowKit

/-- may a sign of class k reach the letter over the marks m? -/
def reachB (m : List Int) (k : Int) : Bool := decide (m.length = 0) || decide (clsN (m.getD (m.length - 1) 0) < k)
theorem okR_drop : ∀ (j : Nat) (r : List Int), okR r → okR (r.drop j)
  | 0, _, h => h
  | _ + 1, [], h => h
  | j + 1, _ :: r, h => okR_drop j r (okR_tail h)
theorem cmp_take (l : List Int) (k : Nat) : CmI ((apartN l).take k).reverse (cmpS ((apartN l).take k)) := by
  have hok : okR (apartN l).reverse := by
    unfold apartN srtN
    rw [List.reverse_reverse]
    exact srtR_ok _ [] trivial
  have h := cmp_inv ((apartN l).take k).reverse (by rw [List.reverse_take]; exact okR_drop _ _ hok) (fun x hx => apart_leaves l x (List.mem_of_mem_take (List.mem_reverse.1 hx)))
  rwa [List.reverse_reverse] at h
theorem free_is {r : List Int} {s : List Int × Int} (h : CmI r s) (d : Int) : (decide (s.2 ≠ -1) && reachB (s.1.drop (s.2 + 1).toNat) (clsN d)) = freeB s.1 s.2 d := by
  unfold freeB reachB
  rcases h.shape with ⟨e, -⟩ | ⟨A, L, M, e1, e2, hm⟩
  · rw [e]; rfl
  · have ed : s.1.drop (s.2 + 1).toNat = M := by
      rw [e1, e2, show ((A.length : Int) + 1).toNat = A.length + 1 by omega]
      simp
    rw [ed, e1, e2]
    have h1 : decide ((A.length : Int) ≠ -1) = true := by simp
    have h0 : decide (0 ≤ (A.length : Int)) = true := by simp
    rw [h1, h0, Bool.true_and, Bool.true_and]
    rcases List.eq_nil_or_concat M with rfl | ⟨Q, z, rfl⟩
    · simp
    · rw [List.concat_eq_append] at hm ⊢
      have hz := (hm.one z (by simp)).2.1
      have g1 : (A ++ L :: (Q ++ [z])).getD ((A ++ L :: (Q ++ [z])).length - 1) 0 = z := by
        rw [show A ++ L :: (Q ++ [z]) = (A ++ L :: Q) ++ [z] by simp, List.length_append]
        simp [List.getD]
      have g2 : (Q ++ [z]).getD ((Q ++ [z]).length - 1) 0 = z := by simp [List.getD]
      rw [g1, g2, decide_eq_true hz, Bool.true_and]
      have e3 : decide ((Q ++ [z]).length = 0) = false := by simp
      have e4 : decide ((A.length : Int) = ((A ++ L :: (Q ++ [z])).length : Int) - 1) = false := by simp; omega
      rw [e3, e4]
set_option maxRecDepth 100000 in
set_option maxHeartbeats 1000000 in
theorem reaches_any (v : Value) (m : List Int) (k : Int) (w : World) (hl : m.length ≤ 1099511627776) (hv : IntsAt w v m) :
    Calls Try.prog 33 #[v, .int .i64 k] w fun e w' => e = .returned (.bool (reachB m k)) ∧ Below w.heap.size w w' := by
  obtain ⟨a, c, rfl, hc⟩ := hv
  have HC := fun W => iClass (m.getD (m.length - 1) 0) W
  unfold reachB
  by_cases h0 : m.length = 0
  · rw [decide_eq_true h0, h0]
    clear HC hc
    go_enter Try.func33, Try.ntmps33
    go_wp2
    go_ret
    exact ⟨rfl, Below.refl _ _⟩
  · rw [decide_eq_false h0, Bool.false_or]
    obtain ⟨b, o, rfl, hb, hcc⟩ := hc (m.length - 1) (by omega)
    generalize m.getD (m.length - 1) 0 = z at HC hcc ⊢
    generalize clsN z = q at HC ⊢
    obtain ⟨n, HN⟩ : ∃ n, Hid (m.length = n + 1) := ⟨m.length - 1, by show _ = _; omega⟩
    rw [HN.out] at hcc hl ⊢
    rw [Nat.add_sub_cancel] at hcc
    clear h0 hc
    go_enter Try.func33, Try.ntmps33
    go_wp2_with (go_at_call 26; refine (HC _).mono ?_; rintro e w1 ⟨rfl, b1⟩)
    go_ret
    exact ⟨rfl, b1⟩

theorem slice_rest (a : Option Addr) (len cap f : Nat) (w : World) (h1 : f ≤ len) : (Instr.slice 24 (.slice a len cap) (some (.int .i64 (f : Int))) none none).run Try.prog w = .ok (sliced a f len cap 1) w := by
  have he : Try.prog.underlying 24 = some (.slice (Try.prog.elem 24)) := by kernel_rfl
  have hs : (sizeOf (Try.prog.elem 24)).run Try.prog w = .ok 1 w := by kernel_rfl
  rw [run_slice_l w 24 a len cap he .i64 (f : Int) (by omega) (by omega), hs]
  simp [Result.andThen]
theorem IntRow.rest {w : World} {base : Nat} {a : Option Addr} {n cap : Nat} {l : List Int} (h : IntRow w base (.slice a n cap) l) (f : Nat) (hf : f ≤ l.length) (hn : n = l.length) : IntsAt w (sliced a f n cap 1) (l.drop f) := by
  have hcap : l.length ≤ cap := by
    rcases h.2 with ⟨e, h0⟩ | ⟨g, c, cur, e, hg, hh, hnc, -⟩
    · omega
    · cases e; exact hnc
  obtain ⟨a', cap', e, hx⟩ := h.at
  cases e
  refine ⟨_, _, by rw [List.length_drop]; rfl, fun t ht => ?_⟩
  rw [List.length_drop] at ht
  obtain ⟨b, off, rfl, hb, hcc⟩ := hx (f + t) (by omega)
  refine ⟨b, off + f, by rw [if_neg (by omega)]; simp [Addr.add], hb, ?_⟩
  rw [Nat.add_assoc, hcc]
  congr 2
  simp [List.getD]
/-- what touches a row of whole numbers alone leaves the source as it is -/
theorem PairAt.own {B base : Nat} {w w' : World} {v : Value} {l : List Int} (h : PairAt B w) (row : IntRow w base v l) (hg : w.grownBy w' v.ownBlock) : PairAt B w' := by
  have key : ∀ g o, w.heap[g]? = some o → (∀ cs f, o ≠ Obj.cells cs 3 f) → w'.heap[g]? = w.heap[g]? := fun g o ho hne => by
    refine hg.block g (lt_of_block ho) fun e => ?_
    rcases row.2 with ⟨rfl, _⟩ | ⟨q, cap, cur, rfl, _, hh, -⟩
    · cases e
    · injection e with e
      subst e
      rw [ho] at hh
      injection hh with hh
      exact hne _ _ hh
  obtain ⟨mo, hB, hm⟩ := h
  refine ⟨mo, (key B _ hB fun cs f e => by injection e with _ e; exact absurd e (by decide)).trans hB, ?_⟩
  rcases hm with h | ⟨g, L, h1, h2, h3⟩
  · exact .inl h
  · refine .inr ⟨g, L, h1, h2.kept ?_, h3⟩
    obtain ⟨es, clk, hb, -⟩ := h2
    exact key g _ hb fun cs f e => by cases e
/-- what stands while signs are put together: the source at B, the row that is made -/
structure CoAt (B : Nat) (w1 : World) (v : Value) (o : List Int) (w : World) : Prop where
  src : PairAt B w
  row : IntRow w w1.heap.size v o
  gb : w1.grownBy w (some B)
theorem CoAt.below {B : Nat} {w1 w w' : World} {v : Value} {o : List Int} (h : CoAt B w1 v o w) (b : Below w.heap.size w w') : CoAt B w1 v o w' :=
  ⟨h.src.below b, h.row.below b, gbi_trans h.gb ⟨b.os, b.tape, b.output, b.size, fun k hk _ => b.block k hk⟩⟩
theorem CoAt.pair {B : Nat} {w1 w w' : World} {v : Value} {o : List Int} (h : CoAt B w1 v o w) (hB : B < w1.heap.size) (hs : PairAt B w') (hg : w.grownBy w' (some B)) : CoAt B w1 v o w' := by
  refine ⟨hs, World.ownsRow.kept h.row hg ?_, gbi_trans h.gb hg⟩
  cases e : v.ownBlock with
  | none => exact .inl rfl
  | some k =>
    right
    intro e2
    have := (World.ownsRow.lt h.row k e).1
    injection e2 with e2
    omega
theorem CoAt.own {B : Nat} {w1 w w' : World} {v v' : Value} {o o' : List Int} (h : CoAt B w1 v o w) (row : IntRow w' w1.heap.size v' o') (hg : w.grownBy w' v.ownBlock) : CoAt B w1 v' o' w' := by
  refine ⟨h.src.own h.row hg, row, ⟨hg.os.trans h.gb.os, hg.tape.trans h.gb.tape, hg.output.trans h.gb.output, Nat.le_trans h.gb.size hg.size, fun k hk hn => ?_⟩⟩
  refine (hg.block k (Nat.lt_of_lt_of_le hk h.gb.size) fun e => ?_).trans (h.gb.block k hk hn)
  have := (World.ownsRow.lt h.row k e.symm).1
  omega

set_option maxRecDepth 100000 in
set_option maxHeartbeats 2000000 in
theorem iCompose (v : Value) (l : List Int) (w : World) (hl : l.length ≤ 1048576) (hv : IntsAt w v l) :
    Calls Try.prog 16 #[v] w fun e w' => ∃ u, e = .returned u ∧ IntRow w' w.heap.size u (composeN l) ∧ Below w.heap.size w w' := by
  have hb0 := (Below.refl w.heap.size w).alloc (Nat.le_refl _) (.cells #[.map none] 46)
  have HA := iApart v l _ (hv.below hb0) hl
  have HS0 := pair_new w
  have hx9 := apart_len9 l
  have HFR : Hid (∀ k d, (decide ((cmpS ((apartN l).take k)).2 ≠ -1) && reachB ((cmpS ((apartN l).take k)).1.drop ((cmpS ((apartN l).take k)).2 + 1).toNat) (clsN d)) = freeB (cmpS ((apartN l).take k)).1 (cmpS ((apartN l).take k)).2 d) := fun k d => free_is (cmp_take l k) d
  have HR : Hid (composeN l = (cmpS (apartN l)).1) := rfl
  generalize composeN l = r at HR ⊢
  generalize apartN l = x at HA hx9 HR HFR
  have HIX : Hid (∀ k, ((cmpS (x.take k)).2 = -1 ∨ (0 ≤ (cmpS (x.take k)).2 ∧ (cmpS (x.take k)).2 < ((cmpS (x.take k)).1.length : Int))) ∧ (cmpS (x.take k)).1.length ≤ (x.take k).length) := fun k => cmp_idx (x.take k)
  have HSU : Hid (∀ k, k < x.length → cmpS (x.take (k + 1)) = cmpStep (cmpS (x.take k)) (x.getD k 0)) := fun k hk => cmp_succ x k hk
  have HEN : Hid ((cmpS (x.take x.length)).1 = r) := by show _ = _; rw [List.take_length]; exact HR.out.symm
  have H0 : Hid (cmpS (x.take 0) = ([], -1)) := rfl
  obtain ⟨n, HN⟩ : ∃ n, Hid (n = x.length) := ⟨_, rfl⟩
  have hn : n ≤ 9437184 := by rw [HN.out]; omega
  obtain ⟨av, cv, rfl, -⟩ := hv
  clear hx9 HR
  go_enter Try.func16, Try.ntmps16
  go_wp2_with fail
  go_step3
  go_wp2_with fail
  go_step3
  go_wp2_with fail
  refine HA.mono ?_
  rintro e w1 ⟨ux, rfl, rowx, b1⟩
  rw [hs_alloc] at rowx b1
  have HS1 : PairAt w.heap.size w1 := HS0.below (by rw [hs_alloc]; exact b1)
  have B1 : Below w.heap.size w w1 := hb0.trans (b1.mono (Nat.le_succ _))
  have hB1 : w.heap.size < w1.heap.size := by have := b1.size; rw [hs_alloc] at this; omega
  obtain ⟨ax, cx, rfl, hxa⟩ := rowx.at
  have hxB : ∀ b o, ax = some ⟨b, o, none⟩ → b ≠ w.heap.size := fun b o e hb => by
    rcases rowx.2 with ⟨e2, h0⟩ | ⟨g, cap, cur, e2, hg, -⟩
    · injection e2 with e2; rw [e] at e2; cases e2
    · injection e2 with e2
      rw [e] at e2
      injection e2 with e2
      injection e2 with e2
      omega
  have HCX : Hid (∀ k, k < x.length → ∃ b o, ax = some ⟨b, o, none⟩ ∧ ∀ W, w1.grownBy W (some w.heap.size) → W.cell? ⟨b, o + k, none⟩ = some (.int .i64 (x.getD k 0))) := fun k hk => by
    obtain ⟨b, o, e, hb, hc⟩ := hxa k hk
    refine ⟨b, o, e, fun W hW => ?_⟩
    have := hW.block b hb (fun e2 => by injection e2 with e2; exact hxB b o e e2)
    simp only [World.cell?, this] at hc ⊢
    exact hc
  rw [← HN.out] at HCX HSU HEN ⊢
  have hE : CoAt w.heap.size w1 (.slice none 0 0) [] w1 := ⟨HS1, World.ownsRow_nil _ _ _ _, ⟨rfl, rfl, rfl, Nat.le_refl _, fun _ _ _ => rfl⟩⟩
  clear rowx HA HS0 hb0 HS1 b1 hxa hxB
  obtain ⟨B, HB⟩ : ∃ B, Hid (B = w.heap.size) := ⟨_, rfl⟩
  rw [← HB.out] at HCX hE hB1 ⊢
  go_wp2
  go_loopw [4, 5, 14] (fun ov tv iv wr => ∃ k : Nat, k ≤ n ∧ iv = .int .i64 k ∧ CoAt B w1 ov (cmpS (x.take k)).1 wr ∧ tv = .int .i64 (cmpS (x.take k)).2) (fun _ _ iv _ => n - (intOf iv).toNat)
  case atStart => exact ⟨0, Nat.zero_le _, rfl, by rw [H0.out]; exact hE, by rw [H0.out]⟩
  case round =>
    obtain ⟨k, hk, rfl, hco, rfl⟩ := hrel
    by_cases hlt : k < n
    · obtain ⟨bx, ox, rfl, hcx⟩ := HCX.out k hlt
      have HC1 : Hid (∀ W, w1.grownBy W (some B) → W.cell? ⟨bx, ox + k, none⟩ = some (.int .i64 (x.getD k 0))) := hcx
      have hS := HSU.out k hlt
      have hF := HFR.out k (x.getD k 0)
      have hI := HIX.out k
      have hkl : (x.take k).length ≤ k := by rw [List.length_take]; exact Nat.min_le_left _ _
      generalize x.getD k 0 = d at HC1 hS hF
      generalize cmpS (x.take k) = s at hS hI hF hco ⊢
      obtain ⟨o, t⟩ := s
      dsimp only at hI hF hco ⊢
      have HST : Hid (cmpS (x.take (k + 1)) = cmpStep (o, t) d) := hS
      have HFB : Hid ((decide (t ≠ -1) && reachB (o.drop (t + 1).toNat) (clsN d)) = freeB o t d) := hF
      obtain ⟨hI1, hI2⟩ := hI
      have hon : o.length ≤ 9437184 := by omega
      have hc1 := HC1.out _ hco.gb
      have HCL := iClass d wr
      clear hS hF hcx HCX HSU HFR HIX HEN hkl hI2
      obtain ⟨ao, co, rfl, -⟩ := hco.row.at
      go_upto_region 8 with (go_at_call 26; refine HCL.mono ?_; rintro e w2 ⟨rfl, b2⟩)
      have hco2 := hco.below b2
      clear HCL hco b2 hc1
      obtain ⟨kd, HKD⟩ : ∃ kd, Hid (kd = clsN d) := ⟨_, rfl⟩
      rw [← HKD.out] at HFB ⊢
      obtain ⟨fb, HFQ⟩ : ∃ fb, Hid (fb = freeB o t d) := ⟨_, rfl⟩
      rw [← HFQ.out] at HFB
      go_cut [29] from 15 to 52 (fun fv wx => fv = .bool fb ∧ Below w2.heap.size w2 wx)
      case first =>
        by_cases h0 : t = -1
        · obtain rfl : fb = false := by rw [← HFB.out, decide_eq_false (by simpa using h0), Bool.false_and]
          have hb : (t != -1) = false := by simp [h0]
          clear hI1 HFB
          go_wp2_with fail
          go_meet
          exact ⟨rfl, Below.refl _ _⟩
        · obtain ⟨tn, rfl⟩ : ∃ tn : Nat, t = (tn : Int) := ⟨t.toNat, by omega⟩
          have htl : tn < o.length := by omega
          have hb : (((tn : Int)) != -1) = true := by simp
          have hfb : reachB (o.drop (tn + 1)) kd = fb := by
            have := HFB.out
            rwa [decide_eq_true (by omega), Bool.true_and, show ((tn : Int) + 1).toNat = tn + 1 by omega] at this
          have hsl : (Instr.slice 24 (.slice ao o.length co) (some (.int .i64 ((tn : Int) + 1))) none none).run Try.prog w2 = .ok (sliced ao (tn + 1) o.length co 1) w2 := by
            have := slice_rest ao o.length co (tn + 1) w2 (by omega)
            rwa [show (((tn + 1 : Nat) : Int)) = (tn : Int) + 1 by omega] at this
          have hwt : IntKind.i64.wrap ((tn : Int) + 1) = (tn : Int) + 1 := by rw [IntKind.wrap_i64]; omega
          have hat := hco2.row.rest (tn + 1) (by omega) rfl
          have HRE := reaches_any _ (o.drop (tn + 1)) kd w2 (by rw [List.length_drop]; omega) hat
          rw [hfb] at HRE
          generalize sliced ao (tn + 1) o.length co 1 = U at hsl HRE
          clear hI1 HFB hfb h0 hat
          go_wp2_with fail
          refine HRE.mono ?_
          rintro e w3 ⟨rfl, b3⟩
          go_wp2_with fail
          go_meet
          exact ⟨rfl, b3⟩
      case rest =>
        obtain ⟨rfl, hbx⟩ := hcut
        have HCO := hco2.below hbx
        clear hco2 hbx
        cases fb
        · have HPU : Hid (cmpStep (o, t) d = pushS (o, t) d) := step_not HFQ.out.symm
          clear HFB HFQ HC1 hI1
          have hkz : kd = 0 ∨ ¬ kd = 0 := Classical.em _
          have HALL : CoAt B w1 (.slice ao o.length co) o (wc.alloc (.cells #[.int .i64 d] 3)) := HCO.below ((Below.refl _ _).alloc (Nat.le_refl _) _)
          rcases hkz with hkz | hkz
          · have hkb : (kd == 0) = true := by simp [hkz]
            go_wp2_with (at_builtin; refine append_intH (wc.alloc (.cells #[.int .i64 d] 3)) rfl (.tmp 48) (.tmp 50) rfl w1.heap.size _ wc.heap.size 1 o d (by omega) HALL.row (cell_one_int _ _ 0 _ rfl) rfl rfl HALL.gb.size ?_; intro v8 w8 row8 hg8 _; have CO := HALL.own row8 hg8; obtain ⟨a8, c8, rfl, -⟩ := row8.at)
            go_roundw
            case rel => exact ⟨k + 1, by omega, by go_num, by rw [HST.out, HPU.out, show o.length + 1 = (o ++ [d]).length by simp]; exact CO, by rw [HST.out, HPU.out]; unfold pushS; rw [if_pos (by rw [← HKD.out]; exact hkz)]⟩
            case measure => simp [intOf]; omega
          · have hkb : (kd == 0) = false := by simp [hkz]
            go_wp2_with (at_builtin; refine append_intH (wc.alloc (.cells #[.int .i64 d] 3)) rfl (.tmp 48) (.tmp 50) rfl w1.heap.size _ wc.heap.size 1 o d (by omega) HALL.row (cell_one_int _ _ 0 _ rfl) rfl rfl HALL.gb.size ?_; intro v8 w8 row8 hg8 _; have CO := HALL.own row8 hg8; obtain ⟨a8, c8, rfl, -⟩ := row8.at)
            go_roundw
            case rel => exact ⟨k + 1, by omega, by go_num, by rw [HST.out, HPU.out, show o.length + 1 = (o ++ [d]).length by simp]; exact CO, by rw [HST.out, HPU.out]; unfold pushS; rw [if_neg (by rw [← HKD.out]; exact hkz)]⟩
            case measure => simp [intOf]; omega
        · have h0 : 0 ≤ t := by
            rcases hI1 with h | h
            · have := HFB.out
              rw [decide_eq_false (by simpa using h), Bool.false_and] at this
              cases this
            · exact h.1
          obtain ⟨tn, rfl⟩ : ∃ tn : Nat, t = (tn : Int) := ⟨t.toNat, by omega⟩
          have htl : tn < o.length := by omega
          have HSO : Hid (∀ c, pairN (o.getD tn 0) d = some c → cmpStep (o, (tn : Int)) d = (o.set tn c, (tn : Int))) := fun c h => step_free HFQ.out.symm h
          have HNO : Hid (pairN (o.getD tn 0) d = none → cmpStep (o, (tn : Int)) d = pushS (o, (tn : Int)) d) := fun h => step_none h
          have HPR := fun W h => pairOf_any B (o.getD tn 0) d W h
          obtain ⟨ao2, co2, e2, hoc⟩ := HCO.row.at
          injection e2 with e3 e4 e5
          subst e3; subst e5
          obtain ⟨bo, oo, rfl, hbo, hco⟩ := hoc tn htl
          generalize pairN (o.getD tn 0) d = po at HSO HNO HPR
          generalize o.getD tn 0 = z at hco HPR
          unfold pairV at HPR
          have HPW := HPR _ HCO.src
          clear HFB HFQ hoc e4 hI1 h0 HPR
          go_upto_region 9 with fail
          go_cut [9, 10] from 15 to 52 (fun cv bv wx => cv = .int .i64 (po.getD 0) ∧ bv = .bool po.isSome ∧ CoAt B w1 (.slice (some ⟨bo, oo, none⟩) o.length co) o wx)
          case first =>
            go_wp2_with fail
            refine HPW.mono ?_
            rintro e w5 ⟨rfl, hs5, hg5⟩
            go_wp2_with fail
            go_meet
            exact ⟨rfl, rfl, HCO.pair hB1 hs5 hg5⟩
          case rest =>
            obtain ⟨rfl, rfl, HCO5⟩ := hcut
            clear HCO hco hbo HPW
            cases po with
            | none =>
              have HPU : Hid (cmpStep (o, (tn : Int)) d = pushS (o, (tn : Int)) d) := HNO.out rfl
              clear HNO HSO
              have hkz : kd = 0 ∨ ¬ kd = 0 := Classical.em _
              have HALL : CoAt B w1 (.slice (some ⟨bo, oo, none⟩) o.length co) o (wc.alloc (.cells #[.int .i64 d] 3)) := HCO5.below ((Below.refl _ _).alloc (Nat.le_refl _) _)
              rcases hkz with hkz | hkz
              · have hkb : (kd == 0) = true := by simp [hkz]
                go_wp2_with (at_builtin; refine append_intH (wc.alloc (.cells #[.int .i64 d] 3)) rfl (.tmp 48) (.tmp 50) rfl w1.heap.size _ wc.heap.size 1 o d (by omega) HALL.row (cell_one_int _ _ 0 _ rfl) rfl rfl HALL.gb.size ?_; intro v8 w8 row8 hg8 _; have CO := HALL.own row8 hg8; obtain ⟨a8, c8, rfl, -⟩ := row8.at)
                go_roundw
                case rel => exact ⟨k + 1, by omega, by go_num, by rw [HST.out, HPU.out, show o.length + 1 = (o ++ [d]).length by simp]; exact CO, by rw [HST.out, HPU.out]; unfold pushS; rw [if_pos (by rw [← HKD.out]; exact hkz)]⟩
                case measure => simp [intOf]; omega
              · have hkb : (kd == 0) = false := by simp [hkz]
                go_wp2_with (at_builtin; refine append_intH (wc.alloc (.cells #[.int .i64 d] 3)) rfl (.tmp 48) (.tmp 50) rfl w1.heap.size _ wc.heap.size 1 o d (by omega) HALL.row (cell_one_int _ _ 0 _ rfl) rfl rfl HALL.gb.size ?_; intro v8 w8 row8 hg8 _; have CO := HALL.own row8 hg8; obtain ⟨a8, c8, rfl, -⟩ := row8.at)
                go_roundw
                case rel => exact ⟨k + 1, by omega, by go_num, by rw [HST.out, HPU.out, show o.length + 1 = (o ++ [d]).length by simp]; exact CO, by rw [HST.out, HPU.out]; unfold pushS; rw [if_neg (by rw [← HKD.out]; exact hkz)]⟩
                case measure => simp [intOf]; omega
            | some c =>
              have HPU : Hid (cmpStep (o, (tn : Int)) d = (o.set tn c, (tn : Int))) := HSO.out c rfl
              clear HNO HSO
              have row5 := HCO5.row
              rcases id row5.2 with ⟨e, h0'⟩ | ⟨g, cap, cur, e, hg, hh, -⟩
              · exact absurd h0' (by omega)
              injection e with e1 e2 e3
              injection e1 with e1
              injection e1 with e1 e4
              subst e1; subst e3; subst e4
              have rowz : wc.ownsRow w1.heap.size 3 1 (.slice (some ⟨bo, 0, none⟩) o.length co) o.length (intsV o) := row5
              have hfz := rowz.frozenAt tn
              obtain ⟨u0, hcl⟩ : ∃ u0, wc.cell? ⟨bo, tn, none⟩ = some u0 := ⟨_, (rowz.cellAt tn (by omega)).trans (List.getElem?_eq_getElem (by have := rowz.1; omega))⟩
              have HS : IntRow (wc.setCell ⟨bo, tn, none⟩ (.int .i64 c)) w1.heap.size (.slice (some ⟨bo, 0, none⟩) o.length co) (o.set tn c) := by
                have := (rowz.stored tn (.int .i64 c)).1
                show World.ownsRow _ _ _ _ _ _ _
                rw [List.length_set, show intsV (o.set tn c) = (intsV o).set tn (.int .i64 c) by simp [intsV, List.map_set]]
                exact this
              have HB2 : Hid (CoAt B w1 (.slice (some ⟨bo, 0, none⟩) o.length co) (o.set tn c) (wc.setCell ⟨bo, tn, none⟩ (.int .i64 c))) := HCO5.own HS (gbi_set wc bo tn (.int .i64 c))
              clear row5 rowz hh HS HCO5
              go_wp2
              go_roundw
              case rel => exact ⟨k + 1, by omega, by go_num, by rw [HST.out, HPU.out]; exact HB2.out, by rw [HST.out, HPU.out]⟩
              case measure => simp [intOf]; omega
    · obtain rfl : k = n := by omega
      rw [HEN.out] at hco
      have HBE : Hid (Below w.heap.size w wr) := ⟨hco.gb.os.trans B1.os, hco.gb.tape.trans B1.tape, hco.gb.output.trans B1.output, Nat.le_trans B1.size hco.gb.size, fun q hq => (hco.gb.block q (Nat.lt_of_lt_of_le hq B1.size) (fun e => by injection e with e; rw [HB.out] at e; omega)).trans (B1.block q hq)⟩
      have HRW : Hid (IntRow wr w.heap.size _ r) := hco.row.mono B1.size
      clear hco
      go_wp2
      (try rw [Exit.noGoto_ret])
      go_ret
      exact ⟨_, rfl, HRW.out, HBE.out⟩
end Go.Proofs.Ytkgnlamlmnhleaa
