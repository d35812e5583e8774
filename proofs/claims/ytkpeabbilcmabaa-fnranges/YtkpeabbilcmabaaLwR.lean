/- FnRanges' walk, given what the program's four functions answer. -/
import Derived.Test.YtkpeabbilcmabaaRows
import Derived.Test.YtkpeabbilcmabaaRgE
import Derived.Test.YtkpeabbilcmabaaRgD
import Derived.Test.YtkpeabbilcmabaaRgQ
namespace Go.Proofs.Ytkpeabbilcmabaa
open Go.RowKit Go.Sort

/-- what impl.Union, Minus, InRanges and CountOf answer -/
structure RgImpl : Prop where
  u : ∀ (va vb : Value) (a b : List Rg) (w : World), RgsAt w va a → RgsAt w vb b → a.length ≤ 4194304 → b.length ≤ 4194304 →
    Calls Try.prog 10 #[va, vb] w fun e w' => ∃ x, e = .returned x ∧ RgRow w' w.heap.size x (rgUnion a b) ∧ Below w.heap.size w w'
  m : ∀ (va vb : Value) (a b : List Rg) (w : World), RgsAt w va a → RgsAt w vb b → a.length ≤ 4194304 → b.length ≤ 4194304 →
    Calls Try.prog 11 #[va, vb] w fun e w' => ∃ x, e = .returned x ∧ RgRow w' w.heap.size x (rgMinus a b) ∧ Below w.heap.size w w'
  i : ∀ (v : Value) (l : List Rg) (c : Int) (w : World), RgsAt w v l → l.length ≤ 4194304 →
    Calls Try.prog 14 #[v, .int .i64 c] w fun e w' => e = .returned (.bool (rgInN l c)) ∧ Below w.heap.size w w'
  c : ∀ (v : Value) (l : List Rg) (w : World), RgsAt w v l → l.length ≤ 4194304 →
    Calls Try.prog 16 #[v] w fun e w' => e = .returned (.int .i64 (rgCount l)) ∧ Below w.heap.size w w'

set_option maxRecDepth 100000 in
set_option maxHeartbeats 4000000 in
theorem ranges_walk (I : RgImpl) (S : Src) (ok : S.ok) (w : World) (hl : Lies S w) :
    Calls Try.prog 3 #[.slice S.a S.len S.cap] w fun e w' => e = .returned (.bool true) ∧ Below w.heap.size w w' := by
  have hlen : S.len ≤ 1048576 := ok.1
  have HDR := drawUnion_any S ok w hl
  go_enter Try.func3, Try.ntmps3
  go_wp2_with (first | (go_at_call 8; go_in))
  refine HDR.mono ?_
  rintro _ w1 ⟨va, vb, a, b, mid, rfl, ⟨hla, hlb⟩, oa, ob, b1⟩
  have ha1 : RgsAt w1 va a := (show RgRow _ _ _ _ from oa.row).at
  have hb1 : RgsAt w1 vb b := (show RgRow _ _ _ _ from ob.row).at
  clear oa ob HDR hl ok hlen
  have hlu := rgUnion_len a b
  have hlm := rgMinus_len a b
  go_wp2_with fail
  refine (I.u va vb a b w1 ha1 hb1 (by omega) (by omega)).mono ?_
  rintro e w2 ⟨vu, rfl, ru, b2⟩
  have ha2 := ha1.below b2
  have hb2 := hb1.below b2
  have B2 := b1.trans (b2.mono b1.size)
  go_wp2_with fail
  refine (I.m va vb a b w2 ha2 hb2 (by omega) (by omega)).mono ?_
  rintro e w3 ⟨vm, rfl, rm, b3⟩
  have ha3 := ha2.below b3
  have hb3 := hb2.below b3
  have hu3 := ru.at.below b3
  have hm3 := rm.at
  have B3 := B2.trans (b3.mono B2.size)
  clear ha1 hb1 ha2 hb2 ru rm b1 b2 b3 B2
  have HA := fun w' h => sRangesOk va a w' h (by omega)
  have HB := fun w' h => sRangesOk vb b w' h (by omega)
  have HRA := rgsB_iff a
  have HRB := rgsB_iff b
  generalize rgsB a = ra at HA HRA
  generalize rgsB b = rb at HB HRB
  by_cases hright : RgR a ∧ RgR b
  · obtain rfl := HRA.2 hright.1
    obtain rfl := HRB.2 hright.2
    have F := rg_facts hright.1 hright.2
    go_wp2_with fail
    refine (HA w3 ha3).mono ?_
    rintro e w4 ⟨rfl, b4⟩
    have hb4 := hb3.below b4
    go_wp2_with fail
    refine (HB w4 hb4).mono ?_
    rintro e w5 ⟨rfl, b5⟩
    have B5 := (B3.trans (b4.mono B3.size)).trans (b5.mono (B3.trans (b4.mono B3.size)).size)
    have ha5 := (ha3.below b4).below b5
    have hb5 := hb4.below b5
    have hu5 := (hu3.below b4).below b5
    have hm5 := (hm3.below b4).below b5
    clear ha3 hb3 hb4 hu3 hm3 b4 b5 B3 HA HB HRA HRB
    have FI : Hid (RgFacts a b) := F
    have IU := I.u
    have HK : Hid (∀ w', Below w5.heap.size w5 w' → RgsAt w' va a ∧ RgsAt w' vb b ∧ RgsAt w' vu (rgUnion a b) ∧ RgsAt w' vm (rgMinus a b)) := fun w' h => ⟨ha5.below h, hb5.below h, hu5.below h, hm5.below h⟩
    clear F ha5 hb5 hu5 hm5 hright
    go_wp2
    go_loopw [7] (fun cv wr => ∃ c : Int, cv = .int .i64 c ∧ (-1 ≤ c ∧ c ≤ 60) ∧ Below w5.heap.size w5 wr) (fun cv _ => (60 - intOf cv).toNat)
    case atStart => exact ⟨-1, rfl, ⟨by omega, by omega⟩, Below.refl _ _⟩
    case round =>
      obtain ⟨c, rfl, ⟨hc0, hc1⟩, hbel⟩ := hrel
      obtain ⟨ha, hb, hu, hm⟩ := HK.out _ hbel
      by_cases hlt : c < 60
      · have hwc : IntKind.i64.wrap (c + 1) = c + 1 := by rw [IntKind.wrap_i64]; omega
        have f1 := FI.out.iu c
        have f2 := FI.out.im c
        have HIA := sInRanges va a c wr ha (by omega)
        have HIB := fun w' h => sInRanges vb b c w' h (by omega)
        have HIU := fun w' h => I.i vu (rgUnion a b) c w' h (by omega)
        have HIM := fun w' h => I.i vm (rgMinus a b) c w' h (by omega)
        rw [f1] at HIU
        rw [f2] at HIM
        generalize rgInN a c = x at HIA HIU HIM
        generalize rgInN b c = y at HIB HIU HIM
        clear f1 f2 IU
        go_wp2_with fail
        refine HIA.mono ?_
        rintro e w6 ⟨rfl, b6⟩
        go_wp2_with fail
        refine (HIB w6 (hb.below b6)).mono ?_
        rintro e w7 ⟨rfl, b7⟩
        go_wp2_with fail
        refine (HIU w7 ((hu.below b6).below b7)).mono ?_
        rintro e w8 ⟨rfl, b8⟩
        have n1 : ((x || y) != (x || y)) = false := by simp
        have n2 : ((x && !y) != (x && !y)) = false := by simp
        have HM8 := HIM w8 (((hm.below b6).below b7).below b8)
        have z6 := hbel.trans (b6.mono hbel.size)
        have z7 := z6.trans (b7.mono z6.size)
        have z8 := z7.trans (b8.mono z7.size)
        clear HIM HIU HIB HIA ha hb hu hm b6 b7 b8 z6 z7
        cases x <;> cases y <;> (
          go_wp2_with fail
          refine HM8.mono ?_
          rintro e w9 ⟨rfl, b9⟩
          go_wp2
          go_roundw
          case rel => exact ⟨c + 1, rfl, ⟨by omega, by omega⟩, z8.trans (b9.mono z8.size)⟩
          case measure => simp [intOf]; omega)
      · obtain rfl : c = 60 := by omega
        have hO1 := sRangesOk vu (rgUnion a b) wr hu (by omega)
        have hO2 := fun w' h => sRangesOk vm (rgMinus a b) w' h (by omega)
        rw [FI.out.ru] at hO1
        rw [FI.out.rm] at hO2
        have HU2 := fun w' h h' => I.u vb va b a w' h h' (by omega) (by omega)
        rw [FI.out.sw] at HU2
        have HSM := fun x w' h h' => sameRg_any vu x (rgUnion a b) (rgUnion a b) w' h h' (by omega)
        have HSM2 := fun x w' h h' => sameRg_any x vu (rgUnion a b) (rgUnion a b) w' h h' (by omega)
        rw [decide_eq_true rfl] at HSM HSM2
        have HC1 := fun w' h => I.c vu (rgUnion a b) w' h (by omega)
        have HC2 := fun w' h => I.c vb b w' h (by omega)
        have HC3 := fun w' h => I.c vm (rgMinus a b) w' h (by omega)
        have HU3 := fun w' h h' => I.u vm vb (rgMinus a b) b w' h h' (by omega) (by omega)
        rw [FI.out.mb] at HU3
        have hct := FI.out.ct
        obtain ⟨⟨d0, d1⟩, d2, d3⟩ := FI.out.bd
        rw [hct] at HC1
        clear hct FI
        generalize rgCount b = cb at *
        generalize rgCount (rgMinus a b) = cm at *
        generalize rgUnion a b = U at *
        generalize rgMinus a b = M at *
        have hwc : IntKind.i64.wrap (cb + cm) = cb + cm := by rw [IntKind.wrap_i64]; omega
        have HK2 : Hid (∀ w', Below wr.heap.size wr w' → RgsAt w' va a ∧ RgsAt w' vb b ∧ RgsAt w' vu U ∧ RgsAt w' vm M) := fun w' h => ⟨ha.below h, hb.below h, hu.below h, hm.below h⟩
        have z5 := B5.trans (hbel.mono B5.size)
        clear ha hb hu hm HK I IU hbel B5
        go_wp2_with fail
        refine hO1.mono ?_
        rintro e w6 ⟨rfl, b6⟩
        go_wp2_with fail
        refine (hO2 w6 (HK2.out _ b6).2.2.2).mono ?_
        rintro e w7 ⟨rfl, b7⟩
        have c7 := b6.trans (b7.mono b6.size)
        go_wp2_with fail
        refine (HU2 w7 (HK2.out _ c7).2.1 (HK2.out _ c7).1).mono ?_
        rintro e w8 ⟨x8, rfl, r8, b8⟩
        have c8 := c7.trans (b8.mono c7.size)
        go_wp2_with fail
        refine (HSM x8 w8 (HK2.out _ c8).2.2.1 r8.at).mono ?_
        rintro e w9 ⟨rfl, b9⟩
        have c9 := c8.trans (b9.mono c8.size)
        go_wp2_with fail
        refine (HC1 w9 (HK2.out _ c9).2.2.1).mono ?_
        rintro e w10 ⟨rfl, b10⟩
        have c10 := c9.trans (b10.mono c9.size)
        go_wp2_with fail
        refine (HC2 w10 (HK2.out _ c10).2.1).mono ?_
        rintro e w11 ⟨rfl, b11⟩
        have c11 := c10.trans (b11.mono c10.size)
        go_wp2_with fail
        refine (HC3 w11 (HK2.out _ c11).2.2.2).mono ?_
        rintro e w12 ⟨rfl, b12⟩
        have c12 := c11.trans (b12.mono c11.size)
        go_wp2_with fail
        refine (HU3 w12 (HK2.out _ c12).2.2.2 (HK2.out _ c12).2.1).mono ?_
        rintro e w13 ⟨x13, rfl, r13, b13⟩
        have c13 := c12.trans (b13.mono c12.size)
        go_wp2_with fail
        refine (HSM2 x13 w13 r13.at (HK2.out _ c13).2.2.1).mono ?_
        rintro e w14 ⟨rfl, b14⟩
        have c14 := c13.trans (b14.mono c13.size)
        go_wp2
        go_ret
        exact ⟨rfl, z5.trans (c14.mono z5.size)⟩
  · have hU0 := rgUnion_no hright
    have hM0 := rgMinus_no hright
    rw [hU0] at hu3
    rw [hM0] at hm3
    obtain ⟨ua, uc, rfl, -, -⟩ := hu3
    obtain ⟨ma, mc, rfl, -, -⟩ := hm3
    have hz : ([] : List Rg).length = 0 := rfl
    rw [hz]
    have hnn : ¬ (ra = true ∧ rb = true) := fun h => hright ⟨HRA.1 h.1, HRB.1 h.2⟩
    have HNN : Hid _ := hnn
    clear HRA HRB hright hU0 hM0 hnn
    cases ra with
    | false =>
      go_wp2_with fail
      refine (HA w3 ha3).mono ?_
      rintro e w4 ⟨rfl, b4⟩
      go_wp2
      go_ret
      exact ⟨rfl, B3.trans (b4.mono B3.size)⟩
    | true =>
      obtain rfl : rb = false := by cases rb; rfl; exact absurd ⟨rfl, rfl⟩ HNN.out
      go_wp2_with fail
      refine (HA w3 ha3).mono ?_
      rintro e w4 ⟨rfl, b4⟩
      go_wp2_with fail
      refine (HB w4 (hb3.below b4)).mono ?_
      rintro e w5 ⟨rfl, b5⟩
      have B4 := B3.trans (b4.mono B3.size)
      go_wp2
      go_ret
      exact ⟨rfl, B4.trans (b5.mono B4.size)⟩

end Go.Proofs.Ytkpeabbilcmabaa
