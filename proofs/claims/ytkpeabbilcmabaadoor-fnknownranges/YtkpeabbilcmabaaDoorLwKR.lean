/- FnKnownRanges' walk, given what the program's three functions answer. -/
import Derived.Test.YtkpeabbilcmabaaDoorRows
import Derived.Test.YtkpeabbilcmabaaDoorRgV
import Derived.Test.YtkpeabbilcmabaaDoorAtB
namespace Go.Proofs.YtkpeabbilcmabaaDoor
open Go.RowKit Go.Sort

/-- what impl.KnownRanges, InRanges and CountOf answer -/
structure KrImpl (w0 : World) : Prop where
  k : Calls Tryd.prog 5 #[] w0 fun e w' => ∃ x, e = .returned x ∧ RgRow w' w0.heap.size x knR ∧ Below w0.heap.size w0 w'
  i : ∀ (v : Value) (l : List Rg) (c : Int) (w : World), RgsAt w v l → l.length ≤ 4194304 →
    Calls Tryd.prog 8 #[v, .int .i64 c] w fun e w' => e = .returned (.bool (rgInN l c)) ∧ Below w.heap.size w w'
  c : ∀ (v : Value) (l : List Rg) (w : World), RgsAt w v l → l.length ≤ 4194304 →
    Calls Tryd.prog 10 #[v] w fun e w' => e = .returned (.int .i64 (rgCount l)) ∧ Below w.heap.size w w'
theorem knR_inN (c : Int) : rgInN knR c = knB c := by
  unfold rgInN
  rw [knR_ok, Bool.true_and, Bool.eq_iff_iff, rgInB_iff, knR_in]

set_option maxRecDepth 100000 in
set_option maxHeartbeats 4000000 in
theorem known_walk {w : World} (I : KrImpl w) (S : Src) (ok : S.ok) (hl : Lies S w) :
    Calls Tryd.prog 3 #[.slice S.a S.len S.cap] w fun e w' => e = .returned (.bool true) ∧ Below w.heap.size w w' := by
  have hlen : S.len ≤ 1048576 := ok.1
  have hkl : knR.length ≤ 4194304 := by decide
  have HAT := fun j hj => atB_any S ok j hj
  go_enter Tryd.func3, Tryd.ntmps3
  go_wp2_with (first | (go_at_call 4; go_in))
  refine I.k.mono ?_
  rintro _ w1 ⟨v, rfl, r1, b1⟩
  have hO := sRangesOk v knR w1 r1.at (by omega)
  rw [knR_ok] at hO
  go_wp2_with fail
  refine hO.mono ?_
  rintro _ w2 ⟨rfl, b2⟩
  have h2 := r1.at.below b2
  have hl2 := (hl.below b1).below b2
  have B2 := b1.trans (b2.mono b1.size)
  have HI : ∀ c w', RgsAt w' v knR → Calls Tryd.prog 8 #[v, .int .i64 c] w' fun e w'' => e = .returned (.bool (knB c)) ∧ Below w'.heap.size w' w'' := fun c w' h => by
    have := I.i v knR c w' h hkl
    rwa [knR_inN] at this
  have HC := fun w' h => I.c v knR w' h hkl
  have HC2 := fun u w' h => sCountOf u knR w' h (by omega)
  have HS2 := fun w' => sKnownRanges w'
  have hm1 : knB (-1) = false := by decide
  generalize rgCount knR = ct at HC HC2
  have HKN := fun c w' => sKnown c w'
  clear hO r1 b1 b2 ok
  have HK : Hid (∀ w', Below w2.heap.size w2 w' → RgsAt w' v knR ∧ Lies S w') := fun w' h => ⟨h2.below h, hl2.below h⟩
  clear h2 hl2 hl
  go_wp2
  go_loopw [4] (fun iv wr => ∃ i : Nat, i ≤ 8 ∧ iv = .int .i64 i ∧ Below w2.heap.size w2 wr) (fun iv _ => 8 - (intOf iv).toNat)
  case atStart => exact ⟨0, by omega, rfl, Below.refl _ _⟩
  case round =>
    obtain ⟨i, hi, rfl, hbel⟩ := hrel
    obtain ⟨hv, hli⟩ := HK.out _ hbel
    by_cases hlt : i < 8
    · have hi8 : (i : Int) < 8 := by omega
      obtain ⟨x, x0, x1, HX⟩ := HAT (2 * i) (by omega)
      obtain ⟨y, y0, y1, HY⟩ := HAT (2 * i + 1) (by omega)
      have e1 : IntKind.i64.wrap (2 * (i : Int)) = 2 * (i : Int) := by rw [IntKind.wrap_i64]; omega
      have e2 : IntKind.i64.wrap (2 * (i : Int) + 1) = 2 * (i : Int) + 1 := by rw [IntKind.wrap_i64]; omega
      have e3 : IntKind.i64.wrap (x * 256) = x * 256 := by rw [IntKind.wrap_i64]; omega
      have e4 : IntKind.i64.wrap (x * 256 + y) = x * 256 + y := by rw [IntKind.wrap_i64]; omega
      have HXW : Calls Tryd.prog 7 #[.slice S.a S.len S.cap, .int .i64 (2 * (i : Int))] wr fun e w'' => e = .returned (.int .i64 x) ∧ wr = w'' := by have := HX wr hli; rwa [show ((2 * i : Nat) : Int) = 2 * (i : Int) by omega] at this
      have HYW : Calls Tryd.prog 7 #[.slice S.a S.len S.cap, .int .i64 (2 * (i : Int) + 1)] wr fun e w'' => e = .returned (.int .i64 y) ∧ wr = w'' := by have := HY wr hli; rwa [show ((2 * i + 1 : Nat) : Int) = 2 * (i : Int) + 1 by omega] at this
      clear HX HY HAT
      go_wp2_with fail
      refine HXW.mono ?_
      rintro e w3 ⟨rfl, rfl⟩
      go_wp2_with fail
      refine HYW.mono ?_
      rintro e w4 ⟨rfl, rfl⟩
      go_wp2_with fail
      refine (HI (x * 256 + y) wr hv).mono ?_
      rintro e w5 ⟨rfl, b5⟩
      go_wp2_with fail
      refine (HKN (x * 256 + y) w5).mono ?_
      rintro e w6 ⟨rfl, b6⟩
      have n1 : ∀ q : Bool, (q != q) = false := fun q => by simp
      have n2 := n1 (knB (x * 256 + y))
      generalize knB (x * 256 + y) = q1 at n2
      have c6 := b5.trans (b6.mono b5.size)
      go_wp2_with fail
      refine (HI _ w6 (hv.below c6)).mono ?_
      rintro e w7 ⟨rfl, b7⟩
      have c7 := c6.trans (b7.mono c6.size)
      go_wp2_with fail
      refine (HKN _ w7).mono ?_
      rintro e w8 ⟨rfl, b8⟩
      have c8 := hbel.trans ((c7.trans (b8.mono c7.size)).mono hbel.size)
      have n3 := n1 (knB ((x * 256 + y).tmod 1300))
      generalize knB ((x * 256 + y).tmod 1300) = q2 at n3 ⊢
      go_wp2
      go_roundw
      case rel => exact ⟨i + 1, by omega, by go_num, c8⟩
      case measure => simp [intOf]; omega
    · obtain rfl : i = 8 := by omega
      go_wp2_with fail
      refine (HC wr hv).mono ?_
      rintro e w3 ⟨rfl, b3⟩
      go_wp2_with fail
      refine (HS2 w3).mono ?_
      rintro e w4 ⟨u4, rfl, r4, b4⟩
      go_wp2_with fail
      refine (HC2 u4 w4 r4.at).mono ?_
      rintro e w5 ⟨rfl, b5⟩
      have c4 := b3.trans (b4.mono b3.size)
      have c5 := c4.trans (b5.mono c4.size)
      have HI5 := HI (-1) w5 (hv.below c5)
      rw [hm1] at HI5
      have hcc : (ct == ct) = true := by simp
      go_wp2_with fail
      refine HI5.mono ?_
      rintro e w6 ⟨rfl, b6⟩
      have c6 := c5.trans (b6.mono c5.size)
      have z6 := hbel.trans (c6.mono hbel.size)
      go_wp2
      go_ret
      exact ⟨rfl, B2.trans (z6.mono B2.size)⟩

end Go.Proofs.YtkpeabbilcmabaaDoor
