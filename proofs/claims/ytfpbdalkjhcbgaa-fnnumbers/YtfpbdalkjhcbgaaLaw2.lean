/- The walk of FnNumbers over bytes that are not too many. -/
import Derived.Test.YtfpbdalkjhcbgaaRows
import Derived.Test.YtfpbdalkjhcbgaaLaw1
import Derived.Test.YtfpbdalkjhcbgaaDr4
import Derived.Test.YtfpbdalkjhcbgaaRdVr
import Derived.Test.YtfpbdalkjhcbgaaRdFix
import Derived.Test.YtfpbdalkjhcbgaaDci
import Derived.Test.YtfpbdalkjhcbgaaRdc
import Derived.WalkKit
import Derived.WalkSpells
import Derived.WalkLawsBesides
namespace Go.Proofs.Ytfpbdalkjhcbgaa
open Go.RowKit

theorem iDec_any (m : Int) (w : World) (h1 : -9223372036854775808 ≤ m) (h2 : m ≤ 9223372036854775807) :
    Calls Try.prog 12 #[.int .i64 m] w fun e w' => e = .returned (.string ⟨(decL m).toArray⟩) ∧ Below w.heap.size w w' := by
  by_cases hp : 0 ≤ m
  · obtain ⟨n, rfl⟩ := Int.eq_ofNat_of_zero_le hp
    exact iDec_pos n w (by omega)
  · obtain ⟨n, hn⟩ := Int.eq_ofNat_of_zero_le (show 0 ≤ -m by omega)
    obtain rfl : m = -(n : Int) := by omega
    exact iDec_neg n w (by omega) (by omega)

theorem decL_len (n : Int) : (decL n).length ≤ 20 := by
  have := dp_length 18 n.natAbs
  unfold decL
  split <;> simp <;> omega

theorem iReadFixed_some (s : ByteArray) (w : World) (hs : s.size ≤ maxLen) :
    Calls Try.prog 10 #[.string s, .int .i64 7] w fun e w' => ∃ (y : Int) (is : Bool), e = .returned (.tuple #[.int .i64 y, .bool is]) ∧ w = w' := by
  by_cases h : 7 ≤ s.size
  · refine (iReadFixed_yes s 7 w hs rfl h).mono ?_
    rintro e w' ⟨rfl, rfl⟩
    exact ⟨_, _, rfl, rfl⟩
  · refine (iReadFixed_no s 7 w (Or.inr (by omega))).mono ?_
    rintro e w' ⟨rfl, rfl⟩
    exact ⟨_, _, rfl, rfl⟩

theorem app_size' (a b : ByteArray) : (a ++ b).size = a.size + b.size := ByteArray.size_append

set_option maxRecDepth 100000 in
set_option maxHeartbeats 1000000 in
theorem numbers_1 (S : Src) (ok : S.ok) (w : World) (hl : Lies S w) (hc0 : nX S (s0 S) ≤ -1000000000) :
    Calls Try.prog 3 #[.slice S.a S.len S.cap] w fun e w' => e = .returned (.bool true) ∧ Below w.heap.size w w' := by
  have hlen : S.len ≤ 1048576 := ok.1
  obtain ⟨rv, hrv, hall0⟩ := drawReadVar_any S ok
  have hall : Hid (∀ (w : World), Lies S w → Calls Try.prog 15 #[.slice S.a S.len S.cap] w fun e w' => e = .returned (.string rv) ∧ Below w.heap.size w w') := hall0
  clear hall0
  obtain ⟨n, HN⟩ : ∃ n, Hid (n = nX S (s0 S)) := ⟨_, rfl⟩
  have hc : n ≤ -1000000000 := by rw [HN.out]; exact hc0
  clear hc0
  have hn : -9223372036854775808 ≤ n ∧ n ≤ 9223372036854775807 := by rw [HN.out]; exact nX_bd S _
  obtain ⟨t, HT⟩ : ∃ t, Hid (t = tL S 40 (s0 S)) := ⟨_, rfl⟩
  have htl : t.length ≤ 40 := by have := tL_length S 40 (s0 S) (by decide); rw [← HT.out] at this; omega
  go_enter Try.func3, Try.ntmps3
  go_wp2_with (first | (go_at_call 4; go_in))
  refine (drawVar_any S ok _ hl).mono ?_
  rintro e w1 ⟨rfl, b1⟩
  have l1 := hl.below b1
  rw [← HN.out]
  go_wp2_with fail
  refine (drawHex_any S ok _ l1).mono ?_
  rintro e w2 ⟨rfl, b2⟩
  have l2 := l1.below b2
  have B2 : Below w.heap.size w w2 := b1.trans (b2.mono b1.size)
  rw [← HT.out]
  clear hl b1 l1 b2
  obtain ⟨tv, HTV⟩ : ∃ tv : ByteArray, Hid (tv = ⟨t.toArray⟩) := ⟨_, rfl⟩
  have htv : tv.size ≤ 40 := by rw [HTV.out]; simpa [ByteArray.size] using htl
  rw [← HTV.out]
  go_wp2_with fail
  refine (iVar_any n _).mono ?_
  rintro e w3 ⟨rfl, b3⟩
  have l3 := l2.below b3
  have B3 : Below w.heap.size w w3 := B2.trans (b3.mono B2.size)
  clear l2 b3 B2
  obtain ⟨sv, HSV⟩ : ∃ sv : ByteArray, Hid (sv = ⟨(varA n).toArray⟩) := ⟨_, rfl⟩
  have hsv : sv.size ≤ 7 := by rw [HSV.out]; simpa [ByteArray.size] using varA_length n
  rw [← HSV.out]
  go_wp2_with fail
  refine (iReadVar_any (sv ++ tv) _ (by rw [app_size']; unfold maxLen; omega)).mono ?_
  rintro e w4 ⟨x, k, rfl, hr, rfl⟩
  have HR : Hid (RdVar (varA n ++ t) x k) := by
    have e : (sv ++ tv).data.toList = varA n ++ t := by rw [HSV.out, HTV.out]; simp
    rw [e] at hr; exact hr
  clear hr
  have hin : inB n 0 562949953421311 = false := by
    cases h : inB n 0 562949953421311
    · rfl
    · have := inB_le h; omega
  have hse : sv.toList.isEmpty = true := by
    rw [ByteArray.toList_eq, HSV.out]; unfold varA; rw [hin]; rfl
  clear hin HR
  go_wp2_with fail
  refine (iFixed_no n 7 _ (Or.inr (by omega))).mono ?_
  rintro e w5 ⟨rfl, rfl⟩
  have l5 := l3
  have B5 := B3
  clear l3 B3
  go_wp2_with fail
  refine (iReadFixed_some _ _ (by rw [app_size']; have : (⟨#[]⟩ : ByteArray).size = 0 := rfl; unfold maxLen; omega)).mono ?_
  rintro e w6 ⟨y, is, rfl, rfl⟩
  have l6 := l5
  have B6 := B5
  clear l5 B5
  go_wp2_with fail
  refine (iDec_any n _ (by omega) (by omega)).mono ?_
  rintro e w7 ⟨rfl, b7⟩
  have l7 := l6.below b7
  have B7 : Below w.heap.size w w7 := B6.trans (b7.mono B6.size)
  clear l6 b7 B6
  obtain ⟨dv, HDV⟩ : ∃ dv : ByteArray, Hid (dv = ⟨(decL n).toArray⟩) := ⟨_, rfl⟩
  have hdv : dv.size ≤ maxLen := by rw [HDV.out]; have := decL_len n; show (decL n).toArray.size ≤ maxLen; rw [List.size_toArray]; unfold maxLen; omega
  rw [← HDV.out]
  go_wp2_with fail
  refine (iReadDec_any dv _ hdv).mono ?_
  rintro e w8 ⟨d, fine, rfl, hd, rfl⟩
  have hdb := dec_back n d fine (by omega) (by omega) (by have e : dv.data.toList = decL n := by rw [HDV.out]
                                                          rw [e] at hd; exact hd)
  clear hd
  have hfine : fine = false := by rw [hdb.1, decide_eq_false (by omega)]; rfl
  subst hfine
  clear hdb
  go_wp2_with fail
  refine (iHex_any tv _ (by omega)).mono ?_
  rintro e w9 ⟨rfl, b9⟩
  have l9 := l7.below b9
  have B9 : Below w.heap.size w w9 := B7.trans (b9.mono B7.size)
  clear l7 b9 B7
  obtain ⟨xv, HXV⟩ : ∃ xv : ByteArray, Hid (xv = ⟨(hexL tv.data.toList).toArray⟩) := ⟨_, rfl⟩
  have hxv : xv.size ≤ 1048576 := by
    rw [HXV.out]; show (hexL tv.data.toList).toArray.size ≤ 1048576; rw [List.size_toArray, hexL_length, Array.length_toList]; have : tv.data.size = tv.size := rfl; omega
  rw [← HXV.out]
  go_wp2_with fail
  refine (iUnhex_any xv _ hxv).mono ?_
  rintro e w10 ⟨rfl, b10⟩
  have l10 := l9.below b10
  have B10 : Below w.heap.size w w10 := B9.trans (b10.mono B9.size)
  clear l9 b10 B9
  have hun := unhex_hex tv.data.toList
  have hxe : xv.data.toList = hexL tv.data.toList := by rw [HXV.out]
  rw [hxe, (uh_some hun).1, (uh_some hun).2]
  clear hun hxe
  have htve : (⟨tv.data.toList.toArray⟩ : ByteArray) = tv := by obtain ⟨⟨x⟩⟩ := tv; rfl
  rw [htve]
  clear htve
  go_wp2_with fail
  refine (hall.out _ l10).mono ?_
  rintro e w11 ⟨rfl, b11⟩
  have l11 := l10.below b11
  have B11 : Below w.heap.size w w11 := B10.trans (b11.mono B10.size)
  clear l10 b11 B10
  go_wp2_with fail
  refine (iReadVar_any rv _ (by unfold maxLen; omega)).mono ?_
  rintro e w12 ⟨z, j, rfl, hr2, rfl⟩
  rcases rd_forth _ _ _ hr2 with hj | ⟨q, hj, hq1, hq2, hz0, hz1, hz2⟩
  · have hjb : (j == 0) = true := by rw [beq_iff_eq]; exact hj
    clear hr2 hj
    go_wp2_with fail
    go_ret
    exact ⟨rfl, B11⟩
  · subst hj
    have hjb : ((q : Int) == 0) = false := by rw [beq_eq_false_iff_ne]; omega
    have hqr : q ≤ rv.size := by rw [Array.length_toList] at hq2; exact hq2
    have HVZ : Hid (varA z = (rv.extract 0 q).toList) := by
      show varA z = _; unfold varA; rw [inB_mk hz0 hz1, ext_take]; exact hz2
    clear hr2 hq2 hz2
    go_wp2_with fail
    refine (iVar_any z _).mono ?_
    rintro e w13 ⟨rfl, b13⟩
    have l13 := l11.below b13
    have B13 : Below w.heap.size w w13 := B11.trans (b13.mono B11.size)
    clear l11 b13 B11
    go_wp2_with fail
    refine (hall.out _ l13).mono ?_
    rintro e w14 ⟨rfl, b14⟩
    have B14 : Below w.heap.size w w14 := B13.trans (b14.mono B13.size)
    have hfin : (varA z == (rv.extract 0 q).toList) = true := by rw [beq_iff_eq]; exact HVZ.out
    go_wp2_with fail
    go_ret
    exact ⟨rfl, B14⟩

set_option maxRecDepth 100000 in
set_option maxHeartbeats 1000000 in
theorem numbers_2 (S : Src) (ok : S.ok) (w : World) (hl : Lies S w) (hc0 : -1000000000 < nX S (s0 S) ∧ nX S (s0 S) < 0) :
    Calls Try.prog 3 #[.slice S.a S.len S.cap] w fun e w' => e = .returned (.bool true) ∧ Below w.heap.size w w' := by
  have hlen : S.len ≤ 1048576 := ok.1
  obtain ⟨rv, hrv, hall0⟩ := drawReadVar_any S ok
  have hall : Hid (∀ (w : World), Lies S w → Calls Try.prog 15 #[.slice S.a S.len S.cap] w fun e w' => e = .returned (.string rv) ∧ Below w.heap.size w w') := hall0
  clear hall0
  obtain ⟨n, HN⟩ : ∃ n, Hid (n = nX S (s0 S)) := ⟨_, rfl⟩
  have hc : -1000000000 < n ∧ n < 0 := by rw [HN.out]; exact hc0
  clear hc0
  have hn : -9223372036854775808 ≤ n ∧ n ≤ 9223372036854775807 := by rw [HN.out]; exact nX_bd S _
  obtain ⟨t, HT⟩ : ∃ t, Hid (t = tL S 40 (s0 S)) := ⟨_, rfl⟩
  have htl : t.length ≤ 40 := by have := tL_length S 40 (s0 S) (by decide); rw [← HT.out] at this; omega
  go_enter Try.func3, Try.ntmps3
  go_wp2_with (first | (go_at_call 4; go_in))
  refine (drawVar_any S ok _ hl).mono ?_
  rintro e w1 ⟨rfl, b1⟩
  have l1 := hl.below b1
  rw [← HN.out]
  go_wp2_with fail
  refine (drawHex_any S ok _ l1).mono ?_
  rintro e w2 ⟨rfl, b2⟩
  have l2 := l1.below b2
  have B2 : Below w.heap.size w w2 := b1.trans (b2.mono b1.size)
  rw [← HT.out]
  clear hl b1 l1 b2
  obtain ⟨tv, HTV⟩ : ∃ tv : ByteArray, Hid (tv = ⟨t.toArray⟩) := ⟨_, rfl⟩
  have htv : tv.size ≤ 40 := by rw [HTV.out]; simpa [ByteArray.size] using htl
  rw [← HTV.out]
  go_wp2_with fail
  refine (iVar_any n _).mono ?_
  rintro e w3 ⟨rfl, b3⟩
  have l3 := l2.below b3
  have B3 : Below w.heap.size w w3 := B2.trans (b3.mono B2.size)
  clear l2 b3 B2
  obtain ⟨sv, HSV⟩ : ∃ sv : ByteArray, Hid (sv = ⟨(varA n).toArray⟩) := ⟨_, rfl⟩
  have hsv : sv.size ≤ 7 := by rw [HSV.out]; simpa [ByteArray.size] using varA_length n
  rw [← HSV.out]
  go_wp2_with fail
  refine (iReadVar_any (sv ++ tv) _ (by rw [app_size']; unfold maxLen; omega)).mono ?_
  rintro e w4 ⟨x, k, rfl, hr, rfl⟩
  have HR : Hid (RdVar (varA n ++ t) x k) := by
    have e : (sv ++ tv).data.toList = varA n ++ t := by rw [HSV.out, HTV.out]; simp
    rw [e] at hr; exact hr
  clear hr
  have hin : inB n 0 562949953421311 = false := by
    cases h : inB n 0 562949953421311
    · rfl
    · have := inB_le h; omega
  have hse : sv.toList.isEmpty = true := by
    rw [ByteArray.toList_eq, HSV.out]; unfold varA; rw [hin]; rfl
  clear hin HR
  go_wp2_with fail
  refine (iFixed_no n 7 _ (Or.inr (by omega))).mono ?_
  rintro e w5 ⟨rfl, rfl⟩
  have l5 := l3
  have B5 := B3
  clear l3 B3
  go_wp2_with fail
  refine (iReadFixed_some _ _ (by rw [app_size']; have : (⟨#[]⟩ : ByteArray).size = 0 := rfl; unfold maxLen; omega)).mono ?_
  rintro e w6 ⟨y, is, rfl, rfl⟩
  have l6 := l5
  have B6 := B5
  clear l5 B5
  go_wp2_with fail
  refine (iDec_any n _ (by omega) (by omega)).mono ?_
  rintro e w7 ⟨rfl, b7⟩
  have l7 := l6.below b7
  have B7 : Below w.heap.size w w7 := B6.trans (b7.mono B6.size)
  clear l6 b7 B6
  obtain ⟨dv, HDV⟩ : ∃ dv : ByteArray, Hid (dv = ⟨(decL n).toArray⟩) := ⟨_, rfl⟩
  have hdv : dv.size ≤ maxLen := by rw [HDV.out]; have := decL_len n; show (decL n).toArray.size ≤ maxLen; rw [List.size_toArray]; unfold maxLen; omega
  rw [← HDV.out]
  go_wp2_with fail
  refine (iReadDec_any dv _ hdv).mono ?_
  rintro e w8 ⟨d, fine, rfl, hd, rfl⟩
  have hdb := dec_back n d fine (by omega) (by omega) (by have e : dv.data.toList = decL n := by rw [HDV.out]
                                                          rw [e] at hd; exact hd)
  clear hd
  have hfine : fine = true := by rw [hdb.1, decide_eq_true (by omega), decide_eq_true (by omega)]; rfl
  have hdn : n = d := (hdb.2 hfine).symm
  subst hfine
  subst hdn
  clear hdb
  go_wp2_with fail
  refine (iHex_any tv _ (by omega)).mono ?_
  rintro e w9 ⟨rfl, b9⟩
  have l9 := l7.below b9
  have B9 : Below w.heap.size w w9 := B7.trans (b9.mono B7.size)
  clear l7 b9 B7
  obtain ⟨xv, HXV⟩ : ∃ xv : ByteArray, Hid (xv = ⟨(hexL tv.data.toList).toArray⟩) := ⟨_, rfl⟩
  have hxv : xv.size ≤ 1048576 := by
    rw [HXV.out]; show (hexL tv.data.toList).toArray.size ≤ 1048576; rw [List.size_toArray, hexL_length, Array.length_toList]; have : tv.data.size = tv.size := rfl; omega
  rw [← HXV.out]
  go_wp2_with fail
  refine (iUnhex_any xv _ hxv).mono ?_
  rintro e w10 ⟨rfl, b10⟩
  have l10 := l9.below b10
  have B10 : Below w.heap.size w w10 := B9.trans (b10.mono B9.size)
  clear l9 b10 B9
  have hun := unhex_hex tv.data.toList
  have hxe : xv.data.toList = hexL tv.data.toList := by rw [HXV.out]
  rw [hxe, (uh_some hun).1, (uh_some hun).2]
  clear hun hxe
  have htve : (⟨tv.data.toList.toArray⟩ : ByteArray) = tv := by obtain ⟨⟨x⟩⟩ := tv; rfl
  rw [htve]
  clear htve
  go_wp2_with fail
  refine (hall.out _ l10).mono ?_
  rintro e w11 ⟨rfl, b11⟩
  have l11 := l10.below b11
  have B11 : Below w.heap.size w w11 := B10.trans (b11.mono B10.size)
  clear l10 b11 B10
  go_wp2_with fail
  refine (iReadVar_any rv _ (by unfold maxLen; omega)).mono ?_
  rintro e w12 ⟨z, j, rfl, hr2, rfl⟩
  rcases rd_forth _ _ _ hr2 with hj | ⟨q, hj, hq1, hq2, hz0, hz1, hz2⟩
  · have hjb : (j == 0) = true := by rw [beq_iff_eq]; exact hj
    clear hr2 hj
    go_wp2_with fail
    go_ret
    exact ⟨rfl, B11⟩
  · subst hj
    have hjb : ((q : Int) == 0) = false := by rw [beq_eq_false_iff_ne]; omega
    have hqr : q ≤ rv.size := by rw [Array.length_toList] at hq2; exact hq2
    have HVZ : Hid (varA z = (rv.extract 0 q).toList) := by
      show varA z = _; unfold varA; rw [inB_mk hz0 hz1, ext_take]; exact hz2
    clear hr2 hq2 hz2
    go_wp2_with fail
    refine (iVar_any z _).mono ?_
    rintro e w13 ⟨rfl, b13⟩
    have l13 := l11.below b13
    have B13 : Below w.heap.size w w13 := B11.trans (b13.mono B11.size)
    clear l11 b13 B11
    go_wp2_with fail
    refine (hall.out _ l13).mono ?_
    rintro e w14 ⟨rfl, b14⟩
    have B14 : Below w.heap.size w w14 := B13.trans (b14.mono B13.size)
    have hfin : (varA z == (rv.extract 0 q).toList) = true := by rw [beq_iff_eq]; exact HVZ.out
    go_wp2_with fail
    go_ret
    exact ⟨rfl, B14⟩

set_option maxRecDepth 100000 in
set_option maxHeartbeats 1000000 in
theorem numbers_3 (S : Src) (ok : S.ok) (w : World) (hl : Lies S w) (hc0 : 0 ≤ nX S (s0 S) ∧ nX S (s0 S) < 1000000000) :
    Calls Try.prog 3 #[.slice S.a S.len S.cap] w fun e w' => e = .returned (.bool true) ∧ Below w.heap.size w w' := by
  have hlen : S.len ≤ 1048576 := ok.1
  obtain ⟨rv, hrv, hall0⟩ := drawReadVar_any S ok
  have hall : Hid (∀ (w : World), Lies S w → Calls Try.prog 15 #[.slice S.a S.len S.cap] w fun e w' => e = .returned (.string rv) ∧ Below w.heap.size w w') := hall0
  clear hall0
  obtain ⟨n, HN⟩ : ∃ n, Hid (n = nX S (s0 S)) := ⟨_, rfl⟩
  have hc : 0 ≤ n ∧ n < 1000000000 := by rw [HN.out]; exact hc0
  clear hc0
  have hn : -9223372036854775808 ≤ n ∧ n ≤ 9223372036854775807 := by rw [HN.out]; exact nX_bd S _
  obtain ⟨t, HT⟩ : ∃ t, Hid (t = tL S 40 (s0 S)) := ⟨_, rfl⟩
  have htl : t.length ≤ 40 := by have := tL_length S 40 (s0 S) (by decide); rw [← HT.out] at this; omega
  go_enter Try.func3, Try.ntmps3
  go_wp2_with (first | (go_at_call 4; go_in))
  refine (drawVar_any S ok _ hl).mono ?_
  rintro e w1 ⟨rfl, b1⟩
  have l1 := hl.below b1
  rw [← HN.out]
  go_wp2_with fail
  refine (drawHex_any S ok _ l1).mono ?_
  rintro e w2 ⟨rfl, b2⟩
  have l2 := l1.below b2
  have B2 : Below w.heap.size w w2 := b1.trans (b2.mono b1.size)
  rw [← HT.out]
  clear hl b1 l1 b2
  obtain ⟨tv, HTV⟩ : ∃ tv : ByteArray, Hid (tv = ⟨t.toArray⟩) := ⟨_, rfl⟩
  have htv : tv.size ≤ 40 := by rw [HTV.out]; simpa [ByteArray.size] using htl
  rw [← HTV.out]
  go_wp2_with fail
  refine (iVar_any n _).mono ?_
  rintro e w3 ⟨rfl, b3⟩
  have l3 := l2.below b3
  have B3 : Below w.heap.size w w3 := B2.trans (b3.mono B2.size)
  clear l2 b3 B2
  obtain ⟨sv, HSV⟩ : ∃ sv : ByteArray, Hid (sv = ⟨(varA n).toArray⟩) := ⟨_, rfl⟩
  have hsv : sv.size ≤ 7 := by rw [HSV.out]; simpa [ByteArray.size] using varA_length n
  rw [← HSV.out]
  go_wp2_with fail
  refine (iReadVar_any (sv ++ tv) _ (by rw [app_size']; unfold maxLen; omega)).mono ?_
  rintro e w4 ⟨x, k, rfl, hr, rfl⟩
  have HR : Hid (RdVar (varA n ++ t) x k) := by
    have e : (sv ++ tv).data.toList = varA n ++ t := by rw [HSV.out, HTV.out]; simp
    rw [e] at hr; exact hr
  clear hr
  have hin : inB n 0 562949953421311 = true := inB_mk (by omega) (by omega)
  have hva : varA n = varL 6 n := by unfold varA; rw [hin]; rfl
  have hu := RdVar_one _ _ _ _ _ HR.out (by rw [hva]; exact rd_back n t (by omega) (by omega))
  have hse : sv.toList.isEmpty = false := by
    rw [ByteArray.toList_eq, HSV.out]
    cases h : (varA n) with
    | nil => rw [hva] at h; exact absurd h (varL_ne 6 n)
    | cons a l => simp
  have hks : k = (sv.size : Int) := by
    rw [hu.2, HSV.out, hva]; simp [ByteArray.size]
  have hkx : n = x := hu.1.symm
  subst hkx
  rw [hks]
  clear hks hu hva hin HR
  go_wp2_with fail
  refine (iFixed_yes n 7 _ rfl (by omega) (by omega)).mono ?_
  rintro e w5 ⟨rfl, b5⟩
  have l5 := l3.below b5
  have B5 : Below w.heap.size w w5 := B3.trans (b5.mono B3.size)
  clear l3 b5 B3
  have hf := fix_some n (by omega) (by omega)
  rw [hf.1]
  obtain ⟨fv, HFV⟩ : ∃ fv : ByteArray, Hid (fv = ⟨(beB 7 n).toArray⟩) := ⟨_, rfl⟩
  have hfl : fv.size = 7 := by rw [HFV.out]; show (beB 7 n).toArray.size = 7; rw [List.size_toArray, beB_length]
  have hfl1 : fv.size ≤ 7 := by omega
  have hfl2 : 7 ≤ fv.size := by omega
  have hfe : fv.toList.isEmpty = false := by
    rw [ByteArray.toList_eq, HFV.out]; simp [beB]
  have hfb : ((fv.size : Int) != 7) = false := by rw [bne_eq_false_iff_eq]; omega
  have HBE : Hid (be ((fv ++ tv).data.toList.take 7) = n) := by
    have e : (fv ++ tv).data.toList = beB 7 n ++ t := by rw [HFV.out, HTV.out]; simp
    rw [e, List.take_append_of_le_length (by rw [beB_length]; exact Nat.le_refl _), List.take_of_length_le (by rw [beB_length]; exact Nat.le_refl _)]
    exact hf.2
  rw [← HFV.out]
  clear hf hfl
  go_wp2_with fail
  refine (iReadFixed_yes (fv ++ tv) 7 _ (by rw [app_size']; unfold maxLen; omega) rfl (by rw [app_size']; omega)).mono ?_
  rintro e w6 ⟨rfl, rfl⟩
  rw [HBE.out]
  have l6 := l5
  have B6 := B5
  clear l5 B5
  go_wp2_with fail
  refine (iDec_any n _ (by omega) (by omega)).mono ?_
  rintro e w7 ⟨rfl, b7⟩
  have l7 := l6.below b7
  have B7 : Below w.heap.size w w7 := B6.trans (b7.mono B6.size)
  clear l6 b7 B6
  obtain ⟨dv, HDV⟩ : ∃ dv : ByteArray, Hid (dv = ⟨(decL n).toArray⟩) := ⟨_, rfl⟩
  have hdv : dv.size ≤ maxLen := by rw [HDV.out]; have := decL_len n; show (decL n).toArray.size ≤ maxLen; rw [List.size_toArray]; unfold maxLen; omega
  rw [← HDV.out]
  go_wp2_with fail
  refine (iReadDec_any dv _ hdv).mono ?_
  rintro e w8 ⟨d, fine, rfl, hd, rfl⟩
  have hdb := dec_back n d fine (by omega) (by omega) (by have e : dv.data.toList = decL n := by rw [HDV.out]
                                                          rw [e] at hd; exact hd)
  clear hd
  have hfine : fine = true := by rw [hdb.1, decide_eq_true (by omega), decide_eq_true (by omega)]; rfl
  have hdn : n = d := (hdb.2 hfine).symm
  subst hfine
  subst hdn
  clear hdb
  go_wp2_with fail
  refine (iHex_any tv _ (by omega)).mono ?_
  rintro e w9 ⟨rfl, b9⟩
  have l9 := l7.below b9
  have B9 : Below w.heap.size w w9 := B7.trans (b9.mono B7.size)
  clear l7 b9 B7
  obtain ⟨xv, HXV⟩ : ∃ xv : ByteArray, Hid (xv = ⟨(hexL tv.data.toList).toArray⟩) := ⟨_, rfl⟩
  have hxv : xv.size ≤ 1048576 := by
    rw [HXV.out]; show (hexL tv.data.toList).toArray.size ≤ 1048576; rw [List.size_toArray, hexL_length, Array.length_toList]; have : tv.data.size = tv.size := rfl; omega
  rw [← HXV.out]
  go_wp2_with fail
  refine (iUnhex_any xv _ hxv).mono ?_
  rintro e w10 ⟨rfl, b10⟩
  have l10 := l9.below b10
  have B10 : Below w.heap.size w w10 := B9.trans (b10.mono B9.size)
  clear l9 b10 B9
  have hun := unhex_hex tv.data.toList
  have hxe : xv.data.toList = hexL tv.data.toList := by rw [HXV.out]
  rw [hxe, (uh_some hun).1, (uh_some hun).2]
  clear hun hxe
  have htve : (⟨tv.data.toList.toArray⟩ : ByteArray) = tv := by obtain ⟨⟨x⟩⟩ := tv; rfl
  rw [htve]
  clear htve
  go_wp2_with fail
  refine (hall.out _ l10).mono ?_
  rintro e w11 ⟨rfl, b11⟩
  have l11 := l10.below b11
  have B11 : Below w.heap.size w w11 := B10.trans (b11.mono B10.size)
  clear l10 b11 B10
  go_wp2_with fail
  refine (iReadVar_any rv _ (by unfold maxLen; omega)).mono ?_
  rintro e w12 ⟨z, j, rfl, hr2, rfl⟩
  rcases rd_forth _ _ _ hr2 with hj | ⟨q, hj, hq1, hq2, hz0, hz1, hz2⟩
  · have hjb : (j == 0) = true := by rw [beq_iff_eq]; exact hj
    clear hr2 hj
    go_wp2_with fail
    go_ret
    exact ⟨rfl, B11⟩
  · subst hj
    have hjb : ((q : Int) == 0) = false := by rw [beq_eq_false_iff_ne]; omega
    have hqr : q ≤ rv.size := by rw [Array.length_toList] at hq2; exact hq2
    have HVZ : Hid (varA z = (rv.extract 0 q).toList) := by
      show varA z = _; unfold varA; rw [inB_mk hz0 hz1, ext_take]; exact hz2
    clear hr2 hq2 hz2
    go_wp2_with fail
    refine (iVar_any z _).mono ?_
    rintro e w13 ⟨rfl, b13⟩
    have l13 := l11.below b13
    have B13 : Below w.heap.size w w13 := B11.trans (b13.mono B11.size)
    clear l11 b13 B11
    go_wp2_with fail
    refine (hall.out _ l13).mono ?_
    rintro e w14 ⟨rfl, b14⟩
    have B14 : Below w.heap.size w w14 := B13.trans (b14.mono B13.size)
    have hfin : (varA z == (rv.extract 0 q).toList) = true := by rw [beq_iff_eq]; exact HVZ.out
    go_wp2_with fail
    go_ret
    exact ⟨rfl, B14⟩

set_option maxRecDepth 100000 in
set_option maxHeartbeats 1000000 in
theorem numbers_4 (S : Src) (ok : S.ok) (w : World) (hl : Lies S w) (hc0 : 1000000000 ≤ nX S (s0 S) ∧ nX S (s0 S) ≤ 562949953421311) :
    Calls Try.prog 3 #[.slice S.a S.len S.cap] w fun e w' => e = .returned (.bool true) ∧ Below w.heap.size w w' := by
  have hlen : S.len ≤ 1048576 := ok.1
  obtain ⟨rv, hrv, hall0⟩ := drawReadVar_any S ok
  have hall : Hid (∀ (w : World), Lies S w → Calls Try.prog 15 #[.slice S.a S.len S.cap] w fun e w' => e = .returned (.string rv) ∧ Below w.heap.size w w') := hall0
  clear hall0
  obtain ⟨n, HN⟩ : ∃ n, Hid (n = nX S (s0 S)) := ⟨_, rfl⟩
  have hc : 1000000000 ≤ n ∧ n ≤ 562949953421311 := by rw [HN.out]; exact hc0
  clear hc0
  have hn : -9223372036854775808 ≤ n ∧ n ≤ 9223372036854775807 := by rw [HN.out]; exact nX_bd S _
  obtain ⟨t, HT⟩ : ∃ t, Hid (t = tL S 40 (s0 S)) := ⟨_, rfl⟩
  have htl : t.length ≤ 40 := by have := tL_length S 40 (s0 S) (by decide); rw [← HT.out] at this; omega
  go_enter Try.func3, Try.ntmps3
  go_wp2_with (first | (go_at_call 4; go_in))
  refine (drawVar_any S ok _ hl).mono ?_
  rintro e w1 ⟨rfl, b1⟩
  have l1 := hl.below b1
  rw [← HN.out]
  go_wp2_with fail
  refine (drawHex_any S ok _ l1).mono ?_
  rintro e w2 ⟨rfl, b2⟩
  have l2 := l1.below b2
  have B2 : Below w.heap.size w w2 := b1.trans (b2.mono b1.size)
  rw [← HT.out]
  clear hl b1 l1 b2
  obtain ⟨tv, HTV⟩ : ∃ tv : ByteArray, Hid (tv = ⟨t.toArray⟩) := ⟨_, rfl⟩
  have htv : tv.size ≤ 40 := by rw [HTV.out]; simpa [ByteArray.size] using htl
  rw [← HTV.out]
  go_wp2_with fail
  refine (iVar_any n _).mono ?_
  rintro e w3 ⟨rfl, b3⟩
  have l3 := l2.below b3
  have B3 : Below w.heap.size w w3 := B2.trans (b3.mono B2.size)
  clear l2 b3 B2
  obtain ⟨sv, HSV⟩ : ∃ sv : ByteArray, Hid (sv = ⟨(varA n).toArray⟩) := ⟨_, rfl⟩
  have hsv : sv.size ≤ 7 := by rw [HSV.out]; simpa [ByteArray.size] using varA_length n
  rw [← HSV.out]
  go_wp2_with fail
  refine (iReadVar_any (sv ++ tv) _ (by rw [app_size']; unfold maxLen; omega)).mono ?_
  rintro e w4 ⟨x, k, rfl, hr, rfl⟩
  have HR : Hid (RdVar (varA n ++ t) x k) := by
    have e : (sv ++ tv).data.toList = varA n ++ t := by rw [HSV.out, HTV.out]; simp
    rw [e] at hr; exact hr
  clear hr
  have hin : inB n 0 562949953421311 = true := inB_mk (by omega) (by omega)
  have hva : varA n = varL 6 n := by unfold varA; rw [hin]; rfl
  have hu := RdVar_one _ _ _ _ _ HR.out (by rw [hva]; exact rd_back n t (by omega) (by omega))
  have hse : sv.toList.isEmpty = false := by
    rw [ByteArray.toList_eq, HSV.out]
    cases h : (varA n) with
    | nil => rw [hva] at h; exact absurd h (varL_ne 6 n)
    | cons a l => simp
  have hks : k = (sv.size : Int) := by
    rw [hu.2, HSV.out, hva]; simp [ByteArray.size]
  have hkx : n = x := hu.1.symm
  subst hkx
  rw [hks]
  clear hks hu hva hin HR
  go_wp2_with fail
  refine (iFixed_yes n 7 _ rfl (by omega) (by omega)).mono ?_
  rintro e w5 ⟨rfl, b5⟩
  have l5 := l3.below b5
  have B5 : Below w.heap.size w w5 := B3.trans (b5.mono B3.size)
  clear l3 b5 B3
  have hf := fix_some n (by omega) (by omega)
  rw [hf.1]
  obtain ⟨fv, HFV⟩ : ∃ fv : ByteArray, Hid (fv = ⟨(beB 7 n).toArray⟩) := ⟨_, rfl⟩
  have hfl : fv.size = 7 := by rw [HFV.out]; show (beB 7 n).toArray.size = 7; rw [List.size_toArray, beB_length]
  have hfl1 : fv.size ≤ 7 := by omega
  have hfl2 : 7 ≤ fv.size := by omega
  have hfe : fv.toList.isEmpty = false := by
    rw [ByteArray.toList_eq, HFV.out]; simp [beB]
  have hfb : ((fv.size : Int) != 7) = false := by rw [bne_eq_false_iff_eq]; omega
  have HBE : Hid (be ((fv ++ tv).data.toList.take 7) = n) := by
    have e : (fv ++ tv).data.toList = beB 7 n ++ t := by rw [HFV.out, HTV.out]; simp
    rw [e, List.take_append_of_le_length (by rw [beB_length]; exact Nat.le_refl _), List.take_of_length_le (by rw [beB_length]; exact Nat.le_refl _)]
    exact hf.2
  rw [← HFV.out]
  clear hf hfl
  go_wp2_with fail
  refine (iReadFixed_yes (fv ++ tv) 7 _ (by rw [app_size']; unfold maxLen; omega) rfl (by rw [app_size']; omega)).mono ?_
  rintro e w6 ⟨rfl, rfl⟩
  rw [HBE.out]
  have l6 := l5
  have B6 := B5
  clear l5 B5
  go_wp2_with fail
  refine (iDec_any n _ (by omega) (by omega)).mono ?_
  rintro e w7 ⟨rfl, b7⟩
  have l7 := l6.below b7
  have B7 : Below w.heap.size w w7 := B6.trans (b7.mono B6.size)
  clear l6 b7 B6
  obtain ⟨dv, HDV⟩ : ∃ dv : ByteArray, Hid (dv = ⟨(decL n).toArray⟩) := ⟨_, rfl⟩
  have hdv : dv.size ≤ maxLen := by rw [HDV.out]; have := decL_len n; show (decL n).toArray.size ≤ maxLen; rw [List.size_toArray]; unfold maxLen; omega
  rw [← HDV.out]
  go_wp2_with fail
  refine (iReadDec_any dv _ hdv).mono ?_
  rintro e w8 ⟨d, fine, rfl, hd, rfl⟩
  have hdb := dec_back n d fine (by omega) (by omega) (by have e : dv.data.toList = decL n := by rw [HDV.out]
                                                          rw [e] at hd; exact hd)
  clear hd
  have hfine : fine = false := by rw [hdb.1, decide_eq_true (show -1000000000 < n by omega), decide_eq_false (by omega)]; rfl
  subst hfine
  clear hdb
  go_wp2_with fail
  refine (iHex_any tv _ (by omega)).mono ?_
  rintro e w9 ⟨rfl, b9⟩
  have l9 := l7.below b9
  have B9 : Below w.heap.size w w9 := B7.trans (b9.mono B7.size)
  clear l7 b9 B7
  obtain ⟨xv, HXV⟩ : ∃ xv : ByteArray, Hid (xv = ⟨(hexL tv.data.toList).toArray⟩) := ⟨_, rfl⟩
  have hxv : xv.size ≤ 1048576 := by
    rw [HXV.out]; show (hexL tv.data.toList).toArray.size ≤ 1048576; rw [List.size_toArray, hexL_length, Array.length_toList]; have : tv.data.size = tv.size := rfl; omega
  rw [← HXV.out]
  go_wp2_with fail
  refine (iUnhex_any xv _ hxv).mono ?_
  rintro e w10 ⟨rfl, b10⟩
  have l10 := l9.below b10
  have B10 : Below w.heap.size w w10 := B9.trans (b10.mono B9.size)
  clear l9 b10 B9
  have hun := unhex_hex tv.data.toList
  have hxe : xv.data.toList = hexL tv.data.toList := by rw [HXV.out]
  rw [hxe, (uh_some hun).1, (uh_some hun).2]
  clear hun hxe
  have htve : (⟨tv.data.toList.toArray⟩ : ByteArray) = tv := by obtain ⟨⟨x⟩⟩ := tv; rfl
  rw [htve]
  clear htve
  go_wp2_with fail
  refine (hall.out _ l10).mono ?_
  rintro e w11 ⟨rfl, b11⟩
  have l11 := l10.below b11
  have B11 : Below w.heap.size w w11 := B10.trans (b11.mono B10.size)
  clear l10 b11 B10
  go_wp2_with fail
  refine (iReadVar_any rv _ (by unfold maxLen; omega)).mono ?_
  rintro e w12 ⟨z, j, rfl, hr2, rfl⟩
  rcases rd_forth _ _ _ hr2 with hj | ⟨q, hj, hq1, hq2, hz0, hz1, hz2⟩
  · have hjb : (j == 0) = true := by rw [beq_iff_eq]; exact hj
    clear hr2 hj
    go_wp2_with fail
    go_ret
    exact ⟨rfl, B11⟩
  · subst hj
    have hjb : ((q : Int) == 0) = false := by rw [beq_eq_false_iff_ne]; omega
    have hqr : q ≤ rv.size := by rw [Array.length_toList] at hq2; exact hq2
    have HVZ : Hid (varA z = (rv.extract 0 q).toList) := by
      show varA z = _; unfold varA; rw [inB_mk hz0 hz1, ext_take]; exact hz2
    clear hr2 hq2 hz2
    go_wp2_with fail
    refine (iVar_any z _).mono ?_
    rintro e w13 ⟨rfl, b13⟩
    have l13 := l11.below b13
    have B13 : Below w.heap.size w w13 := B11.trans (b13.mono B11.size)
    clear l11 b13 B11
    go_wp2_with fail
    refine (hall.out _ l13).mono ?_
    rintro e w14 ⟨rfl, b14⟩
    have B14 : Below w.heap.size w w14 := B13.trans (b14.mono B13.size)
    have hfin : (varA z == (rv.extract 0 q).toList) = true := by rw [beq_iff_eq]; exact HVZ.out
    go_wp2_with fail
    go_ret
    exact ⟨rfl, B14⟩

set_option maxRecDepth 100000 in
set_option maxHeartbeats 1000000 in
theorem numbers_5 (S : Src) (ok : S.ok) (w : World) (hl : Lies S w) (hc0 : 562949953421311 < nX S (s0 S) ∧ nX S (s0 S) < 72057594037927936) :
    Calls Try.prog 3 #[.slice S.a S.len S.cap] w fun e w' => e = .returned (.bool true) ∧ Below w.heap.size w w' := by
  have hlen : S.len ≤ 1048576 := ok.1
  obtain ⟨rv, hrv, hall0⟩ := drawReadVar_any S ok
  have hall : Hid (∀ (w : World), Lies S w → Calls Try.prog 15 #[.slice S.a S.len S.cap] w fun e w' => e = .returned (.string rv) ∧ Below w.heap.size w w') := hall0
  clear hall0
  obtain ⟨n, HN⟩ : ∃ n, Hid (n = nX S (s0 S)) := ⟨_, rfl⟩
  have hc : 562949953421311 < n ∧ n < 72057594037927936 := by rw [HN.out]; exact hc0
  clear hc0
  have hn : -9223372036854775808 ≤ n ∧ n ≤ 9223372036854775807 := by rw [HN.out]; exact nX_bd S _
  obtain ⟨t, HT⟩ : ∃ t, Hid (t = tL S 40 (s0 S)) := ⟨_, rfl⟩
  have htl : t.length ≤ 40 := by have := tL_length S 40 (s0 S) (by decide); rw [← HT.out] at this; omega
  go_enter Try.func3, Try.ntmps3
  go_wp2_with (first | (go_at_call 4; go_in))
  refine (drawVar_any S ok _ hl).mono ?_
  rintro e w1 ⟨rfl, b1⟩
  have l1 := hl.below b1
  rw [← HN.out]
  go_wp2_with fail
  refine (drawHex_any S ok _ l1).mono ?_
  rintro e w2 ⟨rfl, b2⟩
  have l2 := l1.below b2
  have B2 : Below w.heap.size w w2 := b1.trans (b2.mono b1.size)
  rw [← HT.out]
  clear hl b1 l1 b2
  obtain ⟨tv, HTV⟩ : ∃ tv : ByteArray, Hid (tv = ⟨t.toArray⟩) := ⟨_, rfl⟩
  have htv : tv.size ≤ 40 := by rw [HTV.out]; simpa [ByteArray.size] using htl
  rw [← HTV.out]
  go_wp2_with fail
  refine (iVar_any n _).mono ?_
  rintro e w3 ⟨rfl, b3⟩
  have l3 := l2.below b3
  have B3 : Below w.heap.size w w3 := B2.trans (b3.mono B2.size)
  clear l2 b3 B2
  obtain ⟨sv, HSV⟩ : ∃ sv : ByteArray, Hid (sv = ⟨(varA n).toArray⟩) := ⟨_, rfl⟩
  have hsv : sv.size ≤ 7 := by rw [HSV.out]; simpa [ByteArray.size] using varA_length n
  rw [← HSV.out]
  go_wp2_with fail
  refine (iReadVar_any (sv ++ tv) _ (by rw [app_size']; unfold maxLen; omega)).mono ?_
  rintro e w4 ⟨x, k, rfl, hr, rfl⟩
  have HR : Hid (RdVar (varA n ++ t) x k) := by
    have e : (sv ++ tv).data.toList = varA n ++ t := by rw [HSV.out, HTV.out]; simp
    rw [e] at hr; exact hr
  clear hr
  have hin : inB n 0 562949953421311 = false := by
    cases h : inB n 0 562949953421311
    · rfl
    · have := inB_le h; omega
  have hse : sv.toList.isEmpty = true := by
    rw [ByteArray.toList_eq, HSV.out]; unfold varA; rw [hin]; rfl
  clear hin HR
  go_wp2_with fail
  refine (iFixed_yes n 7 _ rfl (by omega) (by omega)).mono ?_
  rintro e w5 ⟨rfl, b5⟩
  have l5 := l3.below b5
  have B5 : Below w.heap.size w w5 := B3.trans (b5.mono B3.size)
  clear l3 b5 B3
  have hf := fix_some n (by omega) (by omega)
  rw [hf.1]
  obtain ⟨fv, HFV⟩ : ∃ fv : ByteArray, Hid (fv = ⟨(beB 7 n).toArray⟩) := ⟨_, rfl⟩
  have hfl : fv.size = 7 := by rw [HFV.out]; show (beB 7 n).toArray.size = 7; rw [List.size_toArray, beB_length]
  have hfl1 : fv.size ≤ 7 := by omega
  have hfl2 : 7 ≤ fv.size := by omega
  have hfe : fv.toList.isEmpty = false := by
    rw [ByteArray.toList_eq, HFV.out]; simp [beB]
  have hfb : ((fv.size : Int) != 7) = false := by rw [bne_eq_false_iff_eq]; omega
  have HBE : Hid (be ((fv ++ tv).data.toList.take 7) = n) := by
    have e : (fv ++ tv).data.toList = beB 7 n ++ t := by rw [HFV.out, HTV.out]; simp
    rw [e, List.take_append_of_le_length (by rw [beB_length]; exact Nat.le_refl _), List.take_of_length_le (by rw [beB_length]; exact Nat.le_refl _)]
    exact hf.2
  rw [← HFV.out]
  clear hf hfl
  go_wp2_with fail
  refine (iReadFixed_yes (fv ++ tv) 7 _ (by rw [app_size']; unfold maxLen; omega) rfl (by rw [app_size']; omega)).mono ?_
  rintro e w6 ⟨rfl, rfl⟩
  rw [HBE.out]
  have l6 := l5
  have B6 := B5
  clear l5 B5
  go_wp2_with fail
  refine (iDec_any n _ (by omega) (by omega)).mono ?_
  rintro e w7 ⟨rfl, b7⟩
  have l7 := l6.below b7
  have B7 : Below w.heap.size w w7 := B6.trans (b7.mono B6.size)
  clear l6 b7 B6
  obtain ⟨dv, HDV⟩ : ∃ dv : ByteArray, Hid (dv = ⟨(decL n).toArray⟩) := ⟨_, rfl⟩
  have hdv : dv.size ≤ maxLen := by rw [HDV.out]; have := decL_len n; show (decL n).toArray.size ≤ maxLen; rw [List.size_toArray]; unfold maxLen; omega
  rw [← HDV.out]
  go_wp2_with fail
  refine (iReadDec_any dv _ hdv).mono ?_
  rintro e w8 ⟨d, fine, rfl, hd, rfl⟩
  have hdb := dec_back n d fine (by omega) (by omega) (by have e : dv.data.toList = decL n := by rw [HDV.out]
                                                          rw [e] at hd; exact hd)
  clear hd
  have hfine : fine = false := by rw [hdb.1, decide_eq_true (show -1000000000 < n by omega), decide_eq_false (by omega)]; rfl
  subst hfine
  clear hdb
  go_wp2_with fail
  refine (iHex_any tv _ (by omega)).mono ?_
  rintro e w9 ⟨rfl, b9⟩
  have l9 := l7.below b9
  have B9 : Below w.heap.size w w9 := B7.trans (b9.mono B7.size)
  clear l7 b9 B7
  obtain ⟨xv, HXV⟩ : ∃ xv : ByteArray, Hid (xv = ⟨(hexL tv.data.toList).toArray⟩) := ⟨_, rfl⟩
  have hxv : xv.size ≤ 1048576 := by
    rw [HXV.out]; show (hexL tv.data.toList).toArray.size ≤ 1048576; rw [List.size_toArray, hexL_length, Array.length_toList]; have : tv.data.size = tv.size := rfl; omega
  rw [← HXV.out]
  go_wp2_with fail
  refine (iUnhex_any xv _ hxv).mono ?_
  rintro e w10 ⟨rfl, b10⟩
  have l10 := l9.below b10
  have B10 : Below w.heap.size w w10 := B9.trans (b10.mono B9.size)
  clear l9 b10 B9
  have hun := unhex_hex tv.data.toList
  have hxe : xv.data.toList = hexL tv.data.toList := by rw [HXV.out]
  rw [hxe, (uh_some hun).1, (uh_some hun).2]
  clear hun hxe
  have htve : (⟨tv.data.toList.toArray⟩ : ByteArray) = tv := by obtain ⟨⟨x⟩⟩ := tv; rfl
  rw [htve]
  clear htve
  go_wp2_with fail
  refine (hall.out _ l10).mono ?_
  rintro e w11 ⟨rfl, b11⟩
  have l11 := l10.below b11
  have B11 : Below w.heap.size w w11 := B10.trans (b11.mono B10.size)
  clear l10 b11 B10
  go_wp2_with fail
  refine (iReadVar_any rv _ (by unfold maxLen; omega)).mono ?_
  rintro e w12 ⟨z, j, rfl, hr2, rfl⟩
  rcases rd_forth _ _ _ hr2 with hj | ⟨q, hj, hq1, hq2, hz0, hz1, hz2⟩
  · have hjb : (j == 0) = true := by rw [beq_iff_eq]; exact hj
    clear hr2 hj
    go_wp2_with fail
    go_ret
    exact ⟨rfl, B11⟩
  · subst hj
    have hjb : ((q : Int) == 0) = false := by rw [beq_eq_false_iff_ne]; omega
    have hqr : q ≤ rv.size := by rw [Array.length_toList] at hq2; exact hq2
    have HVZ : Hid (varA z = (rv.extract 0 q).toList) := by
      show varA z = _; unfold varA; rw [inB_mk hz0 hz1, ext_take]; exact hz2
    clear hr2 hq2 hz2
    go_wp2_with fail
    refine (iVar_any z _).mono ?_
    rintro e w13 ⟨rfl, b13⟩
    have l13 := l11.below b13
    have B13 : Below w.heap.size w w13 := B11.trans (b13.mono B11.size)
    clear l11 b13 B11
    go_wp2_with fail
    refine (hall.out _ l13).mono ?_
    rintro e w14 ⟨rfl, b14⟩
    have B14 : Below w.heap.size w w14 := B13.trans (b14.mono B13.size)
    have hfin : (varA z == (rv.extract 0 q).toList) = true := by rw [beq_iff_eq]; exact HVZ.out
    go_wp2_with fail
    go_ret
    exact ⟨rfl, B14⟩

set_option maxRecDepth 100000 in
set_option maxHeartbeats 1000000 in
theorem numbers_6 (S : Src) (ok : S.ok) (w : World) (hl : Lies S w) (hc0 : 72057594037927936 ≤ nX S (s0 S)) :
    Calls Try.prog 3 #[.slice S.a S.len S.cap] w fun e w' => e = .returned (.bool true) ∧ Below w.heap.size w w' := by
  have hlen : S.len ≤ 1048576 := ok.1
  obtain ⟨rv, hrv, hall0⟩ := drawReadVar_any S ok
  have hall : Hid (∀ (w : World), Lies S w → Calls Try.prog 15 #[.slice S.a S.len S.cap] w fun e w' => e = .returned (.string rv) ∧ Below w.heap.size w w') := hall0
  clear hall0
  obtain ⟨n, HN⟩ : ∃ n, Hid (n = nX S (s0 S)) := ⟨_, rfl⟩
  have hc : 72057594037927936 ≤ n := by rw [HN.out]; exact hc0
  clear hc0
  have hn : -9223372036854775808 ≤ n ∧ n ≤ 9223372036854775807 := by rw [HN.out]; exact nX_bd S _
  obtain ⟨t, HT⟩ : ∃ t, Hid (t = tL S 40 (s0 S)) := ⟨_, rfl⟩
  have htl : t.length ≤ 40 := by have := tL_length S 40 (s0 S) (by decide); rw [← HT.out] at this; omega
  go_enter Try.func3, Try.ntmps3
  go_wp2_with (first | (go_at_call 4; go_in))
  refine (drawVar_any S ok _ hl).mono ?_
  rintro e w1 ⟨rfl, b1⟩
  have l1 := hl.below b1
  rw [← HN.out]
  go_wp2_with fail
  refine (drawHex_any S ok _ l1).mono ?_
  rintro e w2 ⟨rfl, b2⟩
  have l2 := l1.below b2
  have B2 : Below w.heap.size w w2 := b1.trans (b2.mono b1.size)
  rw [← HT.out]
  clear hl b1 l1 b2
  obtain ⟨tv, HTV⟩ : ∃ tv : ByteArray, Hid (tv = ⟨t.toArray⟩) := ⟨_, rfl⟩
  have htv : tv.size ≤ 40 := by rw [HTV.out]; simpa [ByteArray.size] using htl
  rw [← HTV.out]
  go_wp2_with fail
  refine (iVar_any n _).mono ?_
  rintro e w3 ⟨rfl, b3⟩
  have l3 := l2.below b3
  have B3 : Below w.heap.size w w3 := B2.trans (b3.mono B2.size)
  clear l2 b3 B2
  obtain ⟨sv, HSV⟩ : ∃ sv : ByteArray, Hid (sv = ⟨(varA n).toArray⟩) := ⟨_, rfl⟩
  have hsv : sv.size ≤ 7 := by rw [HSV.out]; simpa [ByteArray.size] using varA_length n
  rw [← HSV.out]
  go_wp2_with fail
  refine (iReadVar_any (sv ++ tv) _ (by rw [app_size']; unfold maxLen; omega)).mono ?_
  rintro e w4 ⟨x, k, rfl, hr, rfl⟩
  have HR : Hid (RdVar (varA n ++ t) x k) := by
    have e : (sv ++ tv).data.toList = varA n ++ t := by rw [HSV.out, HTV.out]; simp
    rw [e] at hr; exact hr
  clear hr
  have hin : inB n 0 562949953421311 = false := by
    cases h : inB n 0 562949953421311
    · rfl
    · have := inB_le h; omega
  have hse : sv.toList.isEmpty = true := by
    rw [ByteArray.toList_eq, HSV.out]; unfold varA; rw [hin]; rfl
  clear hin HR
  go_wp2_with fail
  refine (iFixed_yes n 7 _ rfl (by omega) (by omega)).mono ?_
  rintro e w5 ⟨rfl, b5⟩
  have l5 := l3.below b5
  have B5 : Below w.heap.size w w5 := B3.trans (b5.mono B3.size)
  clear l3 b5 B3
  rw [fix_none n (by omega)]
  go_wp2_with fail
  refine (iReadFixed_some _ _ (by rw [app_size']; have : (⟨#[]⟩ : ByteArray).size = 0 := rfl; unfold maxLen; omega)).mono ?_
  rintro e w6 ⟨y, is, rfl, rfl⟩
  have l6 := l5
  have B6 := B5
  clear l5 B5
  go_wp2_with fail
  refine (iDec_any n _ (by omega) (by omega)).mono ?_
  rintro e w7 ⟨rfl, b7⟩
  have l7 := l6.below b7
  have B7 : Below w.heap.size w w7 := B6.trans (b7.mono B6.size)
  clear l6 b7 B6
  obtain ⟨dv, HDV⟩ : ∃ dv : ByteArray, Hid (dv = ⟨(decL n).toArray⟩) := ⟨_, rfl⟩
  have hdv : dv.size ≤ maxLen := by rw [HDV.out]; have := decL_len n; show (decL n).toArray.size ≤ maxLen; rw [List.size_toArray]; unfold maxLen; omega
  rw [← HDV.out]
  go_wp2_with fail
  refine (iReadDec_any dv _ hdv).mono ?_
  rintro e w8 ⟨d, fine, rfl, hd, rfl⟩
  have hdb := dec_back n d fine (by omega) (by omega) (by have e : dv.data.toList = decL n := by rw [HDV.out]
                                                          rw [e] at hd; exact hd)
  clear hd
  have hfine : fine = false := by rw [hdb.1, decide_eq_true (show -1000000000 < n by omega), decide_eq_false (by omega)]; rfl
  subst hfine
  clear hdb
  go_wp2_with fail
  refine (iHex_any tv _ (by omega)).mono ?_
  rintro e w9 ⟨rfl, b9⟩
  have l9 := l7.below b9
  have B9 : Below w.heap.size w w9 := B7.trans (b9.mono B7.size)
  clear l7 b9 B7
  obtain ⟨xv, HXV⟩ : ∃ xv : ByteArray, Hid (xv = ⟨(hexL tv.data.toList).toArray⟩) := ⟨_, rfl⟩
  have hxv : xv.size ≤ 1048576 := by
    rw [HXV.out]; show (hexL tv.data.toList).toArray.size ≤ 1048576; rw [List.size_toArray, hexL_length, Array.length_toList]; have : tv.data.size = tv.size := rfl; omega
  rw [← HXV.out]
  go_wp2_with fail
  refine (iUnhex_any xv _ hxv).mono ?_
  rintro e w10 ⟨rfl, b10⟩
  have l10 := l9.below b10
  have B10 : Below w.heap.size w w10 := B9.trans (b10.mono B9.size)
  clear l9 b10 B9
  have hun := unhex_hex tv.data.toList
  have hxe : xv.data.toList = hexL tv.data.toList := by rw [HXV.out]
  rw [hxe, (uh_some hun).1, (uh_some hun).2]
  clear hun hxe
  have htve : (⟨tv.data.toList.toArray⟩ : ByteArray) = tv := by obtain ⟨⟨x⟩⟩ := tv; rfl
  rw [htve]
  clear htve
  go_wp2_with fail
  refine (hall.out _ l10).mono ?_
  rintro e w11 ⟨rfl, b11⟩
  have l11 := l10.below b11
  have B11 : Below w.heap.size w w11 := B10.trans (b11.mono B10.size)
  clear l10 b11 B10
  go_wp2_with fail
  refine (iReadVar_any rv _ (by unfold maxLen; omega)).mono ?_
  rintro e w12 ⟨z, j, rfl, hr2, rfl⟩
  rcases rd_forth _ _ _ hr2 with hj | ⟨q, hj, hq1, hq2, hz0, hz1, hz2⟩
  · have hjb : (j == 0) = true := by rw [beq_iff_eq]; exact hj
    clear hr2 hj
    go_wp2_with fail
    go_ret
    exact ⟨rfl, B11⟩
  · subst hj
    have hjb : ((q : Int) == 0) = false := by rw [beq_eq_false_iff_ne]; omega
    have hqr : q ≤ rv.size := by rw [Array.length_toList] at hq2; exact hq2
    have HVZ : Hid (varA z = (rv.extract 0 q).toList) := by
      show varA z = _; unfold varA; rw [inB_mk hz0 hz1, ext_take]; exact hz2
    clear hr2 hq2 hz2
    go_wp2_with fail
    refine (iVar_any z _).mono ?_
    rintro e w13 ⟨rfl, b13⟩
    have l13 := l11.below b13
    have B13 : Below w.heap.size w w13 := B11.trans (b13.mono B11.size)
    clear l11 b13 B11
    go_wp2_with fail
    refine (hall.out _ l13).mono ?_
    rintro e w14 ⟨rfl, b14⟩
    have B14 : Below w.heap.size w w14 := B13.trans (b14.mono B13.size)
    have hfin : (varA z == (rv.extract 0 q).toList) = true := by rw [beq_iff_eq]; exact HVZ.out
    go_wp2_with fail
    go_ret
    exact ⟨rfl, B14⟩

theorem numbers_walk (S : Src) (ok : S.ok) (w : World) (hl : Lies S w) :
    Calls Try.prog 3 #[.slice S.a S.len S.cap] w fun e w' => e = .returned (.bool true) ∧ Below w.heap.size w w' := by
  rcases (show (nX S (s0 S) ≤ -1000000000) ∨ (-1000000000 < nX S (s0 S) ∧ nX S (s0 S) < 0) ∨ (0 ≤ nX S (s0 S) ∧ nX S (s0 S) < 1000000000) ∨ (1000000000 ≤ nX S (s0 S) ∧ nX S (s0 S) ≤ 562949953421311) ∨ (562949953421311 < nX S (s0 S) ∧ nX S (s0 S) < 72057594037927936) ∨ (72057594037927936 ≤ nX S (s0 S)) by omega) with hc | hc | hc | hc | hc | hc
  · exact numbers_1 S ok w hl hc
  · exact numbers_2 S ok w hl hc
  · exact numbers_3 S ok w hl hc
  · exact numbers_4 S ok w hl hc
  · exact numbers_5 S ok w hl hc
  · exact numbers_6 S ok w hl hc

end Go.Proofs.Ytfpbdalkjhcbgaa
