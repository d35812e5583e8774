/- Devices, impl: copied, settled, Flush, Crash. -/
import Derived.Test.YtpmdhoiodbjojaaRows
import Derived.Test.YtpmdhoiodbjojaaIDq
import Derived.Test.YtpmdhoiodbjojaaSDt
namespace Go.Proofs.Ytpmdhoiodbjojaa
open Go.RowKit

set_option maxRecDepth 100000 in
set_option maxHeartbeats 2000000 in
theorem copied_any (v : Value) (d : Dv) (w : World) (hd : devB d = true) (hv : DevAt w v d) :
    Calls Try.prog 52 #[v] w fun e w' => ∃ a b, e = .returned (.agg #[a, b]) ∧ DevRow w' w.heap.size a b d ∧ Below w.heap.size w w' := by
  obtain ⟨⟨h18, h40⟩, hs1, hs2⟩ := (devB_iff d).1 hd
  obtain ⟨a, b, rfl, ha, hb⟩ := hv
  have ST := FlSt.start w a b
  have HT := fun w' (h : Below w.heap.size w w') => copyTexts_any a d.blocks w' (by omega) (fun t ht => by have := hs1 t ht; omega) (ha.below h)
  have HW := fun w' (h : Below w.heap.size w w') => copyWrites_any b d.pend w' (by omega) (fun t ht => by have := hs2 t ht; omega) (hb.below h)
  have HB : Hid (d.blocks.length = 18) := h18
  clear h18 hs1 hs2 h40
  obtain ⟨aa, ca, hfa, -, -⟩ := id ha
  obtain ⟨bb, cb, hfb, -, -⟩ := id hb
  generalize d.blocks.length = n1 at hfa
  generalize d.pend.length = n2 at hfb
  subst hfa
  subst hfb
  clear ha hb
  go_enter Try.func52, Try.ntmps52
  go_wp2
  generalize (w.alloc (.cells #[.slice aa n1 ca, .slice bb n2 cb] 27)).alloc (.cells #[.slice none 0 0, .slice none 0 0] 27) = W0 at ST ⊢
  have HST : Hid _ := ST
  obtain ⟨p0, p1, r0, r1, rf, -⟩ := ST.out
  have HT0 := HT W0.drew (ST.bel.drew)
  have hz := ST.sz
  clear ST
  go_region_held3 (fun w' => (w'.cell? ⟨w.heap.size, 0, none⟩ = some (.slice aa n1 ca) ∧ w'.cell? ⟨w.heap.size, 1, none⟩ = some (.slice bb n2 cb))) (go_keep)
    (first
      | (go_at_call 62; refine HT0.mono ?_; rintro e w1 ⟨u1, rfl, t1, b1⟩; have st1 := (HST.out.below (Below.refl _ _).drew).below b1; obtain ⟨p0, p1, r0, r1, rf, -⟩ := st1.out; obtain ⟨a1, c1, hu1, -, -⟩ := t1.at; generalize d.blocks.length = m1 at hu1; subst hu1; have HS1 : Hid _ := st1; clear st1)
      | (go_at_call 53; refine (HW _ HS1.out.bel).mono ?_; rintro e w2 ⟨u2, rfl, t2, b2⟩; have st2 := HS1.out.below b2; obtain ⟨p0, p1, r0, r1, rf, -⟩ := st2.out; obtain ⟨a2, c2, hu2, -, -⟩ := t2.at; generalize d.pend.length = m2 at hu2; subst hu2; have HS2 : Hid _ := st2; clear st2))
  have t1' := own_below t1 b2
  have hz1 := HS1.out.sz
  have hb1 := b1.size
  have R : DevRow w2 (w.heap.size + 1 + 1) (.slice a1 m1 c1) (.slice a2 m2 c2) d := devRow_of (own_mono t1' (by show w.heap.size + 1 + 1 ≤ W0.heap.size; omega)) (own_mono t2 (by omega))
  have HR : Hid _ := R
  clear R t1' t1 t2 b1 b2
  go_wp2
  exact bodyPost_ret (results_dev Try.results52 _ _ (w.heap.size + 1) _ rfl rfl (put2d _ _ HS2.out.hR)) rfl ⟨_, _, rfl, ((HR.out.low (by omega) _ _).low (by omega) _ _).mono (by omega), fl_below HS2.out.bel⟩

end Go.Proofs.Ytpmdhoiodbjojaa
