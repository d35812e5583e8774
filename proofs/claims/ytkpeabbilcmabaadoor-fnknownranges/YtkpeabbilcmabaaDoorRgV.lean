/- The ranges of known signs: spec.l12Over and KnownRanges. -/
import Derived.Test.YtkpeabbilcmabaaDoorRows
import Derived.Test.YtkpeabbilcmabaaDoorRgK
namespace Go.Proofs.YtkpeabbilcmabaaDoor
open Go.RowKit Go.Sort

structure OvI (l0 : List Rg) (f c : Int) (l : List Rg) : Prop where
  right : RgR l
  mem : ∀ x, RgIn l x ↔ RgIn l0 x ∨ (f ≤ x ∧ x < c ∧ knB x = true)
  beg : ∀ q ∈ l, q.a ≤ c
theorem OvI.start {l0 : List Rg} {f : Int} (h : RgR l0) (hb : ∀ q ∈ l0, q.a ≤ f) : OvI l0 f f l0 :=
  ⟨h, fun x => ⟨.inl, fun h => h.elim id fun h => by omega⟩, hb⟩
theorem OvI.no {l0 l : List Rg} {f c : Int} (h : OvI l0 f c l) (hk : knB c = false) : OvI l0 f (c + 1) l :=
  ⟨h.right, fun x => by
    rw [h.mem]
    constructor
    · rintro (e | ⟨e1, e2, e3⟩)
      · exact .inl e
      · exact .inr ⟨e1, by omega, e3⟩
    · rintro (e | ⟨e1, e2, e3⟩)
      · exact .inl e
      · refine .inr ⟨e1, ?_, e3⟩
        have : x ≠ c := fun e => by rw [e, hk] at e3; cases e3
        omega, fun q hq => by have := h.beg q hq; omega⟩
theorem OvI.yes {l0 l : List Rg} {f c : Int} (h : OvI l0 f c l) (hk : knB c = true) (h0 : 0 ≤ c) (hf : f ≤ c) (h1 : c ≤ 1114111) : OvI l0 f (c + 1) (rgPut l ⟨c, c⟩) := by
  have hp := rgPut_right h.right ⟨c, c⟩ ⟨h0, Int.le_refl _, h1⟩ h.beg
  refine ⟨hp.right, fun x => ?_, fun q hq => by have := hp.beg q hq; dsimp only at this; omega⟩
  rw [hp.mem, h.mem]
  dsimp only
  constructor
  · rintro ((e | ⟨e1, e2, e3⟩) | ⟨e1, e2⟩)
    · exact .inl e
    · exact .inr ⟨e1, by omega, e3⟩
    · obtain rfl : x = c := by omega
      exact .inr ⟨hf, by omega, hk⟩
  · rintro (e | ⟨e1, e2, e3⟩)
    · exact .inl (.inl e)
    · by_cases e : x < c
      · exact .inl (.inr ⟨e1, e, e3⟩)
      · exact .inr ⟨by omega, by omega⟩

def SaysOv (base : Nat) (w : World) (l0 : List Rg) (f t : Int) (e : Ending) (w' : World) : Prop := ∃ u l, e = .returned u ∧ RgRow w' base u l ∧ OvI l0 f (t + 1) l ∧ Below base w w'

set_option maxRecDepth 100000 in
set_option maxHeartbeats 1000000 in
theorem l12Over_any (v : Value) (l0 : List Rg) (f t : Int) (base : Nat) (w : World) (hown : RgRow w base v l0) (hR : RgR l0) (hb : ∀ q ∈ l0, q.a ≤ f) (hf : 0 ≤ f) (hft : f ≤ t) (ht : t ≤ 1114110) (hbase : base ≤ w.heap.size) :
    Calls Tryd.prog 16 #[v, .int .i64 f, .int .i64 t] w fun e w' => SaysOv base w l0 f t e w' := by
  have H0 := OvI.start hR hb
  clear hR hb
  go_enter Tryd.func16, Tryd.ntmps16
  go_wp2
  go_loopw [0, 7] (fun u cv wr => ∃ (c : Int) (l : List Rg), cv = .int .i64 c ∧ (f ≤ c ∧ c ≤ t + 1) ∧ RgRow wr base u l ∧ OvI l0 f c l ∧ Below base w wr) (fun _ cv _ => (t + 1 - intOf cv).toNat)
  case atStart => exact ⟨f, l0, rfl, ⟨by omega, by omega⟩, hown, H0, Below.refl _ _⟩
  case round =>
    obtain ⟨c, l, rfl, ⟨hc0, hc1⟩, hrow, HI, hbel⟩ := hrel
    by_cases hlt : c ≤ t
    · have hwc : IntKind.i64.wrap (c + 1) = c + 1 := by rw [IntKind.wrap_i64]; omega
      have HK := sKnown c wr
      have HN := fun h => HI.no h
      have HY := fun h => HI.yes h (by omega) hc0 (by omega)
      have hs := Nat.le_trans hbase hbel.size
      generalize knB c = b at HK HN HY
      cases b with
      | false =>
        have HI2 := HN rfl
        clear HN HY
        go_wp2_with fail
        refine HK.mono ?_
        rintro e w2 ⟨rfl, b2⟩
        have row2 := hrow.below b2
        have hb2 := hbel.trans (b2.mono hs)
        go_wp2
        go_roundw
        case rel => exact ⟨c + 1, l, rfl, ⟨by omega, by omega⟩, row2, HI2, hb2⟩
        case measure => simp [intOf]; omega
      | true =>
        have HI2 := HY rfl
        clear HN HY
        go_wp2_with fail
        refine HK.mono ?_
        rintro e w2 ⟨rfl, b2⟩
        have row2 := hrow.below b2
        have hb2 := hbel.trans (b2.mono hs)
        go_wp2_with fail
        refine (l12Put_any _ l c c base w2 row2 HI.right (Nat.le_trans hbase hb2.size)).mono ?_
        rintro e w3 ⟨u3, rfl, row3, b3⟩
        have hb3 := hb2.trans b3
        go_wp2
        go_roundw
        case rel => exact ⟨c + 1, _, rfl, ⟨by omega, by omega⟩, row3, HI2, hb3⟩
        case measure => simp [intOf]; omega
    · obtain rfl : c = t + 1 := by omega
      go_wp2
      go_ret
      exact ⟨_, l, rfl, hrow, HI, hbel⟩

set_option maxRecDepth 100000 in
set_option maxHeartbeats 1000000 in
theorem sKnownRanges (w : World) :
    Calls Tryd.prog 12 #[] w fun e w' => ∃ u, e = .returned u ∧ RgRow w' w.heap.size u knR ∧ Below w.heap.size w w' := by
  have B0 := below_lit w (.cells #[] 32)
  have R0 := lit_Rgs w
  go_enter Tryd.func12, Tryd.ntmps12
  go_wp2_with fail
  refine (l12Over_any _ [] 0 544 w.heap.size _ R0 RgR.nil (fun q h => by cases h) (by omega) (by omega) (by omega) B0.size).mono ?_
  rintro e w1 ⟨u1, l1, rfl, r1, I1, b1⟩
  have B1 := B0.trans b1
  go_wp2_with fail
  refine (l12Over_any u1 l1 767 1120 w.heap.size w1 r1 I1.right (fun q h => by have := I1.beg q h; omega) (by omega) (by omega) (by omega) B1.size).mono ?_
  rintro e w2 ⟨u2, l2, rfl, r2, I2, b2⟩
  have B2 := B1.trans b2
  go_wp2_with fail
  refine (l12Over_any u2 l2 4336 4608 w.heap.size w2 r2 I2.right (fun q h => by have := I2.beg q h; omega) (by omega) (by omega) (by omega) B2.size).mono ?_
  rintro e w3 ⟨u3, l3, rfl, r3, I3, b3⟩
  have B3 := B2.trans b3
  go_wp2_with fail
  refine (l12Over_any u3 l3 7824 7952 w.heap.size w3 r3 I3.right (fun q h => by have := I3.beg q h; omega) (by omega) (by omega) (by omega) B3.size).mono ?_
  rintro e w4 ⟨u4, l4, rfl, r4, I4, b4⟩
  have B4 := B3.trans b4
  go_wp2_with fail
  refine (l12Over_any u4 l4 8464 8512 w.heap.size w4 r4 I4.right (fun q h => by have := I4.beg q h; omega) (by omega) (by omega) (by omega) B4.size).mono ?_
  rintro e w5 ⟨u5, l5, rfl, r5, I5, b5⟩
  have B5 := B4.trans b5
  have hp := rgPut_right I5.right ⟨44032, 55203⟩ ⟨by decide, by decide, by decide⟩ (fun q h => by have := I5.beg q h; dsimp only; omega)
  have he : Hid (rgPut l5 ⟨44032, 55203⟩ = knR) := rg_uniq _ _ hp.right knR_right fun x => by
    rw [hp.mem, I5.mem, I4.mem, I3.mem, I2.mem, I1.mem, knR_in]
    dsimp only
    have h0 : ¬ RgIn [] x := RgIn_nil x
    constructor
    · rintro ((((((e | e) | e) | e) | e) | e) | e)
      · exact absurd e h0
      · exact e.2.2
      · exact e.2.2
      · exact e.2.2
      · exact e.2.2
      · exact e.2.2
      · exact knB_hangul x e.1 e.2
    · intro e
      rcases knB_in x e with h | h | h | h | h | h
      · exact .inl (.inl (.inl (.inl (.inl (.inr ⟨h.1, by omega, e⟩)))))
      · exact .inl (.inl (.inl (.inl (.inr ⟨h.1, by omega, e⟩))))
      · exact .inl (.inl (.inl (.inr ⟨h.1, by omega, e⟩)))
      · exact .inl (.inl (.inr ⟨h.1, by omega, e⟩))
      · exact .inl (.inr ⟨h.1, by omega, e⟩)
      · exact .inr h
  go_wp2_with fail
  refine (l12Put_any u5 l5 44032 55203 w.heap.size w5 r5 I5.right B5.size).mono ?_
  rintro e w6 ⟨u6, rfl, r6, b6⟩
  rw [he.out] at r6
  go_wp2
  go_ret
  exact ⟨u6, rfl, r6, B5.trans b6⟩

end Go.Proofs.YtkpeabbilcmabaaDoor
