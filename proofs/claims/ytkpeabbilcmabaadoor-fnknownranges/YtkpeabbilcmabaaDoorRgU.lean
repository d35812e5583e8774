/- Ranges of signs: spec.l12Put and Union. -/
import Derived.Test.YtkpeabbilcmabaaDoorRows
import Derived.Test.YtkpeabbilcmabaaDoorRgS
namespace Go.Proofs.YtkpeabbilcmabaaDoor
open Go.RowKit Go.Sort

theorem rg_len : ∀ (l : List Rg), RgR l → (l.length : Int) ≤ rgSum l
  | [], _ => by simp [rgSum]
  | r :: l, h => by
    have h1 := rg_len l h.tail
    have h2 := h.one r (by simp)
    simp only [rgSum, List.length_cons]; omega
theorem RgR.len {l : List Rg} (h : RgR l) : l.length ≤ 1114112 := by
  have h1 := rg_len l h
  have h2 := rgSum_le h
  omega

/-- the right ranges of what is in one of both -/
noncomputable def rgUnion (a b : List Rg) : List Rg :=
  open Classical in if h : RgR a ∧ RgR b ∧ ∃ m, RgR m ∧ ∀ c, RgIn m c ↔ RgIn a c ∨ RgIn b c then h.2.2.choose else []
theorem rgUnion_is {a b m : List Rg} (ha : RgR a) (hb : RgR b) (hm : RgR m) (hc : ∀ c, RgIn m c ↔ RgIn a c ∨ RgIn b c) : rgUnion a b = m := by
  have h : RgR a ∧ RgR b ∧ ∃ m, RgR m ∧ ∀ c, RgIn m c ↔ RgIn a c ∨ RgIn b c := ⟨ha, hb, m, hm, hc⟩
  unfold rgUnion
  rw [dif_pos h]
  exact rg_uniq _ _ h.2.2.choose_spec.1 hm fun c => (h.2.2.choose_spec.2 c).trans (hc c).symm
theorem rgUnion_no {a b : List Rg} (h : ¬ (RgR a ∧ RgR b)) : rgUnion a b = [] := by
  unfold rgUnion
  rw [dif_neg (fun e => h ⟨e.1, e.2.1⟩)]
noncomputable def rgMinus (a b : List Rg) : List Rg :=
  open Classical in if h : RgR a ∧ RgR b ∧ ∃ m, RgR m ∧ ∀ c, RgIn m c ↔ RgIn a c ∧ ¬ RgIn b c then h.2.2.choose else []
theorem rgMinus_is {a b m : List Rg} (ha : RgR a) (hb : RgR b) (hm : RgR m) (hc : ∀ c, RgIn m c ↔ RgIn a c ∧ ¬ RgIn b c) : rgMinus a b = m := by
  have h : RgR a ∧ RgR b ∧ ∃ m, RgR m ∧ ∀ c, RgIn m c ↔ RgIn a c ∧ ¬ RgIn b c := ⟨ha, hb, m, hm, hc⟩
  unfold rgMinus
  rw [dif_pos h]
  exact rg_uniq _ _ h.2.2.choose_spec.1 hm fun c => (h.2.2.choose_spec.2 c).trans (hc c).symm
theorem rgMinus_no {a b : List Rg} (h : ¬ (RgR a ∧ RgR b)) : rgMinus a b = [] := by
  unfold rgMinus
  rw [dif_neg (fun e => h ⟨e.1, e.2.1⟩)]

/-- a box with one range -/
theorem box_rg (w : World) (x y : Int) : (w.alloc (.cells #[.int .i64 x, .int .i64 y] 32)).cell? ⟨w.heap.size, 0, none⟩ = some (.int .i64 x) ∧ (w.alloc (.cells #[.int .i64 x, .int .i64 y] 32)).cell? ⟨w.heap.size, 1, none⟩ = some (.int .i64 y) := by
  constructor <;> rw [World.cell?_alloc_mark] <;> rfl

set_option maxRecDepth 100000 in
set_option maxHeartbeats 1000000 in
theorem l12Put_any (v : Value) (l : List Rg) (x0 x1 : Int) (base : Nat) (w : World) (hown : RgRow w base v l) (hR : RgR l) (hbase : base ≤ w.heap.size) :
    Calls Tryd.prog 17 #[v, .agg #[.int .i64 x0, .int .i64 x1]] w fun e w' => ∃ u, e = .returned u ∧ RgRow w' base u (rgPut l ⟨x0, x1⟩) ∧ Below base w w' := by
  have hln := hR.len
  obtain ⟨w1, HW1⟩ : ∃ w1, Hid (w1 = w.alloc (.cells #[.int .i64 x0, .int .i64 x1] 32)) := ⟨_, rfl⟩
  have B0 := below_lit w (.cells #[.int .i64 x0, .int .i64 x1] 32)
  obtain ⟨k0, k1⟩ := box_rg w x0 x1
  have hG : w.heap.size < (w.alloc (.cells #[.int .i64 x0, .int .i64 x1] 32)).heap.size := by simp
  rw [← HW1.out] at B0 k0 k1 hG
  have hown1 := hown.below B0
  have hs1 : base ≤ w1.heap.size := by omega
  have hbel1 := B0.mono hbase
  obtain ⟨G, HG⟩ : ∃ G, Hid (G = w.heap.size) := ⟨_, rfl⟩
  rw [← HG.out] at k0 k1 hG
  have q0 := cell_regrown k0
  have q1 := cell_regrown k1
  by_cases hl0 : l = []
  · have HPUT : Hid (rgPut l ⟨x0, x1⟩ = l ++ [⟨x0, x1⟩]) := by show _ = _; subst hl0; rfl
    obtain ⟨a, cap, hv, -, -⟩ := hown.at
    have hn : l.length = 0 := by rw [hl0]; rfl
    rw [hn] at hv
    subst hv
    generalize rgPut l ⟨x0, x1⟩ = res at HPUT ⊢
    clear B0 hown
    go_enter Tryd.func17, Tryd.ntmps17
    go_wp2
    rw [← HW1.out, ← HG.out]
    refine wp_region_quiet_below (by kernel_rfl) (by kernel_rfl) ?_
    repeat (go_big_quiet_step (fail))
    refine wpQuiet_nil ?_
    rintro w' ⟨⟨dq, osq⟩, rfl⟩
    have hbq := below_regrown w1 dq osq
    have row6 := hown1.below hbq
    have hs6 := Nat.le_trans hs1 hbq.size
    have hbel6 := hbel1.trans (hbq.mono hs1)
    have g0 := (hbq.cell (p := ⟨G, 0, none⟩) hG).trans k0
    have g1 := (hbq.cell (p := ⟨G, 1, none⟩) hG).trans k1
    generalize grow (redrawn w1 dq) osq = w6 at *
    go_wp2_with (at_builtin; refine append_Rgs _ rfl (.tmp 22) (.tmp 24) rfl base _ _ l [⟨x0, x1⟩] (by simp; omega) (row6.below (below_lit _ _)) (one_Rg _ ⟨x0, x1⟩) rfl rfl (Nat.le_trans hs6 (below_lit _ _).size) ?_; intro v8 w8 row8 b8)
    go_ret
    exact ⟨_, rfl, by rw [HPUT.out]; exact row8, (hbel6.trans ((below_lit _ _).mono hs6)).trans b8⟩
  · have hpos : 0 < l.length := List.length_pos_iff.2 hl0
    rcases hown.2 with ⟨_, h0⟩ | ⟨g, cap, cur, rfl, hg, hh, hnc, hcp, hcs, htake⟩
    · omega
    obtain ⟨m, HM⟩ : ∃ m, Hid (m = l.length - 1) := ⟨_, rfl⟩
    have HP : Hid (rgPut l ⟨x0, x1⟩ = if l[m]!.b + 1 < x0 then l ++ [⟨x0, x1⟩] else if l[m]!.b < x1 then l.set m ⟨l[m]!.a, x1⟩ else l) := by
      show _ = _; unfold rgPut; rw [if_neg hl0, ← HM.out]
    generalize rgPut l ⟨x0, x1⟩ = res at HP ⊢
    have hml : m < l.length := by have := HM.out; omega
    have hy := hR.one l[m]! (by rw [getElem!_pos l m hml]; exact List.getElem_mem hml)
    have hcy : ∀ w', RgRow w' base (.slice (some ⟨g, 0, none⟩) l.length cap) l → w'.cell? ⟨g, m * 2 + 1, none⟩ = some (.int .i64 l[m]!.b) := fun w' h => by
      have := World.ownsRow.cellAt h (m * 2 + 1) (by omega)
      rw [this, flatRg_at l m hml 1 (by omega)]; rfl
    have HST : Hid (∀ w', RgRow w' base (.slice (some ⟨g, 0, none⟩) l.length cap) l → RgRow (w'.setCell ⟨g, m * 2 + 1, none⟩ (.int .i64 x1)) base (.slice (some ⟨g, 0, none⟩) l.length cap) (l.set m ⟨l[m]!.a, x1⟩)) := fun w' h => by
      unfold RgRow
      rw [List.length_set]
      exact rowRg_set h m ⟨l[m]!.a, x1⟩ 1 (.int .i64 x1) hml (by omega) rfl
    have hc1 := hcy _ hown1
    have p1 := cell_regrown hc1
    have hfz : ∀ w', RgRow w' base (.slice (some ⟨g, 0, none⟩) l.length cap) l → w'.frozen? ⟨g, m * 2 + 1, none⟩ = false := fun w' h => World.ownsRow.frozenAt h _
    have HCY : Hid _ := hcy
    have HFZ : Hid _ := hfz
    generalize l[m]! = y at *
    obtain ⟨y0, y1⟩ := y
    dsimp only at *
    have HCY := HCY.out
    have HFZ := HFZ.out
    obtain ⟨n, HL⟩ : ∃ n, Hid (n = l.length) := ⟨_, rfl⟩
    rw [← HL.out] at hln hpos hnc HM hml HST HCY HFZ hown1 ⊢
    have zm : IntKind.i64.wrap ((n : Int) - 1) = (m : Int) := by rw [IntKind.wrap_i64, HM.out]; omega
    have hmn : (m : Int) < (n : Int) := by omega
    have hm0 : (0 : Int) ≤ (m : Int) := by omega
    have hn0 : ((n : Int) == 0) = false := by rw [beq_eq_false_iff_ne]; omega
    have hwy : IntKind.i64.wrap (y1 + 1) = y1 + 1 := by rw [IntKind.wrap_i64]; omega
    have HMM : Hid (m < n) := hml
    clear B0 hown hh hcs htake hcy hfz hc1 hl0 hml
    by_cases h1 : y1 + 1 < x0
    · have hd1 : decide (y1 + 1 < x0) = true := decide_eq_true h1
      rw [if_pos h1] at HP
      clear h1
      go_enter Tryd.func17, Tryd.ntmps17
      go_wp2
      rw [← HW1.out, ← HG.out]
      refine wp_region_quiet_below (by kernel_rfl) (by kernel_rfl) ?_
      repeat (go_big_quiet_step (fail))
      refine wpQuiet_nil ?_
      rintro w' ⟨⟨dq, osq⟩, rfl⟩
      have hbq := below_regrown w1 dq osq
      have row6 := hown1.below hbq
      have hs6 := Nat.le_trans hs1 hbq.size
      have hbel6 := hbel1.trans (hbq.mono hs1)
      have g0 := (hbq.cell (p := ⟨G, 0, none⟩) hG).trans k0
      have g1 := (hbq.cell (p := ⟨G, 1, none⟩) hG).trans k1
      generalize grow (redrawn w1 dq) osq = w6 at *
      go_wp2_with (at_builtin; refine append_Rgs _ rfl (.tmp 22) (.tmp 24) rfl base _ _ l [⟨x0, x1⟩] (by have := HL.out; simp; omega) (row6.below (below_lit _ _)) (one_Rg _ ⟨x0, x1⟩) rfl rfl (Nat.le_trans hs6 (below_lit _ _).size) ?_; intro v8 w8 row8 b8)
      go_ret
      exact ⟨_, rfl, by rw [HP.out]; exact row8, (hbel6.trans ((below_lit _ _).mono hs6)).trans b8⟩
    · have hd1 : decide (y1 + 1 < x0) = false := decide_eq_false h1
      rw [if_neg h1] at HP
      clear h1
      by_cases h2 : y1 < x1
      · have hd2 : decide (y1 < x1) = true := decide_eq_true h2
        rw [if_pos h2] at HP
        clear h2
        go_enter Tryd.func17, Tryd.ntmps17
        go_wp2
        rw [← HW1.out, ← HG.out]
        refine wp_region_quiet_below (by kernel_rfl) (by kernel_rfl) ?_
        repeat (go_big_quiet_step (fail))
        refine wpQuiet_nil ?_
        rintro w' ⟨⟨dq, osq⟩, rfl⟩
        have hbq := below_regrown w1 dq osq
        have row6 := hown1.below hbq
        have hs6 := Nat.le_trans hs1 hbq.size
        have hbel6 := hbel1.trans (hbq.mono hs1)
        have g0 := (hbq.cell (p := ⟨G, 0, none⟩) hG).trans k0
        have g1 := (hbq.cell (p := ⟨G, 1, none⟩) hG).trans k1
        generalize grow (redrawn w1 dq) osq = w6 at *
        have hG6 : G < w6.heap.size := Nat.lt_of_lt_of_le hG hbq.size
        have r0 := cell_regrown g0
        have r1 := cell_regrown g1
        have p6 := cell_regrown (HCY _ row6)
        clear q0 q1 p1 hbq
        go_wp2
        refine wp_region_quiet_below (by kernel_rfl) (by kernel_rfl) ?_
        repeat (go_big_quiet_step (fail))
        refine wpQuiet_nil ?_
        rintro w' ⟨⟨dr, osr⟩, rfl⟩
        have hbr := below_regrown w6 dr osr
        have row7 := row6.below hbr
        have hs7 := Nat.le_trans hs6 hbr.size
        have hbel7 := hbel6.trans (hbr.mono hs6)
        have gg0 := (hbr.cell (p := ⟨G, 0, none⟩) hG6).trans g0
        have gg1 := (hbr.cell (p := ⟨G, 1, none⟩) hG6).trans g1
        generalize grow (redrawn w6 dr) osr = w7 at *
        have d1 := HCY _ row7
        have d2 := HFZ _ row7
        go_wp2
        go_ret
        exact ⟨_, rfl, by rw [HP.out]; exact HST.out _ row7, hbel7.setCell hg _⟩
      · have hd2 : decide (y1 < x1) = false := decide_eq_false h2
        rw [if_neg h2] at HP
        clear h2
        go_enter Tryd.func17, Tryd.ntmps17
        go_wp2
        rw [← HW1.out, ← HG.out]
        refine wp_region_quiet_below (by kernel_rfl) (by kernel_rfl) ?_
        repeat (go_big_quiet_step (fail))
        refine wpQuiet_nil ?_
        rintro w' ⟨⟨dq, osq⟩, rfl⟩
        have hbq := below_regrown w1 dq osq
        have row6 := hown1.below hbq
        have hs6 := Nat.le_trans hs1 hbq.size
        have hbel6 := hbel1.trans (hbq.mono hs1)
        have g0 := (hbq.cell (p := ⟨G, 0, none⟩) hG).trans k0
        have g1 := (hbq.cell (p := ⟨G, 1, none⟩) hG).trans k1
        generalize grow (redrawn w1 dq) osq = w6 at *
        have hG6 : G < w6.heap.size := Nat.lt_of_lt_of_le hG hbq.size
        have r0 := cell_regrown g0
        have r1 := cell_regrown g1
        have p6 := cell_regrown (HCY _ row6)
        clear q0 q1 p1 hbq
        go_wp2
        refine wp_region_quiet_below (by kernel_rfl) (by kernel_rfl) ?_
        repeat (go_big_quiet_step (fail))
        refine wpQuiet_nil ?_
        rintro w' ⟨⟨dr, osr⟩, rfl⟩
        have hbr := below_regrown w6 dr osr
        have row7 := row6.below hbr
        have hs7 := Nat.le_trans hs6 hbr.size
        have hbel7 := hbel6.trans (hbr.mono hs6)
        have gg0 := (hbr.cell (p := ⟨G, 0, none⟩) hG6).trans g0
        have gg1 := (hbr.cell (p := ⟨G, 1, none⟩) hG6).trans g1
        generalize grow (redrawn w6 dr) osr = w7 at *
        go_wp2
        go_ret
        exact ⟨_, rfl, by rw [HP.out]; exact row7, hbel7⟩

/-- what stands while two rows are put together: the first i of a and the first k of b are in l -/
structure UnI (a b : List Rg) (i k : Nat) (l : List Rg) : Prop where
  right : RgR l
  mem : ∀ c, RgIn l c ↔ RgIn (a.take i) c ∨ RgIn (b.take k) c
  la : i < a.length → ∀ q ∈ l, q.a ≤ a[i]!.a
  lb : k < b.length → ∀ q ∈ l, q.a ≤ b[k]!.a
theorem UnI.nil (a b : List Rg) : UnI a b 0 0 [] := ⟨RgR.nil, fun c => by simp [RgIn], fun _ q h => (by cases h), fun _ q h => (by cases h)⟩
theorem RgIn_take (a : List Rg) (i : Nat) (h : i < a.length) (c : Int) : RgIn (a.take (i + 1)) c ↔ RgIn (a.take i) c ∨ (a[i]!.a ≤ c ∧ c ≤ a[i]!.b) := by
  rw [List.take_succ_eq_append_getElem h, RgIn_append, RgIn_one, getElem!_pos a i h]
theorem RgR.at {a : List Rg} (h : RgR a) {i : Nat} (hi : i < a.length) : 0 ≤ a[i]!.a ∧ a[i]!.a ≤ a[i]!.b ∧ a[i]!.b ≤ 1114111 := by
  rw [getElem!_pos a i hi]; exact h.one _ (List.getElem_mem hi)
theorem RgR.lt {a : List Rg} (h : RgR a) {i j : Nat} (hij : i < j) (hj : j < a.length) : a[i]!.b + 1 < a[j]!.a := by
  rw [getElem!_pos a i (by omega), getElem!_pos a j hj]; exact List.pairwise_iff_getElem.1 h.gap i j (by omega) hj hij
theorem UnI.swap {a b : List Rg} {i k : Nat} {l : List Rg} (h : UnI a b i k l) : UnI b a k i l := ⟨h.right, fun c => (h.mem c).trans or_comm, h.lb, h.la⟩
theorem UnI.one {a b : List Rg} (ha : RgR a) {i k : Nat} {l : List Rg} (h : UnI a b i k l) (hi : i < a.length) (hb : k < b.length → a[i]!.a ≤ b[k]!.a) : UnI a b (i + 1) k (rgPut l a[i]!) := by
  have h1 := ha.at hi
  have hp := rgPut_right h.right a[i]! h1 (h.la hi)
  refine ⟨hp.right, fun c => ?_, fun hi2 q hq => ?_, fun hk q hq => Int.le_trans (hp.beg q hq) (hb hk)⟩
  · rw [hp.mem, h.mem, RgIn_take a i hi]
    constructor
    · rintro ((h | h) | h)
      · exact .inl (.inl h)
      · exact .inr h
      · exact .inl (.inr h)
    · rintro ((h | h) | h)
      · exact .inl (.inl h)
      · exact .inr h
      · exact .inl (.inr h)
  · have h2 := hp.beg q hq
    have h3 := ha.lt (show i < i + 1 by omega) hi2
    omega
theorem UnI.two {a b : List Rg} (hb : RgR b) {i k : Nat} {l : List Rg} (h : UnI a b i k l) (hk : k < b.length) (ha : i < a.length → b[k]!.a ≤ a[i]!.a) : UnI a b i (k + 1) (rgPut l b[k]!) := (h.swap.one hb hk ha).swap
theorem UnI.done {a b : List Rg} (ha : RgR a) (hb : RgR b) {l : List Rg} (h : UnI a b a.length b.length l) : rgUnion a b = l :=
  rgUnion_is ha hb h.right fun c => by rw [h.mem, List.take_length, List.take_length]



end Go.Proofs.YtkpeabbilcmabaaDoor
