/- Names in order: impl.unitsFit's closure: where the pattern is at its end, or has no star. Names in order: impl.unitsFit's closure at a star: each rest is asked once. -/
import Derived.Test.YtlkemmdcjnaepaaDoorRows
import Derived.Test.YtlkemmdcjnaepaaDoorG31
import Derived.Test.YtlkemmdcjnaepaaDoorG32
import Derived.Test.YtlkemmdcjnaepaaDoorG30
import Derived.Test.YtlkemmdcjnaepaaDoorG33
import Derived.Lib.QuietBelow
import Derived.BigQuiet
namespace Go.Proofs.YtlkemmdcjnaepaaDoor

section
open Go.RowKit Go.Sort

/-- what the closure works on: both rows at h and h + 1, what was asked at h + 2 and h + 3, itself at h + 4 -/
structure FitSt (h : Nat) (w0 : World) (vp vu : Value) (w : World) (S : Nat → Nat → Prop) : Prop where
  bel : Below h w0 w
  bp : w.heap[h]? = some (.cells #[vp] 24 (0, 0))
  bu : w.heap[h + 1]? = some (.cells #[vu] 24 (0, 0))
  mp : QMap (h + 2) S w
  ba : w.heap[h + 3]? = some (.cells #[.map (some (h + 2))] 75 (0, 0))
  bf : w.heap[h + 4]? = some (.cells #[.func (.func 67) #[] #[.pointer (some ⟨h, 0, none⟩), .pointer (some ⟨h + 1, 0, none⟩), .pointer (some ⟨h + 4, 0, none⟩), .pointer (some ⟨h + 3, 0, none⟩)]] 76 (0, 0))
theorem FitSt.lt {h : Nat} {w0 : World} {vp vu : Value} {w : World} {S : Nat → Nat → Prop} (s : FitSt h w0 vp vu w S) : h + 4 < w.heap.size := lt_of_block s.bf
theorem FitSt.below {h : Nat} {w0 : World} {vp vu : Value} {w w' : World} {S : Nat → Nat → Prop} (s : FitSt h w0 vp vu w S) (b : Below w.heap.size w w') : FitSt h w0 vp vu w' S := by
  have := s.lt
  exact ⟨s.bel.trans (b.mono (by omega)), (b.block _ (by omega)).trans s.bp, (b.block _ (by omega)).trans s.bu, s.mp.kept (b.block _ (by omega)), (b.block _ (by omega)).trans s.ba, (b.block _ (by omega)).trans s.bf⟩
theorem FitSt.put {h : Nat} {w0 : World} {vp vu : Value} {w w' : World} {S T : Nat → Nat → Prop} (s : FitSt h w0 vp vu w S) (g : w.grownBy w' (some (h + 2))) (m : QMap (h + 2) T w') : FitSt h w0 vp vu w' T := by
  have := s.lt
  exact ⟨s.bel.grown g (by omega) (fun k hk => by injection hk; omega), (g.block _ (by omega) (fun e => by injection e; omega)).trans s.bp, (g.block _ (by omega) (fun e => by injection e; omega)).trans s.bu, m, (g.block _ (by omega) (fun e => by injection e; omega)).trans s.ba, (g.block _ (by omega) (fun e => by injection e; omega)).trans s.bf⟩
/-- its boxes, as they are read -/
theorem FitSt.cells {h : Nat} {w0 : World} {vp vu : Value} {w : World} {S : Nat → Nat → Prop} (s : FitSt h w0 vp vu w S) :
    (w.cell? ⟨h, 0, none⟩ = some vp ∧ w.cell? ⟨h + 1, 0, none⟩ = some vu) ∧ w.cell? ⟨h + 3, 0, none⟩ = some (.map (some (h + 2))) ∧
    w.cell? ⟨h + 4, 0, none⟩ = some (.func (.func 67) #[] #[.pointer (some ⟨h, 0, none⟩), .pointer (some ⟨h + 1, 0, none⟩), .pointer (some ⟨h + 4, 0, none⟩), .pointer (some ⟨h + 3, 0, none⟩)]) :=
  ⟨⟨cell_of_row w _ 0 _ _ (0, 0) s.bp, cell_of_row w _ 0 _ _ (0, 0) s.bu⟩, cell_of_row w _ 0 _ _ (0, 0) s.ba, cell_of_row w _ 0 _ _ (0, 0) s.bf⟩
/-- a text of a row that was there before -/
theorem FitSt.text {h : Nat} {w0 : World} {vp vu : Value} {w : World} {S : Nat → Nat → Prop} (s : FitSt h w0 vp vu w S) (hz : w0.heap.size = h) {b o : Nat} {v : Value} (hb : b < w0.heap.size) (hc : w0.cell? ⟨b, o, none⟩ = some v) : w.cell? ⟨b, o, none⟩ = some v :=
  (s.bel.cell (p := ⟨b, o, none⟩) (by show b < h; omega)).trans hc

/-- what is answered: r, and each rest that was asked since does not fit, where r is false -/
def FitSays (h : Nat) (w0 : World) (vp vu : Value) (P U : List ByteArray) (S : Nat → Nat → Prop) (r : Bool) (e : Ending) (w' : World) : Prop :=
  ∃ T, e = .returned (.bool r) ∧ FitSt h w0 vp vu w' T ∧ (r = false → ∀ a b, T a b → S a b ∨ fitA P U a b = false)
/-- what the closure says of the rests from p and u on -/
def FitC (h : Nat) (w0 : World) (vp vu : Value) (P U : List ByteArray) (p u : Nat) : Prop :=
  ∀ (w : World) (S : Nat → Nat → Prop) (zp zu : Int), zp = p → zu = u → FitSt h w0 vp vu w S → (∀ a b, S a b → fitA P U a b = false ∨ a + b < p + u) →
    Calls Tryd.prog 67 #[.int .i64 zp, .int .i64 zu, .pointer (some ⟨h, 0, none⟩), .pointer (some ⟨h + 1, 0, none⟩), .pointer (some ⟨h + 4, 0, none⟩), .pointer (some ⟨h + 3, 0, none⟩)] w fun e w' =>
      FitSays h w0 vp vu P U S (fitA P U p u) e w'

set_option maxRecDepth 100000 in
set_option maxHeartbeats 1000000 in
theorem fit_end (h : Nat) (w0 : World) (ap au : Option Addr) (cp cu : Nat) (P U : List ByteArray) (u : Nat) (hu : u ≤ U.length) : FitC h w0 (.slice ap P.length cp) (.slice au U.length cu) P U P.length u := by
  rintro w S _ _ rfl rfl st hinv
  rw [fitA_end P U u hu]
  have hd : ((u : Int) == (U.length : Int)) = decide (u = U.length) := by
    rw [Bool.eq_iff_iff, beq_iff_eq, decide_eq_true_eq]; omega
  have hp : ((P.length : Int) == (P.length : Int)) = true := by simp
  obtain ⟨⟨c0, c1⟩, -, -⟩ := st.cells
  generalize decide (u = U.length) = r at hd ⊢
  have HST : Hid (FitSt h w0 (.slice ap P.length cp) (.slice au U.length cu) w S) := st
  clear st hinv
  go_enter Tryd.func67, Tryd.ntmps67
  go_wp2
  go_ret
  exact ⟨S, rfl, HST.out, fun _ a b h => .inl h⟩

theorem star_eq {x : ByteArray} (h : x ≠ starT) : (x.toList == ([42] : List UInt8)) = false := by
  rw [beq_eq_false_iff_ne]
  intro e
  exact h (toList_inj (by rw [e]; simp [starT, ByteArray.toList_eq]))
theorem any_eq (x : ByteArray) : (x.toList == ([63] : List UInt8)) = decide (x = anyT) := by
  rw [Bool.eq_iff_iff, beq_iff_eq, decide_eq_true_eq]
  exact ⟨fun e => toList_inj (by rw [e]; simp [anyT, ByteArray.toList_eq]), fun e => by rw [e]; simp [anyT, ByteArray.toList_eq]⟩

set_option maxRecDepth 100000 in
set_option maxHeartbeats 2000000 in
theorem fit_no (h : Nat) (w0 : World) (ap au : Option Addr) (cp cu : Nat) (P U : List ByteArray) (hz : w0.heap.size = h) (hP : TxtsAt w0 (.slice ap P.length cp) P) (hU : TxtsAt w0 (.slice au U.length cu) U) (p u : Nat) (hp : p < P.length) (hs : P[p]! ≠ starT)
    (hq : U.length ≤ u ∨ (u < U.length ∧ P[p]! ≠ anyT ∧ P[p]! ≠ U[u]!)) : FitC h w0 (.slice ap P.length cp) (.slice au U.length cu) P U p u := by
  rintro w S _ _ rfl rfl st hinv
  have hF : fitA P U p u = false := by
    rcases hq with hq | ⟨h1, h2, h3⟩
    · exact fitA_none hp hs hq
    · rw [fitA_one hp hs h1, decide_eq_false h2, decide_eq_false h3]; rfl
  rw [hF]
  have HST : Hid (FitSt h w0 (.slice ap P.length cp) (.slice au U.length cu) w S) := st
  have HFN : Hid (∀ W, Below w.heap.size w W → FitSt h w0 (.slice ap P.length cp) (.slice au U.length cu) W S) := fun W b => st.below b
  obtain ⟨⟨c0, c1⟩, -, -⟩ := st.cells
  obtain ⟨a', c', e0, -, hcP⟩ := hP
  cases e0
  obtain ⟨bP, oP, rfl, hbP, hP1⟩ := hcP p hp
  have cP := st.text hz hbP hP1
  have hpe : ((p : Int) == (P.length : Int)) = false := by rw [beq_eq_false_iff_ne]; omega
  have hpl : (p : Int) < (P.length : Int) := by omega
  have hp0 : (0 : Int) ≤ (p : Int) := by omega
  have hse := star_eq hs
  have k0 := fun d os => cell_regrown (d := d) (os := os) c0
  have k1 := fun d os => cell_regrown (d := d) (os := os) c1
  have kP := fun d os => cell_regrown (d := d) (os := os) cP
  rcases hq with hq | ⟨h1, h2, h3⟩
  · have hul : ¬ (u : Int) < (U.length : Int) := by omega
    generalize P[p]! = x at *
    generalize P.length = n at *
    generalize U.length = m at *
    clear st hinv hF hP1 hcP hU hs hq hz
    go_enter Tryd.func67, Tryd.ntmps67
    go_upto_region 4 with fail
    refine wp_region_quiet_below (by kernel_rfl) (by kernel_rfl) ?_
    repeat (go_big_quiet_step (fail))
    refine wpQuiet_nil ?_
    rintro w' ⟨⟨dq, osq⟩, rfl⟩
    have hbq := below_regrown w dq osq
    generalize grow (redrawn w dq) osq = w5 at hbq ⊢
    go_wp2
    go_ret
    exact ⟨S, rfl, HFN.out _ hbq, fun _ a b h => .inl h⟩
  · have hul : (u : Int) < (U.length : Int) := by omega
    have hu0 : (0 : Int) ≤ (u : Int) := by omega
    have hxa : (P[p]!.toList == ([63] : List UInt8)) = false := by rw [any_eq]; exact decide_eq_false h2
    have hxy : (P[p]!.toList == U[u]!.toList) = false := by rw [text_beq]; exact decide_eq_false h3
    obtain ⟨a2, c2, e2, -, hcU⟩ := hU
    cases e2
    obtain ⟨bU, oU, rfl, hbU, hU1⟩ := hcU u h1
    have cU := st.text hz hbU hU1
    have kU := fun d os => cell_regrown (d := d) (os := os) cU
    generalize P[p]! = x at *
    generalize U[u]! = y at *
    generalize P.length = n at *
    generalize U.length = m at *
    clear st hinv hF hP1 hU1 hcP hcU hs h1 h2 h3 hz
    go_enter Tryd.func67, Tryd.ntmps67
    go_upto_region 4 with fail
    refine wp_region_quiet_below (by kernel_rfl) (by kernel_rfl) ?_
    repeat (go_big_quiet_step (fail))
    refine wpQuiet_nil ?_
    rintro w' ⟨⟨dq, osq⟩, rfl⟩
    have hbq := below_regrown w dq osq
    generalize grow (redrawn w dq) osq = w5 at hbq ⊢
    go_wp2
    go_ret
    exact ⟨S, rfl, HFN.out _ hbq, fun _ a b h => .inl h⟩

set_option maxRecDepth 100000 in
set_option maxHeartbeats 4000000 in
theorem fit_go (h : Nat) (w0 : World) (ap au : Option Addr) (cp cu : Nat) (P U : List ByteArray) (hz : w0.heap.size = h) (hP : TxtsAt w0 (.slice ap P.length cp) P) (hU : TxtsAt w0 (.slice au U.length cu) U) (hPl : P.length ≤ 1048576) (hUl : U.length ≤ 1048576) (p u : Nat) (hp : p < P.length) (hs : P[p]! ≠ starT)
    (hu : u < U.length) (hq : P[p]! = anyT ∨ P[p]! = U[u]!) (ih : FitC h w0 (.slice ap P.length cp) (.slice au U.length cu) P U (p + 1) (u + 1)) : FitC h w0 (.slice ap P.length cp) (.slice au U.length cu) P U p u := by
  rintro w S _ _ rfl rfl st hinv
  have hF : fitA P U p u = fitA P U (p + 1) (u + 1) := by
    rw [fitA_one hp hs hu]
    have : (decide (P[p]! = anyT) || decide (P[p]! = U[u]!)) = true := by
      rcases hq with h | h
      · rw [decide_eq_true h]; rfl
      · rw [decide_eq_true h, Bool.or_true]
    rw [this, Bool.true_and]
  have hC := fun W (b : Below w.heap.size w W) => ih W S ((p : Int) + 1) ((u : Int) + 1) (by omega) (by omega) (st.below b) (fun a b hab => (hinv a b hab).imp id (fun h => by omega))
  rw [← hF] at hC
  obtain ⟨⟨c0, c1⟩, c3, c4⟩ := st.cells
  obtain ⟨a', c', e0, -, hcP⟩ := hP
  cases e0
  obtain ⟨bP, oP, rfl, hbP, hP1⟩ := hcP p hp
  have cP := st.text hz hbP hP1
  obtain ⟨a2, c2, e2, -, hcU⟩ := hU
  cases e2
  obtain ⟨bU, oU, rfl, hbU, hU1⟩ := hcU u hu
  have cU := st.text hz hbU hU1
  have k0 := fun d os => cell_regrown (d := d) (os := os) c0
  have k1 := fun d os => cell_regrown (d := d) (os := os) c1
  have k4 := fun d os => cell_regrown (d := d) (os := os) c4
  have kP := fun d os => cell_regrown (d := d) (os := os) cP
  have kU := fun d os => cell_regrown (d := d) (os := os) cU
  have hpe : ((p : Int) == (P.length : Int)) = false := by rw [beq_eq_false_iff_ne]; omega
  have hpl : (p : Int) < (P.length : Int) := by omega
  have hp0 : (0 : Int) ≤ (p : Int) := by omega
  have hul : (u : Int) < (U.length : Int) := by omega
  have hu0 : (0 : Int) ≤ (u : Int) := by omega
  have hwp : IntKind.i64.wrap ((p : Int) + 1) = (p : Int) + 1 := by rw [IntKind.wrap_i64]; omega
  have hwu : IntKind.i64.wrap ((u : Int) + 1) = (u : Int) + 1 := by rw [IntKind.wrap_i64]; omega
  have hse := star_eq hs
  obtain ⟨qa, hqa⟩ : ∃ q, (P[p]!.toList == ([63] : List UInt8)) = q := ⟨_, rfl⟩
  have hqy : qa = false → (P[p]!.toList == U[u]!.toList) = true := fun e => by
    rw [text_beq]
    refine decide_eq_true ?_
    rcases hq with h | h
    · rw [any_eq, decide_eq_true h] at hqa; rw [← hqa] at e; cases e
    · exact h
  generalize fitA P U p u = r at hC ⊢
  generalize P[p]! = x at *
  generalize U[u]! = y at *
  generalize P.length = n at *
  generalize U.length = m at *
  clear st hinv hF hP1 hU1 hcP hcU hs hq ih hu hp hbP hbU hPl hUl c3
  cases qa
  · have hxy := hqy rfl
    clear hqy
    go_enter Tryd.func67, Tryd.ntmps67
    go_upto_region 4 with fail
    refine wp_region_quiet_tail 28 (by kernel_rfl) (by kernel_rfl) (by kernel_rfl) ?_
    simp only [List.take, List.drop]
    repeat (go_big_quiet_step (fail))
    refine wpQuiet_nil ?_
    rintro w' ⟨⟨dq, osq⟩, rfl⟩
    have hbq := below_regrown w dq osq
    generalize grow (redrawn w dq) osq = w5 at hbq ⊢
    have hC5 := hC w5 hbq
    clear hC k0 k1 k4 kP kU c0 c1 c4 cP cU
    go_wp2_with fail
    refine hC5.mono ?_
    rintro e w6 hs6
    obtain ⟨T, rfl, st6, hp6⟩ := hs6
    have HS6 : Hid (FitSays h w0 (.slice (some ⟨bP, oP, none⟩) n cp) (.slice (some ⟨bU, oU, none⟩) m cu) P U S r (.returned (.bool r)) w6) := ⟨T, rfl, st6, hp6⟩
    clear st6 hp6 hC5
    go_wp2
    go_ret
    exact HS6.out
  · clear hqy
    go_enter Tryd.func67, Tryd.ntmps67
    go_upto_region 4 with fail
    refine wp_region_quiet_tail 28 (by kernel_rfl) (by kernel_rfl) (by kernel_rfl) ?_
    simp only [List.take, List.drop]
    repeat (go_big_quiet_step (fail))
    refine wpQuiet_nil ?_
    rintro w' ⟨⟨dq, osq⟩, rfl⟩
    have hbq := below_regrown w dq osq
    generalize grow (redrawn w dq) osq = w5 at hbq ⊢
    have hC5 := hC w5 hbq
    clear hC k0 k1 k4 kP kU c0 c1 c4 cP cU
    go_wp2_with fail
    refine hC5.mono ?_
    rintro e w6 hs6
    obtain ⟨T, rfl, st6, hp6⟩ := hs6
    have HS6 : Hid (FitSays h w0 (.slice (some ⟨bP, oP, none⟩) n cp) (.slice (some ⟨bU, oU, none⟩) m cu) P U S r (.returned (.bool r)) w6) := ⟨T, rfl, st6, hp6⟩
    clear st6 hp6 hC5
    go_wp2
    go_ret
    exact HS6.out
end

section
open Go.RowKit Go.Sort

set_option maxRecDepth 100000 in
set_option maxHeartbeats 4000000 in
theorem fit_star (h : Nat) (w0 : World) (ap au : Option Addr) (cp cu : Nat) (P U : List ByteArray) (hz : w0.heap.size = h) (hP : TxtsAt w0 (.slice ap P.length cp) P) (hPl : P.length ≤ 1048576) (hUl : U.length ≤ 1048576) (p u : Nat) (hp : p < P.length) (hs : P[p]! = starT)
    (hu : u ≤ U.length) (ih1 : FitC h w0 (.slice ap P.length cp) (.slice au U.length cu) P U (p + 1) u) (ih2 : u < U.length → FitC h w0 (.slice ap P.length cp) (.slice au U.length cu) P U p (u + 1)) : FitC h w0 (.slice ap P.length cp) (.slice au U.length cu) P U p u := by
  rintro w S _ _ rfl rfl st hinv
  obtain ⟨⟨c0, c1⟩, c3, c4⟩ := st.cells
  obtain ⟨a', c', e0, -, hcP⟩ := hP
  cases e0
  obtain ⟨bP, oP, rfl, hbP, hP1⟩ := hcP p hp
  have cP := st.text hz hbP hP1
  have hpe : ((p : Int) == (P.length : Int)) = false := by rw [beq_eq_false_iff_ne]; omega
  have hpl : (p : Int) < (P.length : Int) := by omega
  have hp0 : (0 : Int) ≤ (p : Int) := by omega
  have hse : (P[p]!.toList == ([42] : List UInt8)) = true := by rw [hs]; simp [starT, ByteArray.toList_eq]
  have hF1 : ¬ u < U.length → fitA P U p u = fitA P U (p + 1) u := fun h => fitA_last hp hs (by omega)
  have hF2 : u < U.length → fitA P U p u = (fitA P U (p + 1) u || fitA P U p (u + 1)) := fun h => fitA_star hp hs h
  have hwp : IntKind.i64.wrap ((p : Int) + 1) = (p : Int) + 1 := by rw [IntKind.wrap_i64]; omega
  have hwu : IntKind.i64.wrap ((u : Int) + 1) = (u : Int) + 1 := by rw [IntKind.wrap_i64]; omega
  have b5 := (Below.refl w.heap.size w).alloc (Nat.le_refl _) (.cells #[.int .i64 (p : Int), .int .i64 (u : Int)] 77)
  have st5 := st.below b5
  have hb5 : (w.alloc (.cells #[.int .i64 (p : Int), .int .i64 (u : Int)] 77)).heap[w.heap.size]? = some (.cells #[.int .i64 (p : Int), .int .i64 (u : Int)] 77 (0, 0)) := heap_alloc_new w _
  have hne : w.heap.size ≠ h + 2 := by have := st.lt; omega
  have C1 := fun W T (s : FitSt h w0 (.slice (some ⟨bP, oP, none⟩) P.length cp) (.slice au U.length cu) W T) (hi : ∀ a b, T a b → fitA P U a b = false ∨ a + b < p + 1 + u) => ih1 W T ((p : Int) + 1) (u : Int) (by omega) rfl s hi
  have C2 := fun (hul : u < U.length) W T (s : FitSt h w0 (.slice (some ⟨bP, oP, none⟩) P.length cp) (.slice au U.length cu) W T) (hi : ∀ a b, T a b → fitA P U a b = false ∨ a + b < p + (u + 1)) => ih2 hul W T (p : Int) ((u : Int) + 1) rfl (by omega) s hi
  have HIN : Hid (∀ a b, S a b → fitA P U a b = false ∨ a + b < p + u) := hinv
  obtain ⟨r, HR⟩ : ∃ r, Hid (r = fitA P U p u) := ⟨_, rfl⟩
  rw [← HR.out] at hF1 hF2 ⊢
  have HF1 : Hid (¬ u < U.length → r = fitA P U (p + 1) u) := hF1
  have HF2 : Hid (u < U.length → r = (fitA P U (p + 1) u || fitA P U p (u + 1))) := hF2
  generalize P[p]! = x at *
  clear hinv hF1 hF2 hcP hP1 hbP ih1 ih2 hs hPl hUl
  go_enter Tryd.func67, Tryd.ntmps67
  go_upto_region 6 with fail
  generalize (w.alloc (.cells #[.int .i64 (p : Int), .int .i64 (u : Int)] 77)) = W5 at b5 st5 hb5 ⊢
  obtain ⟨v, sn, w1, hl1, hm1, hl2, hg1, hv0, hfin⟩ := (show QMap (h + 2) S W5.drew from st5.mp.kept rfl).count p u
  obtain ⟨w2, hes, hq2, hl3, hg2, hz2⟩ := hfin (IntKind.i64.wrap (v + 1))
  have st6 := (st5.below (Below.refl _ _).drew).put hg2 hq2
  have hb6 : w2.heap[w.heap.size]? = some (.cells #[.int .i64 (p : Int), .int .i64 (u : Int)] 77 (0, 0)) := (hg2.block _ (lt_of_block hb5) (fun e => hne (by injection e))).trans hb5
  obtain ⟨-, d3, -⟩ := st5.cells
  have e0 := cell_of_row W5 _ 0 _ _ (0, 0) hb5
  have e1 := cell_of_row W5 _ 1 _ _ (0, 0) hb5
  have f0 := cell_of_row w2 _ 0 _ _ (0, 0) hb6
  have f1 := cell_of_row w2 _ 1 _ _ (0, 0) hb6
  have hl1 : (Instr.lookup 75 (.map (some (h + 2))) (.agg #[.int .i64 (p : Int), .int .i64 (u : Int)]) false).run Tryd.prog W5.drew = .ok (.int .i64 v) W5.drew := hl1
  have hm1 : (Instr.mapEntry 75 (.map (some (h + 2))) (.agg #[.int .i64 (p : Int), .int .i64 (u : Int)])).run Tryd.prog W5.drew = .ok (.tuple #[.int .i64 v, .int .i64 sn]) w1 := hm1
  have hl2 : (Instr.lookup 75 (.map (some (h + 2))) (.agg #[.int .i64 (p : Int), .int .i64 (u : Int)]) false).run Tryd.prog w1 = .ok (.int .i64 v) w1 := hl2
  have hl3 : (Instr.lookup 75 (.map (some (h + 2))) (.agg #[.int .i64 (p : Int), .int .i64 (u : Int)]) false).run Tryd.prog w2 = .ok (.int .i64 (IntKind.i64.wrap (v + 1))) w2 := hl3
  dsimp at e0 e1 f0 f1
  have HV0 : Hid (¬ S p u → ¬ IntKind.i64.wrap (v + 1) > 1) := fun h => by
    rw [hv0 h]; decide
  have HST : Hid (FitSt h w0 (.slice (some ⟨bP, oP, none⟩) P.length cp) (.slice au U.length cu) w2 (fun c d => S c d ∨ (c = p ∧ d = u))) := st6
  obtain ⟨-, g3, g4⟩ := st6.cells
  clear st st5 st6 hb5 hb6 b5 hg1 hg2 hq2 hfin hv0 c0 c1 c3 c4 cP hz2 hse
  go_cut [] from 56 to 61 (fun wx => wx = w2)
  case first =>
    clear C1 C2
    go_region_with (fail)
    all_goals (try go_wp2_with fail)
    all_goals go_meet
    all_goals rfl
  case rest =>
    obtain rfl := hcut
    clear hl1 hm1 hl2 hes e0 e1 d3
    by_cases hx : IntKind.i64.wrap (v + 1) > 1
    · have hS : S p u := Classical.byContradiction fun h => HV0.out h hx
      have hr : r = false := HR.out.trans ((HIN.out p u hS).resolve_right (by omega))
      have HE : Hid (FitSays h w0 (.slice (some ⟨bP, oP, none⟩) P.length cp) (.slice au U.length cu) P U S r (.returned (.bool false)) wc) := ⟨_, by rw [hr], HST.out, fun _ a b hab => hab.elim .inl (fun e => by rw [e.1, e.2]; exact .inl hS)⟩
      clear HST HV0 HIN HF1 HF2 C1 C2 hS hr
      have hxd : decide (IntKind.i64.wrap (v + 1) > 1) = true := decide_eq_true hx
      generalize IntKind.i64.wrap (v + 1) = xv at hx hl3 hxd
      go_wp2
      go_ret
      exact HE.out
    · have H1 := C1 wc _ HST.out (fun a b hab => by
        rcases hab with hab | ⟨rfl, rfl⟩
        · exact (HIN.out a b hab).imp id (fun h => by omega)
        · exact .inr (by omega))
      have hxd : decide (IntKind.i64.wrap (v + 1) > 1) = false := decide_eq_false hx
      generalize IntKind.i64.wrap (v + 1) = xv at hx hl3 hxd
      have HI1 : Hid (∀ a b, (S a b ∨ (a = p ∧ b = u)) → S a b ∨ (a = p ∧ b = u)) := fun _ _ h => h
      clear HST HV0 C1
      go_upto_region 9 with fail
      clear f0 f1 g3 hl3 hxd hx
      go_wp2_with fail
      refine H1.mono ?_
      rintro e w3 hs3
      obtain ⟨T, rfl, st7, hT⟩ := hs3
      have HT : Hid (fitA P U (p + 1) u = false → ∀ a b, T a b → (S a b ∨ (a = p ∧ b = u)) ∨ fitA P U a b = false) := hT
      have HST : Hid (FitSt h w0 (.slice (some ⟨bP, oP, none⟩) P.length cp) (.slice au U.length cu) w3 T) := st7
      obtain ⟨⟨-, j1⟩, -, j4⟩ := st7.cells
      clear hT H1 HI1 g4 st7
      obtain ⟨r1, hr1⟩ : ∃ r, fitA P U (p + 1) u = r := ⟨_, rfl⟩
      rw [hr1]
      rw [hr1] at HF1 HF2 HT
      cases r1
      · by_cases hul : u < U.length
        · have H2 := C2 hul w3 T HST.out (fun a b hab => by
            rcases HT.out rfl a b hab with (h1 | ⟨rfl, rfl⟩) | h1
            · exact (HIN.out a b h1).imp id (fun h => by omega)
            · exact .inr (by omega)
            · exact .inl h1)
          have hF : r = fitA P U p (u + 1) := HF2.out hul
          rw [← hF] at H2
          have hulz : (u : Int) < (U.length : Int) := by omega
          have HEND : Hid (∀ e W, FitSays h w0 (.slice (some ⟨bP, oP, none⟩) P.length cp) (.slice au U.length cu) P U T r e W → FitSays h w0 (.slice (some ⟨bP, oP, none⟩) P.length cp) (.slice au U.length cu) P U S r e W) := fun e W hh => by
            obtain ⟨T2, he, hs, hh⟩ := hh
            refine ⟨T2, he, hs, fun hr a b hab => ?_⟩
            rcases hh hr a b hab with h1 | h1
            · rcases HT.out rfl a b h1 with (h2 | ⟨rfl, rfl⟩) | h2
              · exact .inl h2
              · exact .inr (HR.out.symm.trans hr)
              · exact .inr h2
            · exact .inr h1
          clear C2 HT HST HIN HF1 HF2 hF hr1 hul
          go_wp2_with fail
          refine H2.mono ?_
          rintro e w4 hs4
          have HS4 := HEND.out _ _ hs4
          obtain ⟨T2, rfl, -, -⟩ := hs4
          have HS4 : Hid (FitSays h w0 (.slice (some ⟨bP, oP, none⟩) P.length cp) (.slice au U.length cu) P U S r (.returned (.bool r)) w4) := HS4
          clear H2 HEND
          go_wp2
          go_ret
          exact HS4.out
        · have hF : r = false := HF1.out hul
          have hulz : ¬ (u : Int) < (U.length : Int) := by omega
          have HE : Hid (FitSays h w0 (.slice (some ⟨bP, oP, none⟩) P.length cp) (.slice au U.length cu) P U S r (.returned (.bool false)) w3) := by
            refine ⟨T, by rw [hF], HST.out, fun hr a b hab => ?_⟩
            rcases HT.out rfl a b hab with (h2 | ⟨rfl, rfl⟩) | h2
            · exact .inl h2
            · exact .inr (HR.out.symm.trans hr)
            · exact .inr h2
          clear C2 HT HST HIN HF1 HF2 hF hr1 hul
          go_wp2
          go_ret
          exact HE.out
      · have hF : r = true := by
          by_cases hul : u < U.length
          · have := HF2.out hul
            rwa [Bool.true_or] at this
          · exact HF1.out hul
        have HE : Hid (FitSays h w0 (.slice (some ⟨bP, oP, none⟩) P.length cp) (.slice au U.length cu) P U S r (.returned (.bool true)) w3) := ⟨T, by rw [hF], HST.out, fun hr => by rw [hF] at hr; cases hr⟩
        clear C2 HT HST HIN HF1 HF2 hF hr1
        go_wp2
        go_ret
        exact HE.out
end

end Go.Proofs.YtlkemmdcjnaepaaDoor
