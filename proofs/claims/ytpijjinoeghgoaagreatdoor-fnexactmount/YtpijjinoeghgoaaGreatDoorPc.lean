/- strings.Clone. Blocks, impl: the cursor's pieces. Blocks, impl: the cursor's pieces and entries. -/
import Derived.Test.YtpijjinoeghgoaaGreatDoorRows
import Derived.Test.YtpijjinoeghgoaaGreatDoorMl
import Derived.Test.YtpijjinoeghgoaaGreatDoorQa
import Derived.Test.YtpijjinoeghgoaaGreatDoorQb
import Derived.Test.YtpijjinoeghgoaaGreatDoorMm
import Derived.Test.YtpijjinoeghgoaaGreatDoorMr
import Derived.WalkKit
import Derived.WalkSpells
import Derived.WalkLawsBesides
namespace Go.Proofs.YtpijjinoeghgoaaGreatDoor

section
open Go.RowKit

theorem clone_text (s : ByteArray) (w : World) (hs : s.size ≤ 1048576) : Calls Tryz.prog 97 #[.string s] w fun e w' => e = .returned (.string s) ∧ Below w.heap.size w w' := by
  have H := fun w' => Any.stringslite_Clone Tryz.laysM316 s w' (by omega)
  have H : ∀ w', Calls Tryz.prog 114 #[.string s] w' fun e w'' => e = .returned (.string s) ∧ Below w'.heap.size w' w'' := H
  go_enter Tryz.func97, Tryz.ntmps97
  go_wp2_with (go_at_call 114; refine (H _).mono ?_; rintro e w1 ⟨rfl, b1⟩)
  go_ret
  exact ⟨rfl, b1⟩
end

section
open Go.RowKit Go.Sort

theorem numR_len {l : List UInt8} {p : Int × List UInt8} (h : numR l = some p) : p.2.length < l.length ∧ 0 ≤ p.1 ∧ p.1 ≤ 562949953421311 := by
  unfold numR at h
  split at h
  · cases h
  · cases h
    have h1 := rdK_le l
    have h2 := rdN_in l
    exact ⟨by simp; omega, h2⟩
theorem takR_len {n : Int} {l : List UInt8} {p : List UInt8 × List UInt8} (h : takR n l = some p) : p.1.length ≤ l.length ∧ p.2.length ≤ l.length := by
  unfold takR at h
  split at h
  · cases h
  · cases h
    simp only [List.length_take, List.length_drop]
    omega
theorem pieR_len {l : List UInt8} {p : List UInt8 × List UInt8} (h : pieR l = some p) : p.1.length ≤ l.length ∧ p.2.length < l.length := by
  unfold pieR at h
  cases h1 : numR l with
  | none => rw [h1] at h; cases h
  | some q =>
    rw [h1] at h
    have h2 := numR_len h1
    have h3 := takR_len (show takR q.1 q.2 = some p from h)
    omega

set_option maxRecDepth 100000 in
set_option maxHeartbeats 1000000 in
theorem piece_any (b : Nat) (l : List UInt8) (T : TypeId) (x : Value) (w : World) (hE : ErrV w T x) (h : CurSt w b l) (hl : l.length ≤ 1048576) :
    Calls Tryz.prog 75 #[.pointer (some ⟨b, 0, none⟩)] w fun e w' => Says (pieR l) (fun p => .string (bA p)) T x b w e w' := by
  have HN := number_any b l T x w hE h hl
  have hb := h.2
  cases hn : numR l with
  | none =>
    have ht : Hid (∀ e w', (e = .panicked [{ v := .iface T x, recovered := false }] ∧ w.grownBy w' (some b)) → Says (pieR l) (fun p => .string (bA p)) T x b w e w') := fun e w' h => .inr ⟨by unfold pieR; rw [hn]; rfl, h⟩
    rw [hn] at HN
    generalize pieR l = o at *
    go_enter Tryz.func75, Tryz.ntmps75
    go_wp2_with fail
    refine HN.mono ?_
    rintro e w1 hs
    rcases hs with ⟨p, hp, -⟩ | ⟨-, rfl, hg⟩
    · cases hp
    · go_wp2
      exact ⟨rfl, ht.out _ _ ⟨rfl, hg⟩⟩
  | some p =>
    obtain ⟨n, r⟩ := p
    have hln := numR_len hn
    dsimp only at hln
    rw [hn] at HN
    have hpi : pieR l = takR n r := by unfold pieR; rw [hn]; rfl
    rw [hpi]
    go_enter Tryz.func75, Tryz.ntmps75
    go_wp2_with fail
    refine HN.mono ?_
    rintro e w1 hs
    rcases hs with ⟨p, hp, rfl, hc1, hg1⟩ | ⟨hp, -⟩
    · cases hp
      dsimp only at hc1 ⊢
      have HT := take_any b r n T x w1 (hE.grown hg1 hb) hc1 hln.2.1
      cases ht0 : takR n r with
      | none =>
        rw [ht0] at HT
        have ht : Hid (∀ e w', (e = .panicked [{ v := .iface T x, recovered := false }] ∧ w.grownBy w' (some b)) → Says (takR n r) (fun p => .string (bA p)) T x b w e w') := fun e w' h => .inr ⟨ht0, h⟩
        go_wp2_with fail
        refine HT.mono ?_
        rintro e w2 hs
        rcases hs with ⟨p, hp, -⟩ | ⟨-, rfl, hg2⟩
        · cases hp
        · go_wp2
          exact ⟨rfl, ht.out _ _ ⟨rfl, gbr_trans hg1 hg2⟩⟩
      | some p =>
        obtain ⟨s, r2⟩ := p
        have hlt := takR_len ht0
        dsimp only at hlt
        rw [ht0] at HT
        have ht : Hid (∀ e w', (e = .returned (.string (bA s)) ∧ CurSt w' b r2 ∧ w.grownBy w' (some b)) → Says (takR n r) (fun p => .string (bA p)) T x b w e w') := fun e w' h => .inl ⟨(s, r2), ht0, h⟩
        go_wp2_with fail
        refine HT.mono ?_
        rintro e w2 hs
        rcases hs with ⟨p, hp, rfl, hc2, hg2⟩ | ⟨hp, -⟩
        · cases hp
          dsimp only at hc2 ⊢
          have HC := clone_text (bA s) w2 (by rw [bA_size]; omega)
          go_wp2_with fail
          refine HC.mono ?_
          rintro e w3 ⟨rfl, b3⟩
          go_wp2
          go_ret
          exact ht.out _ _ ⟨rfl, hc2.below b3, gbr_trans (gbr_trans hg1 hg2) (gbi_of_below b3)⟩
        · cases hp
    · cases hp

theorem gb_set_new {w w' : World} {b g : Nat} (h : w.grownBy w' (some b)) (hg : w.heap.size ≤ g) (o : Nat) (v : Value) : w.grownBy (w'.setCell ⟨g, o, none⟩ v) (some b) :=
  ⟨h.os, h.tape, h.output, by have := h.size; simpa [World.setCell] using this, fun k hk hn => (Below.heap_setCell _ _ _ k (by show k ≠ g; omega)).trans (h.block k hk hn)⟩
theorem CurSt.set {w : World} {b g : Nat} {l : List UInt8} (h : CurSt w b l) (hg : b ≠ g) (o : Nat) (v : Value) : CurSt (w.setCell ⟨g, o, none⟩ v) b l :=
  ⟨(Below.heap_setCell _ _ _ b hg).trans h.1, h.2⟩
end

section
open Go.RowKit Go.Sort

/-- an entry's value -/
def valE (e : En) : Value := .agg #[.int .i64 e.hash, .int .i64 e.index, .string e.name, .int .i64 e.id]

theorem results_one_ent {fn : Func} {p : Tmp} (h : fn.results = #[.cell p 77]) (tmps : Array Value) (w : World) (g : Nat) (cs : Array Value) (hc : cs.size = 4)
    (hp : tmps.getD p undef = .pointer (some ⟨g, 0, none⟩)) (hg : w.heap[g]? = some (.cells cs 77 (0, 0))) :
    (results fn tmps).run Tryz.prog w = .ok (.agg cs) w := by
  have hi : (Tryz.prog.info? 77).map (·.size) = some cs.size := by rw [hc]; kernel_rfl
  have hr := run_loadVar_row (P := Tryz.prog) w g 77 77 cs (0, 0) _ hg Tryz.underlying77 rfl hi
  have hp' : tmps[p]?.getD undef = .pointer (some ⟨g, 0, none⟩) := by simpa using hp
  simp [results, h, hp', asAddr, hr]
theorem Tabs.grown {w w' : World} {b : Nat} {l : List UInt8} (h : Tabs w) (hc : CrcTab w) (hb : CurSt w b l) (g : w.grownBy w' (some b)) : Tabs w' ∧ CrcTab w' := by
  have key : ∀ (q o : Nat) (v : Value), w.cell? ⟨q, o, none⟩ = some v → (∀ s, v ≠ .string s) → w'.cell? ⟨q, o, none⟩ = some v := fun q o v hv hn => by
    by_cases e : q = b
    · subst e
      by_cases ho : o = 0
      · subst ho
        have h0 : w.cell? ⟨q, 0, none⟩ = some (.string (bA l)) := Joins.cell_of_block hb.1 0
        rw [h0] at hv
        exact absurd (Option.some.inj hv).symm (hn _)
      · have h1 : w.cell? ⟨q, o, none⟩ = #[Value.string (bA l)][o]? := Joins.cell_of_block hb.1 o
        rw [h1, Array.getElem?_eq_none (by simp; omega)] at hv
        cases hv
    · exact (World.cell?_of_block (g.block q (World.block_lt_of_cell? w _ hv) (fun e2 => e (Option.some.inj e2)))).trans hv
  exact ⟨⟨fun i hi => key _ _ _ (h.kn i hi) (fun s e => by cases e), ⟨fun c hc => key _ _ _ (h.utf.1 c hc) (fun s e => by cases e), fun i hi => ⟨key _ _ _ (h.utf.2 i hi).1 (fun s e => by cases e), key _ _ _ (h.utf.2 i hi).2 (fun s e => by cases e)⟩⟩⟩, fun i hi => key _ _ _ (hc i hi) (fun s e => by cases e)⟩

set_option maxRecDepth 100000 in
set_option maxHeartbeats 1000000 in
theorem ent_any (b : Nat) (l : List UInt8) (T : TypeId) (x : Value) (w : World) (hT : Tabs w) (hC : CrcTab w) (hE : ErrV w T x) (h : CurSt w b l) (hl : l.length ≤ 1048576) :
    Calls Tryz.prog 76 #[.pointer (some ⟨b, 0, none⟩)] w fun e w' => Says (entR l) valE T x b w e w' := by
  have B0 := below_lit w (.cells #[.int .i64 0, .int .i64 0, .string ⟨#[]⟩, .int .i64 0] 77)
  have hh0 : (w.alloc (.cells #[.int .i64 0, .int .i64 0, .string ⟨#[]⟩, .int .i64 0] 77)).heap[w.heap.size]? = some (.cells #[.int .i64 0, .int .i64 0, .string ⟨#[]⟩, .int .i64 0] 77 (0, 0)) := heap_alloc_new _ _
  obtain ⟨w0, HW0⟩ : ∃ w0, Hid (w0 = w.alloc (.cells #[.int .i64 0, .int .i64 0, .string ⟨#[]⟩, .int .i64 0] 77)) := ⟨_, rfl⟩
  rw [← HW0.out] at B0 hh0
  have hg0 : w.heap.size < w0.heap.size := lt_of_block hh0
  have hbl : b < w.heap.size := h.lt
  have h0 := h.below B0
  have E0 := hE.below B0
  have T0 := hT.below B0
  have C0 := hC.below B0
  have hb := h.2
  have g00 : w.grownBy w0 (some b) := gbi_of_below B0
  have HP : Hid (∀ e w', (entR l = none ∧ e = .panicked [{ v := .iface T x, recovered := false }] ∧ w.grownBy w' (some b)) → Says (entR l) valE T x b w e w') := fun e w' h => .inr h
  have HR : Hid (∀ p e w', (entR l = some p ∧ e = .returned (valE p.1) ∧ CurSt w' b p.2 ∧ w.grownBy w' (some b)) → Says (entR l) valE T x b w e w') := fun p e w' h => .inl ⟨p, h⟩
  have HN := number_any b l T x w0 E0 h0 hl
  go_enter Tryz.func76, Tryz.ntmps76
  go_wp2_with fail
  rw [← HW0.out]
  refine HN.mono ?_
  rintro e w1 hs
  rcases hs with ⟨⟨i, r1⟩, hn1, rfl, hc1, hg1⟩ | ⟨hn1, rfl, hg1⟩
  · have hl1 := numR_len hn1
    dsimp only at hc1 hl1 ⊢
    have E1 := E0.grown hg1 hb
    have T1 := T0.grown C0 h0 hg1
    have HP1 := piece_any b r1 T x w1 E1 hc1 (by omega)
    go_wp2_with fail
    refine HP1.mono ?_
    rintro e w2 hs
    rcases hs with ⟨⟨nm, r2⟩, hn2, rfl, hc2, hg2⟩ | ⟨hn2, rfl, hg2⟩
    · have hl2 := pieR_len hn2
      dsimp only at hc2 hl2 ⊢
      have E2 := E1.grown hg2 hb
      have T2 := T1.1.grown T1.2 hc1 hg2
      have HN2 := number_any b r2 T x w2 E2 hc2 (by omega)
      go_wp2_with fail
      refine HN2.mono ?_
      rintro e w3 hs
      rcases hs with ⟨⟨d, r3⟩, hn3, rfl, hc3, hg3⟩ | ⟨hn3, rfl, hg3⟩
      · have hl3 := numR_len hn3
        dsimp only at hc3 hl3 ⊢
        have T3 := T2.1.grown T2.2 hc2 hg3
        have HH := iHashOf (bA nm) w3 T3.1 T3.2 (by rw [bA_size]; omega)
        have hent : entR l = some (⟨hashN (bA nm), i, bA nm, d⟩, r3) := by unfold entR; rw [hn1]; simp only [Option.bind_some]; rw [hn2]; simp only [Option.bind_some]; rw [hn3]; rfl
        have g3 : w0.grownBy w3 (some b) := gbr_trans (gbr_trans hg1 hg2) hg3
        have HR3 : Hid (∀ w', CurSt w' b r3 → w.grownBy w' (some b) → Says (entR l) valE T x b w (.returned (.agg #[.int .i64 (hashN (bA nm)), .int .i64 i, .string (bA nm), .int .i64 d])) w') := fun w' h1 h2 => HR.out _ _ _ ⟨hent, rfl, h1, h2⟩
        clear hent HR HP HN HP1 HN2
        generalize hashN (bA nm) = hv at *
        generalize bA nm = nms at *
        go_wp2_with fail
        refine HH.mono ?_
        rintro e w4 ⟨rfl, b4⟩
        have hh4 := (b4.block w.heap.size (by have := g3.size; omega)).trans ((g3.block w.heap.size hg0 (by simp; omega)).trans hh0)
        obtain ⟨⟨⟨k0, k1⟩, k2, k3⟩, ⟨f0, f1⟩, f2, f3⟩ := block_cells hh4
        have g4 : w.grownBy w4 (some b) := gbr_trans (gbr_trans g00 g3) (gbi_of_below b4)
        have c4 := hc3.below b4
        have hne : b ≠ w.heap.size := by omega
        have hpc := put_cells w4 w.heap.size _ _ _ _ _ (.int .i64 hv) (.int .i64 i) (.string nms) (.int .i64 d) hh4
        have c5 := (((c4.set hne 0 (.int .i64 hv)).set hne 1 (.int .i64 i)).set hne 2 (.string nms)).set hne 3 (.int .i64 d)
        have g5 := gb_set_new (gb_set_new (gb_set_new (gb_set_new g4 (Nat.le_refl _) 0 (.int .i64 hv)) (Nat.le_refl _) 1 (.int .i64 i)) (Nat.le_refl _) 2 (.string nms)) (Nat.le_refl _) 3 (.int .i64 d)
        have HF : Hid _ := HR3.out _ c5 g5
        clear HH
        go_wp2
        exact bodyPost_ret (results_one_ent Tryz.results76 _ _ w.heap.size _ rfl rfl hpc) rfl HF.out
      · go_wp2
        exact ⟨rfl, HP.out _ _ ⟨by unfold entR; rw [hn1]; simp only [Option.bind_some]; rw [hn2]; simp only [Option.bind_some]; rw [hn3]; rfl, rfl, gbr_trans (gbr_trans (gbr_trans g00 hg1) hg2) hg3⟩⟩
    · go_wp2
      exact ⟨rfl, HP.out _ _ ⟨by unfold entR; rw [hn1]; simp only [Option.bind_some]; rw [hn2]; rfl, rfl, gbr_trans (gbr_trans g00 hg1) hg2⟩⟩
  · go_wp2
    exact ⟨rfl, HP.out _ _ ⟨by unfold entR; rw [hn1]; rfl, rfl, gbr_trans g00 hg1⟩⟩
end

end Go.Proofs.YtpijjinoeghgoaaGreatDoor
