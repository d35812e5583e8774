/- Devices: spec.l8WriteOk, spec.DevOk; spec.NewDev, impl.NewDev. -/
import Derived.Test.YtpmdhoiodbjojaaRows
import Derived.Test.YtpmdhoiodbjojaaLDw
namespace Go.Proofs.Ytpmdhoiodbjojaa
open Go.RowKit

/-- a boxed pair and all that was there before it -/
theorem box_dev {w wr : World} {a u : Value} {T : TypeId} (hb : Below (w.heap.size + 1) (w.alloc (.cells #[a, u] T)) wr) : wr.cell? ⟨w.heap.size, 0, none⟩ = some a ∧ wr.cell? ⟨w.heap.size, 1, none⟩ = some u := by
  have key : ∀ j : Nat, wr.cell? ⟨w.heap.size, j, none⟩ = (w.alloc (.cells #[a, u] T)).cell? ⟨w.heap.size, j, none⟩ := fun j => hb.cell (p := ⟨w.heap.size, j, none⟩) (by show w.heap.size < _; omega)
  constructor <;> rw [key, World.cell?_alloc_mark] <;> rfl

set_option maxRecDepth 100000 in
set_option maxHeartbeats 1000000 in
theorem l8WriteOk_any (x : Wr) (w : World) :
    Calls Try.prog 39 #[.agg #[.int .i64 x.block, .string x.text]] w fun e w' => e = .returned (.bool (wrB x)) ∧ Below w.heap.size w w' := by
  obtain ⟨b, t⟩ := x
  have hb := below_lit w (.cells #[.int .i64 b, .string t] 35)
  have HR : Hid (∀ r : Bool, (r = true ↔ 0 ≤ b ∧ b < 18 ∧ (t.size : Int) ≤ 4000) → wrB ⟨b, t⟩ = r) := fun r hr => by
    unfold wrB
    rw [Bool.eq_iff_iff, hr, decide_eq_true_eq]
    dsimp only
    omega
  dsimp only
  generalize wrB ⟨b, t⟩ = r at HR ⊢
  by_cases h0 : 0 ≤ b
  · by_cases h1 : b < 18
    · by_cases h2 : (t.size : Int) ≤ 4000
      · have hr : Hid (r = true) := HR.out true (by simp [h0, h1, h2])
        go_enter Try.func39, Try.ntmps39
        go_wp2
        go_ret
        exact ⟨ret_bool hr.out.symm, hb⟩
      · have hr : Hid (r = false) := HR.out false (by simp [h2])
        go_enter Try.func39, Try.ntmps39
        go_wp2
        go_ret
        exact ⟨ret_bool hr.out.symm, hb⟩
    · have hr : Hid (r = false) := HR.out false (by simp [h1])
      go_enter Try.func39, Try.ntmps39
      go_wp2
      go_ret
      exact ⟨ret_bool hr.out.symm, hb⟩
  · have hr : Hid (r = false) := HR.out false (by simp [h0])
    go_enter Try.func39, Try.ntmps39
    go_wp2
    go_ret
    exact ⟨ret_bool hr.out.symm, hb⟩

set_option maxRecDepth 100000 in
set_option maxHeartbeats 1000000 in
theorem sDevOk (v : Value) (d : Dv) (w : World) (hl : d.blocks.length ≤ 9223372036854775807) (hl2 : d.pend.length ≤ 9223372036854775807) (hv : DevAt w v d) :
    Calls Try.prog 12 #[v] w fun e w' => e = .returned (.bool (devB d)) ∧ Below w.heap.size w w' := by
  obtain ⟨a, b, rfl, ha, hb⟩ := hv
  obtain ⟨aa, ca, rfl, -, ha⟩ := ha
  obtain ⟨bb, cb, rfl, -, hb⟩ := hb
  have HB := devB_iff d
  have HF : Hid (¬ ((d.blocks.length = 18 ∧ d.pend.length ≤ 40) ∧ (∀ t, t < d.blocks.length → d.blocks[t]!.size ≤ 4000) ∧ ∀ t, t < d.pend.length → wrB d.pend[t]! = true) → devB d = false) := fun h => by
    rw [Bool.eq_false_iff]; exact fun e => h (by have := HB.1 e; exact ⟨this.1, this.2.1, fun t ht => by unfold wrB; exact decide_eq_true (this.2.2 t ht)⟩)
  have HY : Hid ((d.blocks.length = 18 ∧ d.pend.length ≤ 40) → (∀ t, t < d.blocks.length → d.blocks[t]!.size ≤ 4000) → (∀ t, t < d.pend.length → wrB d.pend[t]! = true) → devB d = true) := fun h1 h2 h3 => HB.2 ⟨h1, h2, fun t ht => by have := h3 t ht; unfold wrB at this; exact of_decide_eq_true this⟩
  clear HB
  generalize devB d = r at HF HY ⊢
  obtain ⟨bl, pn⟩ := d
  dsimp only at *
  have B0 := below_lit w (.cells #[.slice aa bl.length ca, .slice bb pn.length cb] 27)
  have S0 : (w.alloc (.cells #[.slice aa bl.length ca, .slice bb pn.length cb] 27)).heap.size = w.heap.size + 1 := by simp
  obtain ⟨n, HN⟩ : ∃ n, Hid (n = bl.length) := ⟨_, rfl⟩
  obtain ⟨m, HM⟩ : ∃ m, Hid (m = pn.length) := ⟨_, rfl⟩
  rw [← HN.out] at ha hl HF HY B0 S0 ⊢
  rw [← HM.out] at hb hl2 HF HY B0 S0 ⊢
  by_cases h18 : n = 18
  · have f18 : ((n : Int) != 18) = false := by simp; omega
    have H18 : Hid (n = 18) := h18
    clear h18
    by_cases h40 : m ≤ 40
    · have f40 : ¬ ((40 : Int) < (m : Int)) := by omega
      go_enter Try.func12, Try.ntmps12
      go_wp2
      have B0' := B0
      generalize HWW : w.alloc (.cells #[.slice aa n ca, .slice bb m cb] 27) = W at B0 S0 ⊢
      have HBX : Hid (∀ wr, Below (w.heap.size + 1) W wr → wr.cell? ⟨w.heap.size, 0, none⟩ = some (.slice aa n ca) ∧ wr.cell? ⟨w.heap.size, 1, none⟩ = some (.slice bb m cb)) := fun wr h => box_dev (by rw [HWW]; exact h)
      clear HWW B0'
      go_loopw [3] (fun i wr => ∃ k : Nat, k ≤ n ∧ i = .int .i64 k ∧ Hid (∀ t, t < k → bl[t]!.size ≤ 4000) ∧ Below (w.heap.size + 1) W wr) (fun i _ => n - (intOf i).toNat)
      case atStart => exact ⟨0, Nat.zero_le _, rfl, fun t ht => by omega, Below.refl _ _⟩
      case round =>
        obtain ⟨k, hk, rfl, HEQ, hbel⟩ := hrel
        obtain ⟨x0, x1⟩ := HBX.out _ hbel
        have BW := B0.trans (hbel.mono (by omega))
        by_cases hlt : k < n
        · obtain ⟨b1, o1, rfl, hb1, hc1⟩ := ha k hlt
          have hc1 := (BW.cell (p := ⟨b1, o1 + k, none⟩) hb1).trans hc1
          have HX : Hid (bl[k]!.size ≤ 4000 → ∀ t, t < k + 1 → bl[t]!.size ≤ 4000) := fun h t ht => by
            by_cases e : t = k
            · rw [e]; exact h
            · exact HEQ.out t (by omega)
          have HNO : Hid (¬ bl[k]!.size ≤ 4000 → r = false) := fun h => HF.out fun hh => h (hh.2.1 k hlt)
          generalize bl[k]! = y at hc1 HX HNO
          have hkn : (k : Int) < (n : Int) := by omega
          have hk0 : (0 : Int) ≤ (k : Int) := by omega
          clear ha
          by_cases hy : y.size ≤ 4000
          · have hy' : ¬ ((4000 : Int) < (y.size : Int)) := by omega
            have HX' : Hid _ := HX.out hy
            clear HX HNO
            go_wp2
            go_roundw
            case rel => exact ⟨k + 1, by omega, by go_num, HX', hbel⟩
            case measure => simp [intOf]; omega
          · have hy' : (4000 : Int) < (y.size : Int) := by omega
            have hr : Hid (r = false) := HNO.out hy
            clear HX HNO
            go_wp2
            go_ret
            exact ⟨ret_bool hr.out.symm, BW⟩
        · obtain rfl : k = n := by omega
          go_wp2
          go_loopw [4] (fun i wr => ∃ j : Nat, j ≤ m ∧ i = .int .i64 j ∧ Hid (∀ t, t < j → wrB pn[t]! = true) ∧ Below (w.heap.size + 1) W wr) (fun i _ => m - (intOf i).toNat)
          case atStart => exact ⟨0, Nat.zero_le _, rfl, fun t ht => by omega, hbel⟩
          case round =>
            obtain ⟨j, hj, rfl, HEP, hbel2⟩ := hrel
            obtain ⟨z0, z1⟩ := HBX.out _ hbel2
            have BW2 := B0.trans (hbel2.mono (by omega))
            by_cases hlt2 : j < m
            · obtain ⟨b1, o1, rfl, hb1, hc1⟩ := hb j hlt2
              have hc1 := hc1.below hb1 BW2
              have HX : Hid (wrB pn[j]! = true → ∀ t, t < j + 1 → wrB pn[t]! = true) := fun h t ht => by
                by_cases e : t = j
                · rw [e]; exact h
                · exact HEP.out t (by omega)
              have HNO : Hid (¬ wrB pn[j]! = true → r = false) := fun h => HF.out fun hh => h (hh.2.2 j hlt2)
              generalize pn[j]! = y at hc1 HX HNO
              have HT := fun w' => l8WriteOk_any y w'
              have c0 := hc1.c0
              have c1 := hc1.c1
              have hkn : (j : Int) < (m : Int) := by omega
              have hk0 : (0 : Int) ≤ (j : Int) := by omega
              clear hb hc1 ha
              generalize wrB y = q at HT HX HNO
              cases q with
              | true =>
                have HX' : Hid _ := HX.out rfl
                clear HX HNO
                go_wp2_with (go_at_call 39; refine (HT _).mono ?_; rintro e w2 ⟨rfl, b2⟩)
                go_roundw
                case rel => exact ⟨j + 1, by omega, by go_num, HX', hbel2.trans (b2.mono (by have := hbel2.size; omega))⟩
                case measure => simp [intOf]; omega
              | false =>
                have hr : Hid (r = false) := HNO.out (by simp)
                clear HX HNO
                go_wp2_with (go_at_call 39; refine (HT _).mono ?_; rintro e w2 ⟨rfl, b2⟩)
                go_ret
                exact ⟨ret_bool hr.out.symm, BW2.trans (b2.mono BW2.size)⟩
            · obtain rfl : j = m := by omega
              have hr : Hid (r = true) := HY.out ⟨H18.out, h40⟩ HEQ.out HEP.out
              go_wp2
              go_ret
              exact ⟨ret_bool hr.out.symm, BW2⟩
    · have f40 : (40 : Int) < (m : Int) := by omega
      have hr : Hid (r = false) := HF.out fun h => h40 h.1.2
      go_enter Try.func12, Try.ntmps12
      go_wp2
      go_ret
      exact ⟨ret_bool hr.out.symm, B0⟩
  · have f18 : ((n : Int) != 18) = true := by simp; omega
    have hr : Hid (r = false) := HF.out fun h => h18 h.1.1
    go_enter Try.func12, Try.ntmps12
    go_wp2
    go_ret
    exact ⟨ret_bool hr.out.symm, B0⟩

end Go.Proofs.Ytpmdhoiodbjojaa
