/- Structs of 2 whole numbers (Range) compared, and two rows of them (laws.sameRanges). Made by mksame.py. -/
import Derived.Test.YtkpeabbilcmabaaRows
import Derived.Test.YtkpeabbilcmabaaRgR
import Derived.WalkKit
import Derived.WalkSpells
import Derived.WalkLawsBesides
import Derived.Deep.QuietTactic
import Derived.BigQuiet
import Derived.Deep.Onto
import Derived.Lib.QuietBelow
import Derived.LaidEql
namespace Go.Proofs.Ytkpeabbilcmabaa
open Go.RowKit

theorem neRg (x y : Rg) (w : World) : (binOp .neq 43 (.agg #[.int .i64 x.a, .int .i64 x.b]) (.agg #[.int .i64 y.a, .int .i64 y.b])).run Try.prog w = .ok (.bool (!decide (x = y))) w := by
  have u3 := Try.underlying3
  have a3 := Try.isAgg3
  have z3 := Try.sizeOf3
  have hS : Try.prog.underlying 43 = some (.struct (Try.prog.fieldsOf 43)) := by kernel_rfl
  have hp : Try.prog.stoodInHeld 43 = false := by kernel_rfl
  rw [run_neq_struct, show (10000 : Nat) = 9999 + 1 from rfl, run_equalIn_agg w 9999 43 _ _ hS hp]
  simp only [Program.fieldsOf, Try.underlying43]
  obtain ⟨x0, x1⟩ := x
  obtain ⟨y0, y1⟩ := y
  have hd : decide ((⟨x0, x1⟩ : Rg) = ⟨y0, y1⟩) = (decide (x0 = y0) && (decide (x1 = y1))) := by
    rw [Bool.eq_iff_iff]; simp
  rw [hd]
  go_simp
  by_cases h0 : x0 = y0 <;> by_cases h1 : x1 = y1 <;> simp [h0, h1]

set_option maxRecDepth 100000 in
set_option maxHeartbeats 1000000 in
theorem sameRg_any (u v : Value) (l m : List Rg) (w : World) (hu : RgsAt w u l) (hv : RgsAt w v m) (hl : l.length ≤ 4194304) :
    Calls Try.prog 15 #[u, v] w fun e w' => e = .returned (.bool (decide (l = m))) ∧ Below w.heap.size w w' := by
  have HNE : Hid (l.length ≠ m.length → decide (l = m) = false) := fun h => decide_eq_false fun e => h (by rw [e])
  have HNO : Hid (∀ k, k < l.length → l.length = m.length → l[k]! ≠ m[k]! → decide (l = m) = false) := fun k hk he h => decide_eq_false fun e => h (by rw [e])
  have HYS : Hid (l.length = m.length → (∀ t, t < l.length → l[t]! = m[t]!) → decide (l = m) = true) := fun he h => decide_eq_true (Rgs_ext l m he h)
  generalize decide (l = m) = r at HNE HNO HYS ⊢
  obtain ⟨a, ca, rfl, -, hua⟩ := hu
  obtain ⟨b, cb, rfl, -, hvb⟩ := hv
  obtain ⟨n, HN⟩ : ∃ n, Hid (n = l.length) := ⟨_, rfl⟩
  obtain ⟨n2, HN2⟩ : ∃ n2, Hid (n2 = m.length) := ⟨_, rfl⟩
  rw [← HN.out] at hua hl HNE HNO HYS ⊢
  rw [← HN2.out] at hvb HNE HNO HYS ⊢
  by_cases hne : n = n2
  · subst hne
    have HYS2 : Hid ((∀ t, t < n → l[t]! = m[t]!) → r = true) := HYS.out rfl
    have HNO2 : Hid (∀ k, k < n → l[k]! ≠ m[k]! → r = false) := fun k hk h => HNO.out k hk rfl h
    clear HYS HNO HNE
    go_enter Try.func15, Try.ntmps15
    go_wp2
    go_loopw [5] (fun i wr => ∃ k : Nat, k ≤ n ∧ i = .int .i64 k ∧ Hid (∀ t, t < k → l[t]! = m[t]!) ∧ Below w.heap.size w wr) (fun i _ => n - (intOf i).toNat)
    case atStart => exact ⟨0, Nat.zero_le _, rfl, fun t ht => by omega, Below.refl _ _⟩
    case round =>
      obtain ⟨k, hk, rfl, HE, hbel⟩ := hrel
      by_cases hlt : k < n
      · obtain ⟨b1, o1, rfl, hb1, hc1⟩ := hua k hlt
        obtain ⟨b2, o2, rfl, hb2, hc2⟩ := hvb k hlt
        have hc1 := hc1.below hb1 hbel
        have hc2 := hc2.below hb2 hbel
        have HN1 : Hid (l[k]! ≠ m[k]! → r = false) := HNO2.out k hlt
        have HE1 : Hid (l[k]! = m[k]! → ∀ t, t < k + 1 → l[t]! = m[t]!) := fun h t ht => by
          by_cases e : t = k
          · rw [e]; exact h
          · exact HE.out t (by omega)
        generalize l[k]! = x at hc1 HN1 HE1
        generalize m[k]! = y at hc2 HN1 HE1
        have hNE := fun w' => neRg x y w'
        obtain ⟨q, HQ⟩ : ∃ q : Bool, Hid (decide (x = y) = q) := ⟨_, rfl⟩
        rw [HQ.out] at hNE
        have HN3 : Hid (q = false → r = false) := fun h => HN1.out (fun e => by have := HQ.out; rw [h] at this; simp [e] at this)
        have HE2 : Hid (q = true → ∀ t, t < k + 1 → l[t]! = m[t]!) := fun h => HE1.out (by have := HQ.out; rw [h] at this; simpa using this)
        obtain ⟨x0, x1⟩ := x
        obtain ⟨y0, y1⟩ := y
        have p0 := cell_regrown hc1.c0
        have q0 := cell_regrown hc2.c0
        have p1 := cell_regrown hc1.c1
        have q1 := cell_regrown hc2.c1
        dsimp only at p0 q0 p1 q1 hNE
        have hkn : (k : Int) < (n : Int) := by omega
        have hk0 : (0 : Int) ≤ (k : Int) := by omega
        clear hc1 hc2 hua hvb HN1 HE1 HNO2 HYS2 HQ
        cases q
        · have hr := HN3.out rfl
          subst hr
          go_wp2
          refine wp_region_quiet_below (by kernel_rfl) (by kernel_rfl) ?_
          repeat (go_big_quiet_step (fail))
          refine wpQuiet_nil ?_
          rintro w' ⟨⟨dq, osq⟩, rfl⟩
          have hbq := below_regrown wr dq osq
          generalize Go.Sort.grow (redrawn wr dq) osq = w6 at hbq ⊢
          have hb6 : Below w.heap.size w w6 := hbel.trans (hbq.mono hbel.size)
          go_wp2
          go_ret
          exact ⟨rfl, hb6⟩
        · go_wp2
          refine wp_region_quiet_below (by kernel_rfl) (by kernel_rfl) ?_
          repeat (go_big_quiet_step (fail))
          refine wpQuiet_nil ?_
          rintro w' ⟨⟨dq, osq⟩, rfl⟩
          have hbq := below_regrown wr dq osq
          generalize Go.Sort.grow (redrawn wr dq) osq = w6 at hbq ⊢
          have hb6 : Below w.heap.size w w6 := hbel.trans (hbq.mono hbel.size)
          go_wp2
          go_roundw
          case rel => exact ⟨k + 1, by omega, by go_num, HE2.out trivial, hb6⟩
          case measure => simp [intOf]; omega
      · obtain rfl : k = n := by omega
        have hr := HYS2.out HE.out
        subst hr
        clear hua hvb HNO2 HYS2
        go_wp2
        go_ret
        exact ⟨rfl, hbel⟩
  · have hr := HNE.out hne
    subst hr
    have hz : ((n : Int) != (n2 : Int)) = true := by simp; omega
    clear hua hvb HNO HNE HYS
    go_enter Try.func15, Try.ntmps15
    go_wp2
    go_ret
    exact ⟨rfl, Below.refl _ _⟩

end Go.Proofs.Ytkpeabbilcmabaa
