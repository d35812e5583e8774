/-
  Proved: at every call, impl.CallOk answers as spec.CallOk does, both return, and the argument reads behind the call as it did before it (no condition beyond the row's own).
-/
import Derived.Test.YtgjehmobafkjfaaRows
import Derived.Test.YtgjehmobafkjfaaVcA
import Derived.Test.YtgjehmobafkjfaaOpC
import Derived.WalkKit
import Derived.WalkSpells
import Derived.WalkLawsBesides
import Derived.ProofKit
import Derived.OpenShut
import Derived.ShutString
import Derived.ChangeOld
import Derived.Below
import Derived.Carry
namespace Go.Proofs.Ytgjehmobafkjfaa.fnExactCallOk
open Go.ChangeShapes Go.WideShapes Go.ChangeAt Go.RowKit
open Go.ChangeMaps (open_string shut_string)
set_option linter.unusedVariables false      -- a walk need not use every 'w<i>' (that an integer argument fits its kind)

theorem own : ownKnob Try.prog.godebug = none := by kernel_rfl

theorem laidOut : laidOutB Try.prog = true := by kernel_rfl
set_option maxRecDepth 100000 in
set_option maxHeartbeats 1000000 in
theorem walk (c : Ca) (w : World) (h1 : c.name.size ≤ maxLen) (h2 : c.as_.size ≤ maxLen) (h3 : c.data.size ≤ maxLen) :
    Calls Try.prog 4 #[encC c] w fun e w' => e = .returned (.bool true) ∧ Below w.heap.size w w' := by
  unfold maxLen at h1 h2 h3
  have HZ := fun w' => szCall_any c 1048576 w' (by omega) (by omega) (by omega) (by omega)
  have HT := fun w' => toCall_any c w'
  have HS := fun w' => sCallOk c w' (by omega) (by omega) (by omega)
  have HI := fun w' => iCallOk c w' (by omega) (by omega) (by omega)
  generalize callB c = q at HS HI
  obtain ⟨k, d, n, t, a, s⟩ := c
  unfold encC at *
  dsimp only at HZ HT HS HI ⊢
  go_enter Try.func4, Try.ntmps4
  go_wp2_with fail
  refine (HZ _).mono ?_
  rintro e w1 ⟨r, rfl, hr1, -, b1⟩
  have B0 := below_lit w (.cells #[.int .i64 k, .int .i64 d, .string n, .int .i64 t, .string a, .string s] 30)
  have B1 := b1.mono (B' := w.heap.size + 1) (by simp)
  obtain ⟨p0, p1, p2, p3, p4, p5⟩ := box_call B1
  by_cases hr : r < 0
  · go_wp2
    go_ret
    exact ⟨rfl, B0.trans (B1.mono (by omega))⟩
  · go_wp2_with fail
    refine (HT _).mono ?_
    rintro e w2 ⟨rfl, b2⟩
    have B2 := B1.trans (b2.mono (by have := B1.size; simpa using this))
    obtain ⟨p0, p1, p2, p3, p4, p5⟩ := box_call B2
    go_wp2_with fail
    refine (HS _).mono ?_
    rintro e w3 ⟨rfl, b3⟩
    have B3 := B2.trans (b3.mono (by have := B2.size; simpa using this))
    obtain ⟨p0, p1, p2, p3, p4, p5⟩ := box_call B3
    go_wp2_with fail
    refine (HT _).mono ?_
    rintro e w4 ⟨rfl, b4⟩
    have B4 := B3.trans (b4.mono (by have := B3.size; simpa using this))
    go_wp2_with fail
    refine (HI _).mono ?_
    rintro e w5 ⟨rfl, b5⟩
    have B5 := B4.trans (b5.mono (by have := B4.size; simpa using this))
    go_wp2
    go_ret
    exact ⟨rfl, B0.trans (B5.mono (by omega))⟩

/-! ### THE ROW's STEP: WRITTEN OUT: LEAVE IT -/
set_option maxRecDepth 100000 in
theorem lifted (os : Os) (started : os.Started) (H : Type) (enc : TypeId × Value → H) :
    ReturnsInHanded {} Try.checked os 4 .any (Rows.fnExactCallOkSpec.pre6 enc Try.prog Try.f4 Rows.fnExactCallOkRow.domain false) (Rows.fnExactCallOkSpec.post enc Try.prog Try.f4 false true false false) := by
  refine returnsInHanded_of_change (C := Try.checked) own started (by kernel_rfl) Try.func4
    (ChangeSpec.witness6 (enc := enc) (C := Try.checked) false ⟨#[], #[.agg #[.int .i64 0, .int .i64 0, .string ByteArray.empty, .int .i64 0, .string ByteArray.empty, .string ByteArray.empty]], []⟩ 8 (by kernel_rfl) (by kernel_rfl) (by kernel_rfl) (by kernel_rfl)) ?_
  intro W base args ds gs before hval0 hW hcnd _
  have hval : ∀ (j : Nat) t v, Try.f4.params[j]? = some t → args[j]? = some v → Value.okWide Try.prog W .any base t v := hval0
  have hW' := hW
  obtain ⟨p, q, hA0, hV, rfl, hfz, hnd⟩ := hW
  have hA : DataW.TrodAll enc Try.prog W 0 (fun _ => true) true Try.f4.params.toList args.toList ds p := hA0
  rw [Try.params4] at hA hval
  obtain ⟨v0, vs0, d0, ds0, p0, q0, hargs, rfl, rfl, h0, r0⟩ := trodAll_cons hA
  obtain ⟨rfl, rfl, rfl⟩ := trodAll_nil r0
  obtain rfl : args = #[v0] := by cases args; simp_all
  obtain ⟨rfl, rfl⟩ := trodVars_none hV
  have k0 := h0
  have lt0 : ∀ x ∈ p0, x.block < W.heap.size := by obtain ⟨m, hm⟩ := k0; exact DataW.trod_lt m _ _ _ hm
  obtain ⟨c0, rfl, n1, n2, n3⟩ := call_open (hval 0 30 v0 rfl rfl) h0
  clear hA0 hval0
  refine (walk c0 W n1 n2 n3).mono fun e W' ⟨he, bel⟩ => ?_
  subst he
  exact ⟨_, rfl, _, _, _, [], _, [], hW', (trodAll_cons_mk (shut_bool Try.underlying4 _) trodAll_mk0), (trodAll_cons_mk (Below.trod laidOut (by kernel_rfl) (of_decide_eq_true (by kernel_rfl)) k0 bel lt0) trodAll_mk0), rfl, bel.frame _, fun h => by cases h⟩

theorem over : Rows.fnExactCallOkRow.holds Try.pinned (OpenSpec.ofChange Rows.fnExactCallOkSpec) :=
  OpenClaim.holds_of_wide 4 Try.f4 rfl rfl rfl rfl rfl rfl rfl ⟨rfl, rfl, rfl, rfl, rfl⟩ rfl rfl rfl rfl rfl (by kernel_rfl) Try.func4 (by kernel_rfl)
    (of_decide_eq_true (by kernel_rfl)) (by unfold Func.isWrapper; first | (rw [if_pos (by decide +kernel)]; kernel_rfl) | (rw [if_neg (by decide +kernel)]; exact ⟨rfl, rfl⟩))
    (fun os started H enc _ => lifted os started H enc)

/-- The statement. -/
theorem proved : Rows.FnExactCallOkSaid :=
  over
end Go.Proofs.Ytgjehmobafkjfaa.fnExactCallOk
