/-
  Proved: at every int, impl.Parts answers the signs that spec.Parts answers, a new row each time, and both return.
-/
import Derived.Test.YtalpeeaaaapijaaRows
import Derived.Test.YtalpeeaaaapijaaNum
import Derived.Test.YtalpeeaaaapijaaOwn
import Derived.Test.YtalpeeaaaapijaaRdFix
import Derived.Test.YtalpeeaaaapijaaIntS
import Derived.Test.YtalpeeaaaapijaaSgn
import Derived.Test.YtalpeeaaaapijaaKno
import Derived.Test.YtalpeeaaaapijaaPrt
import Derived.Test.YtalpeeaaaapijaaPrt2
import Derived.Test.YtalpeeaaaapijaaPrt3
import Derived.Test.YtalpeeaaaapijaaIBtw
import Derived.Test.YtalpeeaaaapijaaIPrt
import Derived.Test.YtalpeeaaaapijaaIMap
import Derived.Test.YtalpeeaaaapijaaITab
import Derived.Test.YtalpeeaaaapijaaISrc
import Derived.Test.YtalpeeaaaapijaaWRow
import Derived.Test.YtalpeeaaaapijaaWPrt
import Derived.WalkKit
import Derived.WalkSpells
import Derived.WalkLawsBesides
import Derived.ProofKit
import Derived.OpenShut
import Derived.ShutString
import Derived.ChangeOld
import Derived.Below
namespace Go.Proofs.Ytalpeeaaaapijaa.fnExactParts
open Go.ChangeShapes Go.WideShapes Go.ChangeAt Go.RowKit
open Go.ChangeMaps (open_string shut_string)
set_option linter.unusedVariables false      -- a walk need not use every 'w<i>' (that an integer argument fits its kind)

theorem own : ownKnob Try.prog.godebug = none := by kernel_rfl

/-! ### STEP 1: THE WALK: the Go text returns true. 'Grown w w'': the world has at most new blocks (Derived/RowKit3.lean). Part the cases AHEAD of 'go_enter' where a test parts the walk; take each callee by a contract of your own. -/
theorem walk (a0 : Int) (w0 : (Lit.int .i64 a0).wf = true) (w : World) :
    Calls Try.prog 5 #[.int .i64 a0] w fun e w' => e = .returned (.bool true) ∧ Below w.heap.size w w' := by
  have hL : (partsN a0).length ≤ 3 := by
    have hp : ∀ l : List Int, (partsOf l).length ≤ l.length := fun l => List.length_filter_le _ _
    cases h1 : inB a0 44032 55203
    · cases h2 : inB a0 192 8491
      · rw [partsN_out a0 h2 h1]; simp
      · rw [partsN_tabl a0 h2]; exact Nat.le_trans (hp _) (by simp)
    · have hb := inB_le h1
      rw [partsN_rest a0 (fun hc => by have := keys_bd a0 hc; omega), h1, if_pos rfl, ← han_parts a0 hb.1]; exact Nat.le_trans (hp _) (by simp)
  exact wParts a0 w (by omega) fun w' _ => iParts a0 w'

/-! ### THE ROW's STEP: WRITTEN OUT: LEAVE IT -/
set_option maxRecDepth 100000 in
theorem lifted (os : Os) (started : os.Started) (H : Type) (enc : TypeId × Value → H) :
    ReturnsInHanded {} Try.checked os 5 .any (Rows.fnExactPartsSpec.pre6 enc Try.prog Try.f5 Rows.fnExactPartsRow.domain false) (Rows.fnExactPartsSpec.post enc Try.prog Try.f5 false true false false) := by
  refine returnsInHanded_of_change (C := Try.checked) own started (by kernel_rfl) Try.func5
    (ChangeSpec.witness6 (enc := enc) (C := Try.checked) false ⟨#[], #[.int .i64 0], []⟩ 8 (by kernel_rfl) (by kernel_rfl) (by kernel_rfl) (by kernel_rfl)) ?_
  intro W base args ds gs before hval0 hW hcnd _
  have hval : ∀ (j : Nat) t v, Try.f5.params[j]? = some t → args[j]? = some v → Value.okWide Try.prog W .any base t v := hval0
  have hW' := hW
  obtain ⟨p, q, hA0, hV, rfl, hfz, hnd⟩ := hW
  have hA : DataW.TrodAll enc Try.prog W 0 (fun _ => true) true Try.f5.params.toList args.toList ds p := hA0
  rw [Try.params5] at hA hval
  obtain ⟨v0, vs0, d0, ds0, p0, q0, hargs, rfl, rfl, h0, r0⟩ := trodAll_cons hA
  obtain ⟨rfl, rfl, rfl⟩ := trodAll_nil r0
  obtain rfl : args = #[v0] := by cases args; simp_all
  obtain ⟨rfl, rfl⟩ := trodVars_none hV
  obtain ⟨a0, rfl, rfl, rfl, w0⟩ := open_int Try.underlying3 (hval 0 3 v0 rfl rfl) h0
  clear hA0 hval0
  simp only [List.append_nil] at hW'
  refine (walk a0 w0 W).mono fun e W' ⟨he, bel⟩ => ?_
  subst he
  exact ⟨_, rfl, _, _, _, [], [], [], hW', (trodAll_cons_mk (shut_bool Try.underlying4 _) trodAll_mk0), (trodAll_cons_mk (shut_int Try.underlying3 w0) trodAll_mk0), rfl, bel.frame _, fun h => by cases h⟩

theorem over : Rows.fnExactPartsRow.holds Try.pinned (OpenSpec.ofChange Rows.fnExactPartsSpec) :=
  OpenClaim.holds_of_wide 5 Try.f5 rfl rfl rfl rfl rfl rfl rfl ⟨rfl, rfl, rfl, rfl, rfl⟩ rfl rfl rfl rfl rfl (by kernel_rfl) Try.func5 (by kernel_rfl)
    (of_decide_eq_true (by kernel_rfl)) (by unfold Func.isWrapper; first | (rw [if_pos (by decide +kernel)]; kernel_rfl) | (rw [if_neg (by decide +kernel)]; exact ⟨rfl, rfl⟩))
    (fun os started H enc _ => lifted os started H enc)

/-- ████ THE STATEMENT ████ -/
theorem proved : Rows.FnExactPartsSaid :=
  over
end Go.Proofs.Ytalpeeaaaapijaa.fnExactParts
