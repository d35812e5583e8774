/-
  Proved: impl.KnownRanges answers the ranges that spec.KnownRanges answers, in memory of its own, and both return; the package-level table impl.knownSigns holds, when the call begins, what the text of the program lays there (the tie of the card), and reads so behind the call.
-/
import Derived.Test.YtkpeabbilcmababDoorRows
import Derived.Test.YtkpeabbilcmababDoorTie
import Derived.Test.YtkpeabbilcmababDoorCards
import Derived.Test.YtkpeabbilcmababDoorNum
import Derived.Test.YtkpeabbilcmababDoorOwn
import Derived.Test.YtkpeabbilcmababDoorRdFix
import Derived.Test.YtkpeabbilcmababDoorIntS
import Derived.Test.YtkpeabbilcmababDoorSgn
import Derived.Test.YtkpeabbilcmababDoorKno
import Derived.Test.YtkpeabbilcmababDoorIBtw
import Derived.Test.YtkpeabbilcmababDoorIKno
import Derived.Test.YtkpeabbilcmababDoorWRgK
import Derived.Test.YtkpeabbilcmababDoorRgV
import Derived.Test.YtkpeabbilcmababDoorIRk
import Derived.WalkKit
import Derived.WalkSpells
import Derived.WalkLawsBesides
import Derived.ProofKit
import Derived.OpenShut
import Derived.ShutString
import Derived.ChangeOld
import Derived.Below
import Derived.OpenVars
import Derived.LaidMore
import Derived.Lib.LaidTab
import Derived.Lib.LaidU8
import Derived.Stop.Joined
import Derived.SevenTiedAt
namespace Go.Proofs.YtkpeabbilcmababDoor.fnExactKnownRanges
open Go.ChangeShapes Go.WideShapes Go.ChangeAt Go.RowKit
open Go.ChangeMaps (open_string shut_string)
set_option linter.unusedVariables false

theorem own : ownKnob Tryd.prog.godebug = none := by kernel_rfl
theorem gTab : Tryd.prog.globalNamed "loop.example/g00773/impl.knownSigns" = some 0 := by kernel_rfl
theorem tTab : (Tryd.prog.globals[0]?).map (·.type) = some 31 := by kernel_rfl
theorem cellsE : Tryd.prog.cellsOf 3 = 1 := by kernel_rfl
theorem cellsR : Tryd.prog.cellsOf 30 = 2 := by kernel_rfl

theorem ik_datum : Rows.laid_loop_example_g00773_impl_knownSigns (H := Unit) = .agg ((List.range 27).map fun i => .agg ([ikT.getD (2 * i) 0, ikT.getD (2 * i + 1) 0].map fun z => .lit (.int .i64 z))) := by rfl

/-- What the condition gives the walk: the table's cells. -/
theorem of_laid {W : World} (h : laidMetH Tryd.prog Rows.fnExactKnownRangesRow.laid W) : ∀ i, i < 54 → W.cell? ⟨0, i, none⟩ = some (.int .i64 (ikT.getD i 0)) := by
  rw [MakeChecks.laidMetH_plain _ _ _ (by kernel_rfl)] at h
  have hr := Lib.laidMet.reads h (List.mem_cons_self ..)
  obtain ⟨g, t, cs, fuel, p, hg, hty, hvar, hd⟩ := hr
  obtain rfl := Option.some.inj (gTab.symm.trans hg)
  obtain rfl := Option.some.inj (tTab.symm.trans hty)
  rw [ik_datum] at hd
  have key : ∀ i, i < 27 → W.cell? ⟨0, 2 * i, none⟩ = some (.int .i64 (ikT.getD (2 * i) 0)) ∧ W.cell? ⟨0, 2 * i + 1, none⟩ = some (.int .i64 (ikT.getD (2 * i + 1) 0)) := by
    intro i hi
    obtain ⟨fuel', d, q, hdi, he⟩ := Lib.array_elem Tryd.underlying31 hd i hi
    simp only [List.getElem?_map, List.getElem?_range hi, Option.map_some, Option.some.injEq] at hdi
    subst hdi
    rw [cellsR] at he
    have hcs := Lib.ints_of_struct Tryd.underlying30 (fun j f hj => by
      match j, hj with
      | 0, hj => simp at hj; subst hj; exact ⟨Tryd.underlying3, rfl, cellsE⟩
      | 1, hj => simp at hj; subst hj; exact ⟨Tryd.underlying3, rfl, cellsE⟩
      | j + 2, hj => simp at hj) (by rw [cellsR]; rfl) he
    have e0 := congrArg (·[0]?) hcs
    have e1 := congrArg (·[1]?) hcs
    simp only [List.getElem?_take, List.getElem?_drop] at e0 e1
    constructor
    · rw [World.var?_cell hg hvar (2 * i), ← Array.getElem?_toList]
      simpa [Nat.mul_comm] using e0
    · rw [World.var?_cell hg hvar (2 * i + 1), ← Array.getElem?_toList]
      simpa [Nat.mul_comm] using e1
  intro i hi
  obtain ⟨k, rfl | rfl⟩ : ∃ k, i = 2 * k ∨ i = 2 * k + 1 := ⟨i / 2, by omega⟩
  · exact (key k (by omega)).1
  · exact (key k (by omega)).2

theorem door_met (os : Os) (args : Array Value) : laidMetH Tryd.prog Rows.fnExactKnownRangesRow.laid ((World.doorLaid Tryd.prog 400 os).forCall (fun _ _ => 0) ⟨#[], args, []⟩).memory :=
  laidMetH_of_parts3 (fuel := 8) (laidMet_of_run' 8 (by kernel_rfl) (by kernel_rfl)) (by kernel_rfl) (by kernel_rfl)

theorem walk (w : World) (hw : ∀ i, i < 54 → w.cell? ⟨0, i, none⟩ = some (.int .i64 (ikT.getD i 0))) (hz : 0 < w.heap.size) :
    Calls Tryd.prog 3 #[] w fun e w' => e = .returned (.bool true) ∧ Below w.heap.size w w' :=
  wKnownRanges knR w (by decide) (fun w' _ => sKnownRanges w') (fun w' hb => iKnownRanges w' fun i hi => (hb.cell (p := ⟨0, i, none⟩) hz).trans (hw i hi))

set_option maxRecDepth 100000 in
theorem lifted (os : Os) (started : os.Started) (H : Type) (enc : TypeId × Value → H) :
    ReturnsInHanded {} Tryd.checked os 3 .any (fun w args => (Rows.fnExactKnownRangesSpec.pre enc Tryd.prog Tryd.f3 [] false w args ∧ laidMetH Tryd.prog Rows.fnExactKnownRangesRow.laid w) ∧ sizedMet enc Tryd.prog Tryd.f3 (OpenSpec.ofChange Rows.fnExactKnownRangesSpec) false w args)
      (Rows.fnExactKnownRangesSpec.post enc Tryd.prog Tryd.f3 false true false false) := by
  refine returnsInHanded_of_change_and (C := Tryd.checked) (X := fun w _ => laidMetH Tryd.prog Rows.fnExactKnownRangesRow.laid w) (fun _ _ _ hh h => h.of_heap hh) own started (by kernel_rfl) Tryd.func3
    (ChangeSpec.witness_shaped (enc := enc) (C := Tryd.checked) (os := os) (X := fun w _ => laidMetH Tryd.prog Rows.fnExactKnownRangesRow.laid w) false (World.doorLaid Tryd.prog 400 os) #[] 8 rfl (World.shaped_of_RefB (by kernel_rfl) (by kernel_rfl)) (by kernel_rfl) (by kernel_rfl) (by kernel_rfl) (door_met os _)) ?_
  intro W base args ds gs before hval0 hW _ _ hL _
  have hval : ∀ (j : Nat) t v, Tryd.f3.params[j]? = some t → args[j]? = some v → Value.okWide Tryd.prog W .any base t v := hval0
  have hW' := hW
  obtain ⟨p, q, hA0, hV, rfl, hfz, hnd⟩ := hW
  have hA : DataW.TrodAll enc Tryd.prog W 0 (fun _ => true) true Tryd.f3.params.toList args.toList ds p := hA0
  rw [Tryd.params3] at hA hval
  obtain ⟨hargs, rfl, rfl⟩ := trodAll_nil hA
  obtain rfl : args = #[] := by cases args; simp_all
  have hV1 := hV
  obtain ⟨g, t, cs, fuel, d, p', rfl, hg, ht, hvar, hd, hq⟩ := trodVars_one hV1
  clear hA0 hval0
  have hT := of_laid hL
  have hz : 0 < W.heap.size := by
    have h1 := hT 0 (by decide)
    cases hh : W.heap[0]? with
    | none => simp [World.cell?, hh] at h1
    | some o => exact lt_of_block hh
  refine (walk W hT hz).mono fun e W' ⟨he, bel⟩ => ?_
  subst he
  exact ⟨_, rfl, _, _, _, [], [], _, hW', (trodAll_cons_mk (shut_bool Tryd.underlying4 _) trodAll_mk0), trodAll_mk0, Below.trodVars (by kernel_rfl) bel (by kernel_rfl) hV, bel.frame _, fun h => by cases h⟩

theorem over : Rows.FnExactKnownRangesSaid :=
  OpenClaim.holds_of_wide 3 Tryd.f3 rfl rfl rfl rfl rfl rfl rfl ⟨rfl, rfl, rfl, rfl, rfl⟩ rfl rfl rfl rfl rfl (by kernel_rfl) Tryd.func3 (by kernel_rfl)
    (of_decide_eq_true (by kernel_rfl)) (by unfold Func.isWrapper; first | (rw [if_pos (by decide +kernel)]; kernel_rfl) | (rw [if_neg (by decide +kernel)]; exact ⟨rfl, rfl⟩))
    (fun os started H enc _ => lifted os started H enc)

/-- The statement. -/
theorem proved : Rows.FnExactKnownRangesCardSaid :=
  Claim7.holds_tied_plain_at .later [] [.data] true Rows.fnExactKnownRangesCard.stood.harness false
    over (fun _ h => by cases h) (by kernel_rfl) (fun _ h => by cases h) fnExactKnownRanges_row_tie rfl ⟨rfl, rfl⟩ (by kernel_rfl) rfl
    (fun f fn hf hfn => by
      obtain rfl : f = 3 := Option.some.inj ((show Tryd.prog.funcNamed "loop.example/g00773/laws.FnExactKnownRanges" = some 3 by kernel_rfl).symm.trans hf) |>.symm
      obtain rfl : fn = Tryd.f3 := (Option.some.inj (Tryd.func3.symm.trans hfn)).symm
      exact ⟨by kernel_rfl, fun j t ht => by
        rw [Tryd.params3] at ht
        have hm : t ∈ ([] : List TypeId) := by simpa using Array.mem_of_getElem? ht
        have hall : (([] : List TypeId).all fun u => !Tryd.prog.wantsStandIn u) = true := by kernel_rfl
        exact (show Tryd.prog.wantsStandIn t = false by simpa using List.all_eq_true.1 hall t hm)⟩)
    (by kernel_rfl)
end Go.Proofs.YtkpeabbilcmababDoor.fnExactKnownRanges
