/- copy of rows whose elements have several cells. No program's text. Rows of entries: copy, clear, append in room and into a new row: what they leave, of rows whose elements have several cells. No program's text. Directories: slices.Clone, Delete and Insert of rows of entries: what they leave. -/
import Derived.Test.YtpijjinoeghgoaaGreatDoorRows
import Derived.Test.YtpijjinoeghgoaaGreatDoorMq
import Derived.Laws.CopyRow
import Derived.Tactics
import Derived.WalkKit
import Derived.Laws.AppendOwn
import Derived.Lib.AppendZerosOnto
import Derived.Deep.RegionLaw
import Derived.Lib.Overlaps
import Derived.Lib.SliceRun
import Derived.WalkSpells
import Derived.WalkLawsBesides
namespace Go.Proofs.YtpijjinoeghgoaaGreatDoor

section
open Go.RowKit
end

section
open Go.RowKit
end

section
open Go.RowKit












set_option maxRecDepth 100000 in
set_option maxHeartbeats 1000000 in
theorem clone_any (v : Value) (d : List En) (w : World) (hv : EntsAt w v d) (hl : d.length ≤ 1048576) :
    Calls Tryz.prog 100 #[v] w fun e w' => ∃ u, e = .returned u ∧ EntRow w' w.heap.size u d ∧ Below w.heap.size w w' := by
  have hb := below_lit w (.cells #[] 77)
  have hrow := lit_ents w
  have hv' := hv.below hb
  obtain ⟨a, ca, rfl, hn, hva⟩ := hv
  cases a with
  | none =>
    obtain rfl : ca = 0 := hn rfl
    have hd : d = [] := by
      cases d with
      | nil => rfl
      | cons e d => obtain ⟨b, off, h, _⟩ := hva 0 (by simp); cases h
    subst hd
    clear hva
    have hq : ∀ w, (binOp .eql 57 (.slice none 0 0) (.slice none 0 0)).run Tryz.prog w = .ok (.bool true) w := fun w => Lib.run_eql_slice_nil w _ _ none 0 0 0 0 Tryz.underlying57
    go_enter Tryz.func100, Tryz.ntmps100
    go_wp2
    go_ret
    exact ⟨_, rfl, World.ownsRow_nil _ _ _ _, Below.refl _ _⟩
  | some a =>
    clear hva
    have hq : ∀ w, (binOp .eql 57 (.slice (some a) d.length ca) (.slice none 0 0)).run Tryz.prog w = .ok (.bool false) w := fun w => Lib.run_eql_slice_nil w _ _ (some a) _ _ 0 0 Tryz.underlying57
    go_enter Tryz.func100, Tryz.ntmps100
    go_wp2_with (at_builtin; refine append_ents _ rfl (.tmp 5) (.tmp 6) rfl w.heap.size _ _ [] d (by simp; omega) hrow hv' rfl rfl hb.size ?_; intro v' w3 hown3 hbel3)
    go_ret
    exact ⟨_, rfl, by simpa using hown3, hb.trans hbel3⟩
end

end Go.Proofs.YtpijjinoeghgoaaGreatDoor
