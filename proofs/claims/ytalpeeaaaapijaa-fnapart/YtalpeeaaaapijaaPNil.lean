/- Signs: impl.Parts of a sign that has none: it answers nil. -/
import Derived.Test.YtalpeeaaaapijaaRows
import Derived.Test.YtalpeeaaaapijaaISrc
namespace Go.Proofs.Ytalpeeaaaapijaa
open Go.RowKit

set_option maxRecDepth 100000 in
set_option maxHeartbeats 2000000 in
theorem readRow_nil (g : Nat) (w : World) (hw : RowWays g 0 0 w) :
    Calls Try.prog 42 #[.slice (some ⟨g, 0, none⟩) 2 2] w fun e w' => e = .returned (.slice none 0 0) ∧ Below w.heap.size w w' := by
  have HL := fun w => readLetter_any 0 0 w
  have HV := fun w => readMark_any 0 0 w
  go_enter Try.func42, Try.ntmps42
  go_wp2
  go_loopw [3, 9] (fun v i wr => ∃ k : Nat, k ≤ 2 ∧ i = .int .i64 k ∧ v = .slice none 0 0 ∧ Below w.heap.size w wr) (fun _ i _ => 2 - (intOf i).toNat)
  case atStart => exact ⟨0, by omega, rfl, rfl, Below.refl _ _⟩
  case round =>
    obtain ⟨k, hk, rfl, rfl, hbel⟩ := hrel
    obtain ⟨hg, c0, c1⟩ := hw.below hbel hw.1
    match k, hk with
    | 0, _ =>
      go_wp2_with (first | (go_at_call 47; refine (HL _).mono ?_; rintro e w1 ⟨rfl, hb1⟩; have hbel1 := hbel.trans (hb1.mono hbel.size)))
      go_roundw
      case rel => exact ⟨1, by omega, by go_num, rfl, hbel1⟩
      case measure => simp [intOf]
    | 1, _ =>
      go_wp2_with (first | (go_at_call 48; refine (HV _).mono ?_; rintro e w1 ⟨rfl, hb1⟩; have hbel1 := hbel.trans (hb1.mono hbel.size)))
      go_roundw
      case rel => exact ⟨2, by omega, by go_num, rfl, hbel1⟩
      case measure => simp [intOf]
    | 2, _ =>
      go_wp2
      go_ret
      exact ⟨rfl, hbel⟩

theorem parts_zero {p0 p1 : Int} (h : partsOf [p0, p1] = []) : p0 = 0 ∧ p1 = 0 := by
  unfold partsOf at h
  rw [List.filter_eq_nil_iff] at h
  have h1 := h p0 (by simp)
  have h2 := h p1 (by simp)
  simp at h1 h2
  exact ⟨h1, h2⟩
theorem parts_hangul (c : Int) (h : inB c 44032 55203 = true) : partsN c ≠ [] := by
  have hb := inB_le h
  rw [partsN_rest c (fun hc => by have := keys_bd c hc; omega), h, if_pos rfl]
  unfold hanN
  split <;> simp

set_option maxRecDepth 100000 in
set_option maxHeartbeats 2000000 in
theorem partsOf_nil (B : Nat) (c : Int) (w : World) (hs : SrcAt B w) (hp : partsN c = []) :
    Calls Try.prog 29 #[.pointer (some ⟨B, 0, none⟩), .int .i64 c] w fun e w' => e = .returned (.slice none 0 0) ∧ w.grownBy w' (some B) := by
  have hlt := hs.lt
  cases h1 : inB c 44032 55203
  · cases h2 : inB c 192 8491
    · go_enter Try.func29, Try.ntmps29
      go_wp2_with (go_at_call 41; refine (btw_any _ _ _ _).mono ?_; rintro e w' ⟨rfl, rfl⟩)
      go_ret
      exact ⟨rfl, ⟨rfl, rfl, rfl, Nat.le_refl _, fun _ _ _ => rfl⟩⟩
    · have HZ := parts_zero ((partsN_tabl c h2).symm.trans hp)
      have HRow := rowOf_any B c 0 0 HZ.1 HZ.2 w hs
      have HS := fun g w' h => readRow_nil g w' h
      clear HZ hp
      have hmf : ∀ (fn : Fn) (first cap : Array Value) (w : World), (Instr.makeFunc fn first cap).run Try.prog w = .ok (.func fn first cap) w := fun _ _ _ _ => rfl
      go_enter Try.func29, Try.ntmps29
      go_wp2_with (first | (go_at_call 41; refine (btw_any _ _ _ _).mono ?_; rintro e w' ⟨rfl, rfl⟩) | (go_at_call 46; refine HRow.mono ?_; rintro e w1 ⟨rfl, hs1, hg1⟩))
      refine (HS (w1.heap.size + 1) _ (row_new _ _ ?_ _ _ _)).mono ?_
      · rw [hs_alloc]
      rintro e w2 ⟨rfl, hb2⟩
      have hz := hg1.size
      have hb3 : Below w1.heap.size w1 w2 := (((Below.refl w1.heap.size w1).alloc (Nat.le_refl _) _).alloc (by rw [hs_alloc]; omega) _).trans (hb2.mono (by rw [hs_alloc, hs_alloc]; omega))
      go_wp2
      go_ret
      exact ⟨rfl, ⟨hb3.os.trans hg1.os, hb3.tape.trans hg1.tape, hb3.output.trans hg1.output, Nat.le_trans hg1.size hb3.size, fun k hk hn => (hb3.block k (by omega)).trans (hg1.block k hk hn)⟩⟩
  · exact absurd hp (parts_hangul c h1)

set_option maxRecDepth 100000 in
theorem iPartsNil (c : Int) (w : World) (hp : partsN c = []) :
    Calls Try.prog 13 #[.int .i64 c] w fun e w' => e = .returned (.slice none 0 0) ∧ Below w.heap.size w w' := by
  have HP := partsOf_nil w.heap.size c _ (src_new w) hp
  go_enter Try.func13, Try.ntmps13
  go_wp2_with fail
  refine HP.mono ?_
  rintro e w2 ⟨rfl, hg⟩
  go_wp2
  go_ret
  have hs1 := hg.size
  rw [hs_alloc] at hs1
  exact ⟨rfl, ⟨hg.os, hg.tape, hg.output, by omega, fun k hk => (hg.block k (by rw [hs_alloc]; omega) (fun e => by cases e; omega)).trans (Below.heap_alloc _ _ _ hk)⟩⟩

end Go.Proofs.Ytalpeeaaaapijaa
