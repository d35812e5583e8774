/- Blocks, impl: readHead, readInode. -/
import Derived.Test.YtgkcnleegefjcaaGreatDoorRows
import Derived.Test.YtgkcnleegefjcaaGreatDoorPc
import Derived.Test.YtgkcnleegefjcaaGreatDoorNi
import Derived.Deep.RegionHeld3
namespace Go.Proofs.YtgkcnleegefjcaaGreatDoor
open Go.RowKit Go.Sort

/-- what a reader says: what o has, or a panic -/
def SaysP {α : Type} (o : Option α) (enc : α → Value) (T : TypeId) (x : Value) (w : World) (e : Ending) (w' : World) : Prop :=
  (∃ p, o = some p ∧ e = .returned (enc p) ∧ Below w.heap.size w w') ∨ (o = none ∧ e = .panicked [{ v := .iface T x, recovered := false }] ∧ Below w.heap.size w w')
/-- on the way: what is left, and the tables -/
structure Rd (w2 : World) (T : TypeId) (x : Value) (b : Nat) (r : List UInt8) (w' : World) : Prop where
  cur : CurSt w' b r
  err : ErrV w' T x
  tabs : Tabs w'
  crc : CrcTab w'
  g : w2.grownBy w' (some b)
theorem Rd.next {w2 w' w'' : World} {T : TypeId} {x : Value} {b : Nat} {r r' : List UInt8} (h : Rd w2 T x b r w') (hc : CurSt w'' b r') (g : w'.grownBy w'' (some b)) : Rd w2 T x b r' w'' :=
  ⟨hc, h.err.grown g h.cur.2, (h.tabs.grown h.crc h.cur g).1, (h.tabs.grown h.crc h.cur g).2, gbr_trans h.g g⟩
theorem cursor_new (w : World) (s : ByteArray) (T : TypeId) (x : Value) (hE : ErrV w T x) : CurSt (w.alloc (.cells #[.string s] 189)) w.heap.size s.data.toList :=
  ⟨by rw [bA_of]; exact (MapKept.heap_alloc w _).1, by have := hE.lt; omega⟩

set_option maxRecDepth 100000 in
set_option maxHeartbeats 1000000 in
theorem readHead_any (s : ByteArray) (T : TypeId) (x : Value) (w : World) (hT : Tabs w) (hC : CrcTab w) (hE : ErrV w T x) (hl : s.size ≤ 1048576) :
    Calls Tryz.prog 113 #[.string s] w fun e w' => SaysP (headRd s.data.toList) (fun p => .tuple #[.int .i64 p.1, .int .i64 p.2]) T x w e w' := by
  have B0 := below_lit w (.cells #[.string s] 189)
  have hc0 := cursor_new w s T x hE
  obtain ⟨w0, HW0⟩ : ∃ w0, Hid (w0 = w.alloc (.cells #[.string s] 189)) := ⟨_, rfl⟩
  have hf : w.alloc (.cells #[.string s] 189) = w0 := HW0.out.symm
  rw [hf] at B0 hc0
  have hl' : s.data.toList.length ≤ 1048576 := by rw [size_list]; exact hl
  have R0 : Rd w0 T x w.heap.size s.data.toList w0 := ⟨hc0, hE.below B0, hT.below B0, hC.below B0, gb_self _ _⟩
  have HP : Hid (∀ e w', (headRd s.data.toList = none ∧ e = .panicked [{ v := .iface T x, recovered := false }] ∧ w0.grownBy w' (some w.heap.size)) → SaysP (headRd s.data.toList) (fun p => .tuple #[.int .i64 p.1, .int .i64 p.2]) T x w e w') := fun e w' h => .inr ⟨h.1, h.2.1, B0.grown h.2.2 B0.size (fun k hk => by cases hk; exact Nat.le_refl _)⟩
  have HR : Hid (∀ p e w', (headRd s.data.toList = some p ∧ e = .returned (.tuple #[.int .i64 p.1, .int .i64 p.2]) ∧ w0.grownBy w' (some w.heap.size)) → SaysP (headRd s.data.toList) (fun p => .tuple #[.int .i64 p.1, .int .i64 p.2]) T x w e w') := fun p e w' h => .inl ⟨p, h.1, h.2.1, B0.grown h.2.2 B0.size (fun k hk => by cases hk; exact Nat.le_refl _)⟩
  have HM := mark_any w.heap.size s.data.toList 117 T x w0 R0.err R0.cur hl'
  generalize hL : s.data.toList = l at *
  clear hT hC hE
  go_enter Tryz.func113, Tryz.ntmps113
  go_wp2_with fail
  refine HM.mono ?_
  rintro e w1 hs
  rcases hs with ⟨⟨u1, l1⟩, hn1, rfl, hc1, hg1⟩ | ⟨hn1, rfl, hg1⟩
  · obtain ⟨r0, hm1, hm2⟩ := Option.map_eq_some_iff.1 hn1
    cases hm2
    have hll1 : l1.length ≤ l.length := by
      cases l with
      | nil => cases hm1
      | cons c r => unfold mrkR at hm1; simp only at hm1; split at hm1 <;> cases hm1; simp
    have R1 := R0.next hc1 hg1
    have HN := number_any w.heap.size l1 T x w1 R1.err R1.cur (by omega)
    dsimp only
    go_wp2_with fail
    refine HN.mono ?_
    rintro e w2 hs
    rcases hs with ⟨⟨a, l2⟩, hn2, rfl, hc2, hg2⟩ | ⟨hn2, rfl, hg2⟩
    · have hl2 := numR_len hn2
      have R2 := R1.next hc2 hg2
      have HN2 := number_any w.heap.size l2 T x w2 R2.err R2.cur (by dsimp only at hl2; omega)
      dsimp only
      go_wp2_with fail
      refine HN2.mono ?_
      rintro e w3 hs
      rcases hs with ⟨⟨c, l3⟩, hn3, rfl, hc3, hg3⟩ | ⟨hn3, rfl, hg3⟩
      · have R3 := R2.next hc3 hg3
        have hres : Hid (headRd l = some (a, c)) := by show _ = _; unfold headRd; rw [hm1]; simp only [Option.bind_some]; rw [hn2]; simp only [Option.bind_some]; rw [hn3]; rfl
        dsimp only
        go_wp2
        exact bodyPost_ret (results_tmp2 rfl _ _ _) rfl (HR.out (a, c) _ w3 ⟨hres.out, rfl, R3.g⟩)
      · have R3 := gbr_trans R2.g hg3
        have hres : Hid (headRd l = none) := by show _ = _; unfold headRd; rw [hm1]; simp only [Option.bind_some]; rw [hn2]; simp only [Option.bind_some]; rw [hn3]; rfl
        go_wp2
        exact ⟨rfl, HP.out _ w3 ⟨hres.out, rfl, R3⟩⟩
    · have hres : Hid (headRd l = none) := by show _ = _; unfold headRd; rw [hm1]; simp only [Option.bind_some]; rw [hn2]; rfl
      go_wp2
      exact ⟨rfl, HP.out _ w2 ⟨hres.out, rfl, gbr_trans R1.g hg2⟩⟩
  · have hm1 : mrkR 117 l = none := Option.map_eq_none_iff.1 hn1
    have hres : Hid (headRd l = none) := by show _ = _; unfold headRd; rw [hm1]; rfl
    go_wp2
    exact ⟨rfl, HP.out _ w1 ⟨hres.out, rfl, hg1⟩⟩

end Go.Proofs.YtgkcnleegefjcaaGreatDoor
