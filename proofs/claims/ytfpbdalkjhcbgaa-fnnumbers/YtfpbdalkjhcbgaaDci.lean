/- What impl.Dec answers. -/
import Derived.Test.YtfpbdalkjhcbgaaRows
import Derived.Test.YtfpbdalkjhcbgaaDc
import Derived.WalkKit
import Derived.WalkSpells
import Derived.WalkLawsBesides
namespace Go.Proofs.Ytfpbdalkjhcbgaa
open Go.RowKit

/-- the room of twenty bytes, of which the last k are made -/
def room (k : Nat) (o : List UInt8) : List Value := bytesV (List.replicate (20 - k) 0 ++ o)

theorem room_step (k : Nat) (o : List UInt8) (b : UInt8) (hk : k < 20) : (room k o).set (20 - k - 1) (.int .u8 (b.toNat : Int)) = room (k + 1) (b :: o) := by
  unfold room
  have e1 : List.replicate (20 - k) (0 : UInt8) = List.replicate (20 - (k + 1)) 0 ++ [0] := by
    rw [show 20 - k = (20 - (k + 1)) + 1 from by omega, List.replicate_succ']
  rw [e1]
  simp only [bytesV, List.map_append, List.map_cons, List.append_assoc, List.cons_append, List.nil_append]
  rw [List.set_append_right _ _ (by simp; omega)]
  simp only [List.length_map, List.length_replicate]
  rw [show 20 - k - 1 - (20 - (k + 1)) = 0 from by omega]
  rfl

theorem room_start : room 0 [] = (#[Value.int .u8 0, .int .u8 0, .int .u8 0, .int .u8 0, .int .u8 0, .int .u8 0, .int .u8 0, .int .u8 0, .int .u8 0, .int .u8 0, .int .u8 0, .int .u8 0, .int .u8 0, .int .u8 0, .int .u8 0, .int .u8 0, .int .u8 0, .int .u8 0, .int .u8 0, .int .u8 0]).toList := rfl

/-- 'string(room[at:])' -/
theorem room_string {P : Program} {w : World} {base g : Nat} {A E S T : TypeId} {k : Nat} {o : List UInt8} (cap t : Nat) (ht : t = 20 - k)
    (hS : P.underlying S = some (.slice E)) (hE : P.underlying E = some (.int .u8)) (hT : P.underlying T = some .string)
    (hown : w.ownsRow base A 1 (.slice (some ⟨g, 0, none⟩) 20 20) 20 (room k o)) (ho : o.length = k) (hk : k ≤ 20) :
    (convert S T (.slice (some ⟨g, t, none⟩) k cap)).run P w = .ok (.string ⟨o.toArray⟩) w := by
  subst ho
  subst ht
  refine run_convert_bytes_back w S T E ⟨g, 20 - o.length, none⟩ cap o hS hE hT fun j hj => ?_
  rw [Addr.add_lit, hown.cellAt _ (by omega)]
  unfold room bytesV
  rw [List.map_append, List.getElem?_append_right (by simp)]
  simp [hj]

theorem u64_neg (n : Nat) (h0 : 0 < n) (h1 : n ≤ 9223372036854775808) : IntKind.u64.wrap (-IntKind.u64.wrap (-(n : Int))) = (n : Int) := by
  rw [IntKind.wrap_u64, IntKind.wrap_u64]; omega

/-- 'room[at:]' -/
theorem room_slice (w : World) (g k : Nat) (hk : k < 20) : (Instr.sliceAt 43 (.pointer (some ⟨g, 0, none⟩)) (some (.int .i64 (20 - (k : Int) - 1))) none none).run Try.prog w = .ok (.slice (some ⟨g, 19 - k, none⟩) (k + 1) (k + 1)) w := by
  have h := run_sliceAt_array_l (P := Try.prog) (w := w) (t := 43) (a := ⟨g, 0, none⟩) Try.underlying43 .i64 (20 - (k : Int) - 1) (by omega) (by show _ ≤ ((20 : Nat) : Int); omega)
  have hs : (sizeOf (Try.prog.elem 43)).run Try.prog w = .ok 1 w := rfl
  have hl : Try.prog.arrayLen 43 = 20 := rfl
  rw [h, hs, hl]
  show Result.ok _ _ = _
  have e : (20 - (k : Int) - 1).toNat = 20 - (k + 1) := by omega
  unfold slicedAt
  rw [e, if_neg (by omega), Addr.add_lit, show 20 - (20 - (k + 1)) = k + 1 from by omega, Nat.zero_add, Nat.mul_one, show 20 - (k + 1) = 19 - k from by omega]

theorem room_slice2 (w : World) (g k : Nat) (hk : k < 19) : (Instr.sliceAt 43 (.pointer (some ⟨g, 0, none⟩)) (some (.int .i64 (20 - (k : Int) - 1 - 1))) none none).run Try.prog w = .ok (.slice (some ⟨g, 18 - k, none⟩) (k + 2) (k + 2)) w := by
  have h := room_slice w g (k + 1) (by omega)
  rw [show (20 - ((k + 1 : Nat) : Int) - 1) = 20 - (k : Int) - 1 - 1 from by omega] at h
  rw [h, show 19 - (k + 1) = 18 - k from by omega]

set_option maxRecDepth 100000 in
set_option maxHeartbeats 400000 in
theorem iDec_pos (n : Nat) (w : World) (h1 : n ≤ 9223372036854775807) :
    Calls Try.prog 12 #[.int .i64 n] w fun e w' => e = .returned (.string ⟨(decL n).toArray⟩) ∧ Below w.heap.size w w' := by
  have HD : Hid (decL n = dp 18 n) := decL_nonneg n
  have hneg : decide ((n : Int) < 0) = false := by simp
  go_enter Try.func12, Try.ntmps12
  go_wp2
  have hown0 : (w.alloc (.cells #[Value.int .u8 0, .int .u8 0, .int .u8 0, .int .u8 0, .int .u8 0, .int .u8 0, .int .u8 0, .int .u8 0, .int .u8 0, .int .u8 0, .int .u8 0, .int .u8 0, .int .u8 0, .int .u8 0, .int .u8 0, .int .u8 0, .int .u8 0, .int .u8 0, .int .u8 0, .int .u8 0] 43)).ownsRow w.heap.size 43 1 (.slice (some ⟨w.heap.size, 0, none⟩) 20 20) 20 (room 0 []) := by
    rw [room_start]; exact World.ownsRow_lit w _ 20 (Nat.le_refl _) (by unfold maxLen; omega) rfl
  have HO : Hid ((w.alloc (.cells #[Value.int .u8 0, .int .u8 0, .int .u8 0, .int .u8 0, .int .u8 0, .int .u8 0, .int .u8 0, .int .u8 0, .int .u8 0, .int .u8 0, .int .u8 0, .int .u8 0, .int .u8 0, .int .u8 0, .int .u8 0, .int .u8 0, .int .u8 0, .int .u8 0, .int .u8 0, .int .u8 0] 43)).ownsRow w.heap.size 43 1 (.slice (some ⟨w.heap.size, 0, none⟩) 20 20) 20 (room 0 [])) := hown0
  clear hown0
  go_loopw [3, 5, 12] (fun q t i wr => ∃ (a k : Nat) (o : List UInt8), a ≤ 9223372036854775808 ∧ k ≤ 18 ∧ q = .int .u64 a ∧ t = .int .i64 (20 - (k : Int)) ∧ i = .int .i64 k ∧ o.length = k ∧ fits10 (18 - k) a ∧ dp (18 - k) a ++ o = dp 18 n ∧ wr.ownsRow w.heap.size 43 1 (.slice (some ⟨w.heap.size, 0, none⟩) 20 20) 20 (room k o) ∧ Below w.heap.size w wr) (fun _ _ i _ => 19 - (intOf i).toNat)
  case atStart => exact ⟨n, 0, [], by omega, by omega, rfl, by simp, rfl, rfl, fits10_all n (by omega), by simp, HO.out, (Below.refl _ _).alloc (Nat.le_refl _) _⟩
  case round =>
    obtain ⟨a, k, o, ha, hk, rfl, rfl, rfl, ho, hf, hd, hown, hbel⟩ := hrel
    have HX : Hid (o.length = k ∧ fits10 (18 - k) a ∧ dp (18 - k) a ++ o = dp 18 n) := ⟨ho, hf, hd⟩
    clear ho hf hd
    have hfz := hown.frozenAt (20 - k - 1)
    obtain ⟨u, hcl⟩ : ∃ u, wr.cell? ⟨w.heap.size, 20 - k - 1, none⟩ = some u := ⟨_, (hown.cellAt (20 - k - 1) (by omega)).trans (List.getElem?_eq_getElem (by have := hown.1; omega))⟩
    have hst := (hown.stored (20 - k - 1) (.int .u8 ((dig a).toNat : Int))).1
    rw [room_step k o (dig a) (by omega), dig_val] at hst
    have hbel1 := hbel.setCell (p := ⟨w.heap.size, 20 - k - 1, none⟩) (Nat.le_refl _) (.int .u8 (48 + (a : Int) % 10))
    clear hown hbel
    by_cases h10 : a < 10
    · have hq : ((a : Int) / 10 == 0) = true := by rw [beq_iff_eq]; omega
      have HE : Hid (dig a :: o = dp 18 n) := by have h := HX.out.2.2; rw [dp_small _ a h10] at h; exact h
      have hcv := room_string (P := Try.prog) (T := 9) (k + 1) (19 - k) (by omega) Try.underlying22 Try.underlying5 Try.underlying9 hst (by rw [List.length_cons, HX.out.1]) (by omega)
      have hsl := fun wx => room_slice wx w.heap.size k (by omega)
      go_wp2
      go_ret
      exact ⟨ret_str (by rw [HD.out, ← HE.out]), hbel1⟩
    · have hq : ((a : Int) / 10 == 0) = false := by rw [beq_eq_false_iff_ne]; omega
      obtain ⟨g, hg, hfg⟩ := fits10_step _ a HX.out.2.1 (by omega)
      have HE : Hid (fits10 (18 - (k + 1)) (a / 10) ∧ dp (18 - (k + 1)) (a / 10) ++ (dig a :: o) = dp 18 n ∧ (dig a :: o).length = k + 1) := by
        have e : 18 - (k + 1) = g := by omega
        have h := HX.out.2.2
        rw [hg, dp_great g a (by omega), List.append_assoc] at h
        rw [e]
        exact ⟨hfg, h, by rw [List.length_cons, HX.out.1]⟩
      have hk2 : k + 1 ≤ 18 := by omega
      clear hg hfg
      go_wp2
      go_roundw
      case rel => exact ⟨a / 10, k + 1, dig a :: o, by omega, hk2, by go_num, by go_num, by go_num, HE.out.2.2, HE.out.1, HE.out.2.1, hst, hbel1⟩
      case measure => simp [intOf]; omega

set_option maxRecDepth 100000 in
set_option maxHeartbeats 400000 in
theorem iDec_neg (n : Nat) (w : World) (h0 : 0 < n) (h1 : n ≤ 9223372036854775808) :
    Calls Try.prog 12 #[.int .i64 (-(n : Int))] w fun e w' => e = .returned (.string ⟨(decL (-(n : Int))).toArray⟩) ∧ Below w.heap.size w w' := by
  have HD : Hid (decL (-(n : Int)) = 45 :: dp 18 n) := decL_neg n h0
  have hneg : decide (-(n : Int) < 0) = true := by simp; omega
  have hw64 := u64_neg n h0 h1
  go_enter Try.func12, Try.ntmps12
  go_wp2
  have hown0 : (w.alloc (.cells #[Value.int .u8 0, .int .u8 0, .int .u8 0, .int .u8 0, .int .u8 0, .int .u8 0, .int .u8 0, .int .u8 0, .int .u8 0, .int .u8 0, .int .u8 0, .int .u8 0, .int .u8 0, .int .u8 0, .int .u8 0, .int .u8 0, .int .u8 0, .int .u8 0, .int .u8 0, .int .u8 0] 43)).ownsRow w.heap.size 43 1 (.slice (some ⟨w.heap.size, 0, none⟩) 20 20) 20 (room 0 []) := by
    rw [room_start]; exact World.ownsRow_lit w _ 20 (Nat.le_refl _) (by unfold maxLen; omega) rfl
  have HO : Hid ((w.alloc (.cells #[Value.int .u8 0, .int .u8 0, .int .u8 0, .int .u8 0, .int .u8 0, .int .u8 0, .int .u8 0, .int .u8 0, .int .u8 0, .int .u8 0, .int .u8 0, .int .u8 0, .int .u8 0, .int .u8 0, .int .u8 0, .int .u8 0, .int .u8 0, .int .u8 0, .int .u8 0, .int .u8 0] 43)).ownsRow w.heap.size 43 1 (.slice (some ⟨w.heap.size, 0, none⟩) 20 20) 20 (room 0 [])) := hown0
  clear hown0
  go_loopw [3, 5, 12] (fun q t i wr => ∃ (a k : Nat) (o : List UInt8), a ≤ 9223372036854775808 ∧ k ≤ 18 ∧ q = .int .u64 a ∧ t = .int .i64 (20 - (k : Int)) ∧ i = .int .i64 k ∧ o.length = k ∧ fits10 (18 - k) a ∧ dp (18 - k) a ++ o = dp 18 n ∧ wr.ownsRow w.heap.size 43 1 (.slice (some ⟨w.heap.size, 0, none⟩) 20 20) 20 (room k o) ∧ Below w.heap.size w wr) (fun _ _ i _ => 19 - (intOf i).toNat)
  case atStart => exact ⟨n, 0, [], by omega, by omega, rfl, by simp, rfl, rfl, fits10_all n (by omega), by simp, HO.out, (Below.refl _ _).alloc (Nat.le_refl _) _⟩
  case round =>
    obtain ⟨a, k, o, ha, hk, rfl, rfl, rfl, ho, hf, hd, hown, hbel⟩ := hrel
    have HX : Hid (o.length = k ∧ fits10 (18 - k) a ∧ dp (18 - k) a ++ o = dp 18 n) := ⟨ho, hf, hd⟩
    clear ho hf hd
    have hfz := hown.frozenAt (20 - k - 1)
    obtain ⟨u, hcl⟩ : ∃ u, wr.cell? ⟨w.heap.size, 20 - k - 1, none⟩ = some u := ⟨_, (hown.cellAt (20 - k - 1) (by omega)).trans (List.getElem?_eq_getElem (by have := hown.1; omega))⟩
    have hst := (hown.stored (20 - k - 1) (.int .u8 ((dig a).toNat : Int))).1
    rw [room_step k o (dig a) (by omega), dig_val] at hst
    have hbel1 := hbel.setCell (p := ⟨w.heap.size, 20 - k - 1, none⟩) (Nat.le_refl _) (.int .u8 (48 + (a : Int) % 10))
    clear hown hbel
    by_cases h10 : a < 10
    · have hq : ((a : Int) / 10 == 0) = true := by rw [beq_iff_eq]; omega
      have HE : Hid (dig a :: o = dp 18 n) := by have h := HX.out.2.2; rw [dp_small _ a h10] at h; exact h
      have hfz2 := hst.frozenAt (20 - k - 1 - 1)
      obtain ⟨u2, hcl2⟩ : ∃ u, (wr.setCell ⟨w.heap.size, 20 - k - 1, none⟩ (.int .u8 (48 + (a : Int) % 10))).cell? ⟨w.heap.size, 20 - k - 1 - 1, none⟩ = some u := ⟨_, (hst.cellAt (20 - k - 1 - 1) (by omega)).trans (List.getElem?_eq_getElem (by have := hst.1; omega))⟩
      have hst2 := (hst.stored (20 - k - 1 - 1) (.int .u8 45)).1
      rw [show (45 : Int) = ((45 : UInt8).toNat : Int) from rfl, show 20 - k - 1 - 1 = 20 - (k + 1) - 1 from by omega, room_step (k + 1) (dig a :: o) 45 (by omega), show (((45 : UInt8).toNat : Nat) : Int) = 45 from rfl, show 20 - (k + 1) - 1 = 20 - k - 1 - 1 from by omega] at hst2
      have hbel2 := hbel1.setCell (p := ⟨w.heap.size, 20 - k - 1 - 1, none⟩) (Nat.le_refl _) (.int .u8 45)
      have hcv := room_string (P := Try.prog) (T := 9) (k + 2) (18 - k) (by omega) Try.underlying22 Try.underlying5 Try.underlying9 hst2 (by rw [List.length_cons, List.length_cons, HX.out.1]) (by omega)
      have hsl := fun wx => room_slice2 wx w.heap.size k (by omega)
      go_wp2
      go_ret
      exact ⟨ret_str (by rw [HD.out, ← HE.out]), hbel2⟩
    · have hq : ((a : Int) / 10 == 0) = false := by rw [beq_eq_false_iff_ne]; omega
      obtain ⟨g, hg, hfg⟩ := fits10_step _ a HX.out.2.1 (by omega)
      have HE : Hid (fits10 (18 - (k + 1)) (a / 10) ∧ dp (18 - (k + 1)) (a / 10) ++ (dig a :: o) = dp 18 n ∧ (dig a :: o).length = k + 1) := by
        have e : 18 - (k + 1) = g := by omega
        have h := HX.out.2.2
        rw [hg, dp_great g a (by omega), List.append_assoc] at h
        rw [e]
        exact ⟨hfg, h, by rw [List.length_cons, HX.out.1]⟩
      have hk2 : k + 1 ≤ 18 := by omega
      clear hg hfg
      go_wp2
      go_roundw
      case rel => exact ⟨a / 10, k + 1, dig a :: o, by omega, hk2, by go_num, by go_num, by go_num, HE.out.2.2, HE.out.1, HE.out.2.1, hst, hbel1⟩
      case measure => simp [intOf]; omega

end Go.Proofs.Ytfpbdalkjhcbgaa
