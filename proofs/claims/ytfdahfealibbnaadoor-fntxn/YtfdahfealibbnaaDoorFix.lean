/- What spec.Fixed and impl.Fixed answer, at every argument. -/
import Derived.Test.YtfdahfealibbnaaDoorRows
import Derived.Test.YtfdahfealibbnaaDoorOwn
import Derived.Test.YtfdahfealibbnaaDoorRdFix
import Derived.WalkKit
import Derived.WalkSpells
import Derived.WalkLawsBesides
namespace Go.Proofs.YtfdahfealibbnaaDoor
open Go.RowKit

theorem Tryd.infoU8 : (Tryd.prog.info? 5).map (fun i => (i.zero, i.size, i.bytes)) = some (some (.int .u8 0), 1, 1) := by kernel_rfl

/-- the k lowest bytes of n, the highest first -/
def beB : Nat → Int → List UInt8
  | 0, _ => []
  | k + 1, n => UInt8.ofNat (n / 256 ^ k % 256).toNat :: beB k n

def fixL (k : Nat) (n : Int) : List UInt8 := if n / 256 ^ k = 0 then beB k n else []

theorem beB_length : ∀ k n, (beB k n).length = k
  | 0, _ => rfl
  | k + 1, n => by simp [beB, beB_length k n]

theorem p8 (d : Nat) : (2 : Int) ^ (8 * d) = 256 ^ d := by rw [Int.pow_mul]; rfl

theorem fix_start (d : Nat) (n : Int) : bytesV (List.replicate (d - 0) 0 ++ beB 0 n) = (madeCells #[.int .u8 0] (d * 1)).toList := by
  rw [toList_madeCells_one]; simp [bytesV, beB]

theorem fix_step (d k : Nat) (n : Int) (h : k < d) : (bytesV (List.replicate (d - k) 0 ++ beB k n)).set (d - 1 - k) (.int .u8 (n / 256 ^ k % 256)) = bytesV (List.replicate (d - (k + 1)) 0 ++ beB (k + 1) n) := by
  have e1 : List.replicate (d - k) (0 : UInt8) = List.replicate (d - (k + 1)) 0 ++ [0] := by
    rw [show d - k = (d - (k + 1)) + 1 from by omega, List.replicate_succ']
  have hb : (0 : Int) ≤ n / 256 ^ k % 256 ∧ n / 256 ^ k % 256 < 256 := by omega
  rw [e1]
  simp only [bytesV, List.map_append, beB, List.map_cons, List.append_assoc, List.cons_append, List.nil_append]
  rw [List.set_append_right _ _ (by simp; omega)]
  simp only [List.length_map, List.length_replicate]
  rw [show d - 1 - k - (d - (k + 1)) = 0 from by omega, List.set_cons_zero]
  congr 3
  simp
  omega

theorem str_cons (b : UInt8) (l : List UInt8) : Value.string ((⟨#[b]⟩ : ByteArray) ++ ⟨l.toArray⟩) = Value.string ⟨(b :: l).toArray⟩ := by
  congr 1

theorem quo_bd (n : Int) (k : Nat) (h0 : 0 ≤ n) (h1 : n ≤ 9223372036854775807) : 0 ≤ n / 256 ^ k ∧ n / 256 ^ k ≤ 9223372036854775807 := by
  have hp : (0 : Int) < 256 ^ k := Int.pow_pos (by decide)
  have h2 : n / 256 ^ k ≤ n := Int.ediv_le_self _ h0
  exact ⟨Int.ediv_nonneg h0 (by omega), by omega⟩

theorem quo_succ (n : Int) (k : Nat) : n / 256 ^ (k + 1) = n / 256 ^ k / 256 := by
  rw [Int.pow_succ, Int.ediv_ediv_of_nonneg (Int.pow_nonneg (by decide))]

set_option maxHeartbeats 400000 in
theorem sFixed_no (n d : Int) (w : World) (h : inB d 1 7 = false ∨ n < 0) :
    Calls Tryd.prog 23 #[.int .i64 n, .int .i64 d] w fun e w' => e = .returned (.string ⟨#[]⟩) ∧ w = w' := by
  cases hb : inB d 1 7
  · go_enter Tryd.func23, Tryd.ntmps23
    go_wp2_with (go_at_call 43; refine (in_any _ _ _ _).mono ?_; rintro e w' ⟨rfl, rfl⟩)
    go_ret
    exact ⟨rfl, rfl⟩
  · have h1 : n < 0 := by simpa [hb] using h
    clear h
    go_enter Tryd.func23, Tryd.ntmps23
    go_wp2_with (go_at_call 43; refine (in_any _ _ _ _).mono ?_; rintro e w' ⟨rfl, rfl⟩)
    go_ret
    exact ⟨rfl, rfl⟩

set_option maxRecDepth 100000 in
set_option maxHeartbeats 400000 in
theorem sFixed_yes (n : Int) (d : Nat) (w : World) (hb : inB d 1 7 = true) (hn : 0 ≤ n) (hm : n ≤ 9223372036854775807) :
    Calls Tryd.prog 23 #[.int .i64 n, .int .i64 d] w fun e w' => e = .returned (.string ⟨(fixL d n).toArray⟩) ∧ Below w.heap.size w w' := by
  have hd : d ≤ 7 := by have := inB_le hb; omega
  go_enter Tryd.func23, Tryd.ntmps23
  go_wp2_with (go_at_call 43; refine (in_any _ _ _ _).mono ?_; rintro e w' ⟨rfl, rfl⟩)
  go_loopw [0, 5, 6] (fun q v i wr => ∃ k : Nat, k ≤ d ∧ i = .int .i64 k ∧ q = .int .i64 (n / 256 ^ k) ∧ v = .string ⟨(beB k n).toArray⟩ ∧ Below w.heap.size w wr) (fun _ _ i _ => d - (intOf i).toNat)
  case atStart => exact ⟨0, Nat.zero_le _, rfl, by simp, rfl, Below.refl _ _⟩
  case round =>
    obtain ⟨k, hk, rfl, rfl, rfl, hbel⟩ := hrel
    have hq := quo_bd n k hn hm
    have hlen := beB_length k n
    have hsz : (⟨(beB k n).toArray⟩ : ByteArray).size ≤ 7 := by simp [ByteArray.size, hlen]; omega
    by_cases hlt : k < d
    · have HB : Hid (beB (k + 1) n = UInt8.ofNat (n / 256 ^ k % 256).toNat :: beB k n) := rfl
      have HQ : Hid (n / 256 ^ (k + 1) = n / 256 ^ k / 256) := quo_succ n k
      generalize n / 256 ^ k = q at *
      generalize beB k n = l at *
      have hcv := one_string (P := Tryd.prog) wr (E := 5) (S := 37) (T := 9) (q % 256) (by omega) (by omega) Tryd.underlying37 Tryd.underlying5 Tryd.underlying9
      go_wp2
      go_roundw
      case rel => exact ⟨k + 1, by omega, by go_num, by rw [HQ.out], by rw [HB.out]; exact str_cons _ _, hbel.alloc hbel.size _⟩
      case measure => simp [intOf]; omega
    · have hkd : k = d := by omega
      subst hkd
      clear hlt
      by_cases hz : n / 256 ^ k = 0
      · have HF : Hid (fixL k n = beB k n) := by unfold fixL; rw [if_pos hz]; exact rfl
        rw [hz]
        go_wp2
        go_ret
        exact ⟨ret_str (by rw [HF.out]), hbel⟩
      · have HF : Hid (fixL k n = []) := by unfold fixL; rw [if_neg hz]; exact rfl
        have hpos : 0 < n / 256 ^ k := by omega
        clear hz
        generalize n / 256 ^ k = q at *
        go_wp2
        go_ret
        exact ⟨ret_str (by rw [HF.out]), hbel⟩

set_option maxHeartbeats 400000 in
theorem iFixed_no (n d : Int) (w : World) (h : inB d 1 7 = false ∨ n < 0) :
    Calls Tryd.prog 47 #[.int .i64 n, .int .i64 d] w fun e w' => e = .returned (.string ⟨#[]⟩) ∧ w = w' := by
  cases hb : inB d 1 7
  · go_enter Tryd.func47, Tryd.ntmps47
    go_wp2_with (go_at_call 60; refine (widthOk_any _ _).mono ?_; rintro e w' ⟨rfl, rfl⟩)
    go_ret
    exact ⟨rfl, rfl⟩
  · have h1 : n < 0 := by simpa [hb] using h
    clear h
    go_enter Tryd.func47, Tryd.ntmps47
    go_wp2_with (go_at_call 60; refine (widthOk_any _ _).mono ?_; rintro e w' ⟨rfl, rfl⟩)
    go_ret
    exact ⟨rfl, rfl⟩

set_option maxRecDepth 100000 in
set_option maxHeartbeats 400000 in
theorem iFixed_yes (n : Int) (d : Nat) (w : World) (hb : inB d 1 7 = true) (hn : 0 ≤ n) (hm : n ≤ 9223372036854775807) :
    Calls Tryd.prog 47 #[.int .i64 n, .int .i64 d] w fun e w' => e = .returned (.string ⟨(fixL d n).toArray⟩) ∧ Below w.heap.size w w' := by
  have hd := inB_le hb
  have hp8 := p8 d
  cases hz : (n / 2 ^ (8 * d) != 0)
  case true =>
    have HF : Hid (fixL d n = []) := by unfold fixL; rw [if_neg (by rw [← hp8]; simpa using hz)]; exact rfl
    clear hp8
    go_enter Tryd.func47, Tryd.ntmps47
    go_wp2_with (go_at_call 60; refine (widthOk_any _ _).mono ?_; rintro e w' ⟨rfl, rfl⟩)
    go_ret
    exact ⟨ret_str (by rw [HF.out]), Below.refl _ _⟩
  case false =>
    have HF : Hid (fixL d n = beB d n) := by unfold fixL; rw [if_pos (by rw [← hp8]; simpa using hz)]; exact rfl
    clear hp8
    obtain ⟨i0, hi, hz0, hz1, hz2⟩ := info_parts Tryd.infoU8
    go_enter Tryd.func47, Tryd.ntmps47
    go_wp2_with (first | (go_at_call 60; refine (widthOk_any _ _).mono ?_; rintro e w' ⟨rfl, rfl⟩) | (at_make; refine wpList_make_full _ rfl _ _ 37 rfl w.heap.size 5 i0 (.int .u8 0) 1 Tryd.underlying37 hi hz0 hz1 .i64 .i64 _ _ d rfl rfl rfl rfl (by rw [hz2]; omega) (by unfold maxLen; omega) (Nat.le_refl _) ?_; intro w1 hown1 hgrow1))
    have hown2 : w1.ownsRow w.heap.size 5 1 (.slice (some ⟨w.heap.size, 0, none⟩) d d) d (bytesV (List.replicate (d - 0) 0 ++ beB 0 n)) := by
      rw [fix_start d n]; simpa [Value.cells] using hown1
    have hbel2 : Below w.heap.size w w1 := (Below.refl _ _).grown hgrow1 (Nat.le_refl _) (fun _ h => by cases h)
    clear hown1 hgrow1
    go_wp2
    go_loopw [24] (fun i wr => ∃ k : Nat, k ≤ d ∧ i = .int .i64 k ∧ wr.ownsRow w.heap.size 5 1 (.slice (some ⟨w.heap.size, 0, none⟩) d d) d (bytesV (List.replicate (d - k) 0 ++ beB k n)) ∧ Below w.heap.size w wr) (fun i _ => d - (intOf i).toNat)
    case atStart => exact ⟨0, Nat.zero_le _, rfl, hown2, hbel2⟩
    case round =>
      obtain ⟨k, hk, rfl, hown, hbel⟩ := hrel
      by_cases hlt : k < d
      · have hfz := hown.frozenAt (d - 1 - k)
        obtain ⟨u, hcl⟩ : ∃ u, wr.cell? ⟨w.heap.size, d - 1 - k, none⟩ = some u := ⟨_, (hown.cellAt (d - 1 - k) (by omega)).trans (List.getElem?_eq_getElem (by have := hown.1; omega))⟩
        have hst := hown.stored (d - 1 - k) (.int .u8 (n / 2 ^ (8 * k) % 256))
        have hp := p8 k
        have hst2 : Hid ((wr.setCell ⟨w.heap.size, d - 1 - k, none⟩ (.int .u8 (n / 2 ^ (8 * k) % 256))).ownsRow w.heap.size 5 1 (.slice (some ⟨w.heap.size, 0, none⟩) d d) d (bytesV (List.replicate (d - (k + 1)) 0 ++ beB (k + 1) n))) := by
          have h1 := hst.1
          rw [← fix_step d k n hlt]
          rw [hp] at h1 ⊢
          exact h1
        clear hst hp
        go_wp2
        go_roundw
        case rel => exact ⟨k + 1, by omega, by go_num, hst2.out, hbel.setCell (Nat.le_refl _) _⟩
        case measure => simp [intOf]; omega
      · have hkd : k = d := by omega
        subst hkd
        clear hlt
        have hcv := row_string (P := Tryd.prog) (T := 9) Tryd.underlying37 Tryd.underlying5 Tryd.underlying9 hown
        rw [Nat.sub_self, List.replicate_zero, List.nil_append] at hcv
        go_wp2
        go_ret
        exact ⟨ret_str (by rw [HF.out]), hbel⟩

end Go.Proofs.YtfdahfealibbnaaDoor
