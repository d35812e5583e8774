/- Signs: spec.Known. Signs: impl.between. Signs: impl.Known: the table of ranges, read whole, and its contract. Rows of bytes that a call has made: what they are as strings, and one byte more. No word of the program. -/
import Derived.Test.YtlkemmdcjnaepaaDoorRows
import Derived.Test.YtlkemmdcjnaepaaDoorG00
import Derived.Deep.QuietTactic
import Derived.BigQuiet
import Derived.WalkKit
import Derived.WalkSpells
import Derived.WalkLawsBesides
import Derived.Laws.Cells
import Derived.Laws.IdiomStrings
namespace Go.Proofs.YtlkemmdcjnaepaaDoor

section
open Go.RowKit

def knF : List Int := [32, 161, 768, 776, 778, 803, 807, 902, 904, 908, 910, 913, 931, 940, 945, 972, 1040, 469, 7840, 7852, 8486, 8491, 4352, 4449, 4520, 44032]
def knT : List Int := [126, 255, 772, 776, 778, 803, 807, 902, 906, 908, 911, 929, 937, 943, 969, 974, 1103, 470, 7841, 7853, 8486, 8491, 4370, 4469, 4546, 55203]
def knAny (c : Int) : Bool := (List.range 26).any fun t => inB c (knF.getD t 0) (knT.getD t 0)
def knB (c : Int) : Bool := knAny c && c != 47

theorem knAny_yes (c : Int) (t : Nat) (ht : t < 26) (h : inB c (knF.getD t 0) (knT.getD t 0) = true) : knAny c = true :=
  List.any_eq_true.2 ⟨t, List.mem_range.2 ht, h⟩
theorem knAny_no (c : Int) (h : ∀ t, t < 26 → inB c (knF.getD t 0) (knT.getD t 0) = false) : knAny c = false := by
  cases e : knAny c with
  | false => rfl
  | true =>
    obtain ⟨t, ht, h'⟩ := List.any_eq_true.1 e
    rw [h t (List.mem_range.1 ht)] at h'
    exact h'.symm

theorem lits_two (w : World) (cs ds : Array Value) (l m : List Int) (n g : Nat) (hcs : cs.toList = intsV l) (hn : l.length = n) (hds : ds.toList = intsV m) (hm : m.length = n) (hl : n ≤ 1000) (hg : g = w.heap.size + 1) :
    (∀ t, t < n → ((w.alloc (.cells cs 3)).alloc (.cells ds 3)).cell? ⟨w.heap.size, t, none⟩ = some (.int .i64 (l.getD t 0))) ∧
    (∀ t, t < n → ((w.alloc (.cells cs 3)).alloc (.cells ds 3)).cell? ⟨g, t, none⟩ = some (.int .i64 (m.getD t 0))) ∧
    Below w.heap.size w ((w.alloc (.cells cs 3)).alloc (.cells ds 3)) ∧ ((w.alloc (.cells cs 3)).alloc (.cells ds 3)).heap.size = w.heap.size + 2 := by
  have h1 := lit_at w cs l n hcs hn hl
  have h2 := lit_at (w.alloc (.cells cs 3)) ds m n hds hm hl
  have hb := below_lit w (.cells cs 3)
  have hb2 := below_lit (w.alloc (.cells cs 3)) (.cells ds 3)
  have h1' := h1.below hb2
  have e : (w.alloc (.cells cs 3)).heap.size = w.heap.size + 1 := by simp
  rw [e] at h2
  subst hg
  have f1 : ∀ t, t < n → ((w.alloc (.cells cs 3)).alloc (.cells ds 3)).cell? ⟨w.heap.size, t, none⟩ = some (.int .i64 (l.getD t 0)) := fun t ht => by
    unfold IntRow at h1'; rw [hn] at h1'
    rw [World.ownsRow.cellAt h1' t (by omega)]; exact intsV_get l t (by omega)
  have f2 : ∀ t, t < n → ((w.alloc (.cells cs 3)).alloc (.cells ds 3)).cell? ⟨w.heap.size + 1, t, none⟩ = some (.int .i64 (m.getD t 0)) := fun t ht => by
    unfold IntRow at h2; rw [hm] at h2
    rw [World.ownsRow.cellAt h2 t (by omega)]; exact intsV_get m t (by omega)
  exact ⟨f1, f2, hb.trans (hb2.mono (by simp)), by simp⟩

theorem in_val (x l h : Int) (b : Bool) (hb : inB x l h = b) (w : World) :
    Calls Tryd.prog 40 #[.int .i64 x, .int .i64 l, .int .i64 h] w fun e w' => e = .returned (.bool b) ∧ w' = w :=
  (in_any _ _ _ _).mono fun _ _ h => ⟨by rw [h.1, hb], h.2.symm⟩

set_option maxRecDepth 100000 in
set_option maxHeartbeats 1000000 in
theorem sKnown (c : Int) (w : World) :
    Calls Tryd.prog 42 #[.int .i64 c] w fun e w' => e = .returned (.bool (knB c)) ∧ Below w.heap.size w w' := by
  have HY := fun t ht h => knAny_yes c t ht h
  have HN := knAny_no c
  have HR : Hid (knB c = (knAny c && c != 47)) := rfl
  generalize knAny c = r at HY HN HR
  generalize knB c = q at HR ⊢
  go_enter Tryd.func42, Tryd.ntmps42
  go_wp2
  obtain ⟨f1, f2, hb0, hs0⟩ := lits_two w #[.int .i64 32, .int .i64 161, .int .i64 768, .int .i64 776, .int .i64 778, .int .i64 803, .int .i64 807, .int .i64 902, .int .i64 904, .int .i64 908, .int .i64 910, .int .i64 913, .int .i64 931, .int .i64 940, .int .i64 945, .int .i64 972, .int .i64 1040, .int .i64 469, .int .i64 7840, .int .i64 7852, .int .i64 8486, .int .i64 8491, .int .i64 4352, .int .i64 4449, .int .i64 4520, .int .i64 44032]
    #[.int .i64 126, .int .i64 255, .int .i64 772, .int .i64 776, .int .i64 778, .int .i64 803, .int .i64 807, .int .i64 902, .int .i64 906, .int .i64 908, .int .i64 911, .int .i64 929, .int .i64 937, .int .i64 943, .int .i64 969, .int .i64 974, .int .i64 1103, .int .i64 470, .int .i64 7841, .int .i64 7853, .int .i64 8486, .int .i64 8491, .int .i64 4370, .int .i64 4469, .int .i64 4546, .int .i64 55203]
    knF knT 26 _ rfl rfl rfl rfl (by decide) rfl
  generalize (w.alloc (.cells #[.int .i64 32, .int .i64 161, .int .i64 768, .int .i64 776, .int .i64 778, .int .i64 803, .int .i64 807, .int .i64 902, .int .i64 904, .int .i64 908, .int .i64 910, .int .i64 913, .int .i64 931, .int .i64 940, .int .i64 945, .int .i64 972, .int .i64 1040, .int .i64 469, .int .i64 7840, .int .i64 7852, .int .i64 8486, .int .i64 8491, .int .i64 4352, .int .i64 4449, .int .i64 4520, .int .i64 44032] 3)).alloc (.cells #[.int .i64 126, .int .i64 255, .int .i64 772, .int .i64 776, .int .i64 778, .int .i64 803, .int .i64 807, .int .i64 902, .int .i64 906, .int .i64 908, .int .i64 911, .int .i64 929, .int .i64 937, .int .i64 943, .int .i64 969, .int .i64 974, .int .i64 1103, .int .i64 470, .int .i64 7841, .int .i64 7853, .int .i64 8486, .int .i64 8491, .int .i64 4370, .int .i64 4469, .int .i64 4546, .int .i64 55203] 3) = w2 at f1 f2 hb0 hs0 ⊢
  go_loopw [5] (fun i wr => ∃ k : Nat, k ≤ 26 ∧ i = .int .i64 k ∧ (∀ t, t < k → inB c (knF.getD t 0) (knT.getD t 0) = false) ∧ Below w2.heap.size w2 wr) (fun i _ => 26 - (intOf i).toNat)
  case atStart => exact ⟨0, Nat.zero_le _, rfl, fun t ht => by omega, Below.refl _ _⟩
  case round =>
    obtain ⟨k, hk, rfl, hne, hbel⟩ := hrel
    by_cases hlt : k < 26
    · have hc1 := (hbel.cell (p := ⟨w.heap.size, k, none⟩) (by show w.heap.size < _; omega)).trans (f1 k hlt)
      have hc2 := (hbel.cell (p := ⟨w.heap.size + 1, k, none⟩) (by show w.heap.size + 1 < _; omega)).trans (f2 k hlt)
      have HK : Hid (inB c (knF.getD k 0) (knT.getD k 0) = true → r = true) := HY k hlt
      obtain ⟨x, HX⟩ : ∃ x, Hid (x = knF.getD k 0) := ⟨_, rfl⟩
      obtain ⟨y, HY2⟩ : ∃ y, Hid (y = knT.getD k 0) := ⟨_, rfl⟩
      rw [← HX.out] at hc1 HK
      rw [← HY2.out] at hc2 HK
      have hkn : (k : Int) < 26 := by omega
      have hk0 : (0 : Int) ≤ (k : Int) := by omega
      have HB1 : Hid (Below w.heap.size w wr) := hb0.trans (hbel.mono (by omega))
      cases hin : inB c x y
      · go_wp2
        go_quiet ((go_at_call 40; exact Calls.quiet_of_same (in_val c x y _ hin _)))
        go_wp2
        go_roundw
        case rel => exact ⟨k + 1, by omega, by go_num, fun t ht => by
          by_cases htk : t < k
          · exact hne t htk
          · obtain rfl : t = k := by omega
            rw [← HX.out, ← HY2.out]; exact hin, below_drewN hbel _⟩
        case measure => simp [intOf]; omega
      · obtain rfl := HK.out hin
        go_wp2
        go_quiet ((go_at_call 40; exact Calls.quiet_of_same (in_val c x y _ hin _)))
        go_wp2
        go_ret
        exact ⟨by rw [HR.out]; rfl, below_drewN HB1.out _⟩
    · obtain rfl : k = 26 := by omega
      obtain rfl := HN hne
      have HB1 : Hid (Below w.heap.size w wr) := hb0.trans (hbel.mono (by omega))
      go_wp2
      go_ret
      exact ⟨by rw [HR.out]; rfl, HB1.out⟩
end

section
open Go.RowKit

theorem btw_any (x l h : Int) (w : World) :
    Calls Tryd.prog 99 #[.int .i64 x, .int .i64 l, .int .i64 h] w fun e w' => e = .returned (.bool (inB x l h)) ∧ w = w' := by
  go_enter Tryd.func99, Tryd.ntmps99
  go_wp2
  all_goals go_ret
  · exact ⟨ret_bool (by simp [inB]; omega), rfl⟩
  · exact ⟨ret_bool (by simp [inB]; omega), rfl⟩

theorem hs_alloc (w : World) (o : Obj) : (w.alloc o).heap.size = w.heap.size + 1 := by simp
end

section
open Go.RowKit

def ikT : List Int := [32, 46, 48, 126, 161, 255, 469, 470, 768, 772, 776, 776, 778, 778, 803, 803, 807, 807, 902, 902, 904, 906, 908, 908, 910, 911, 913, 929, 931, 937, 940, 943, 945, 969, 972, 974, 1040, 1103, 4352, 4370, 4449, 4469, 4520, 4546, 7840, 7841, 7852, 7853, 8486, 8486, 8491, 8491, 44032, 55203]
def ikAny (c : Int) : Bool := (List.range 27).any fun t => inB c (ikT.getD (2 * t) 0) (ikT.getD (2 * t + 1) 0)

theorem ikAny_yes (c : Int) (t : Nat) (ht : t < 27) (h : inB c (ikT.getD (2 * t) 0) (ikT.getD (2 * t + 1) 0) = true) : ikAny c = true :=
  List.any_eq_true.2 ⟨t, List.mem_range.2 ht, h⟩
theorem ikAny_no (c : Int) (h : ∀ t, t < 27 → inB c (ikT.getD (2 * t) 0) (ikT.getD (2 * t + 1) 0) = false) : ikAny c = false := by
  cases e : ikAny c with
  | false => rfl
  | true =>
    obtain ⟨t, ht, h'⟩ := List.any_eq_true.1 e
    rw [h t (List.mem_range.1 ht)] at h'
    exact h'.symm
set_option maxRecDepth 100000 in
theorem ikAny_iff (c : Int) : ikAny c = true ↔ knB c = true := by
  simp [ikAny, knB, knAny, List.range_succ, inB, ikT, knF, knT]
  omega
theorem ikAny_kn (c : Int) : ikAny c = knB c := by
  have := ikAny_iff c
  cases h1 : ikAny c <;> cases h2 : knB c <;> simp_all

theorem ext_two (a : Array Value) (n : Nat) (x y : Value) (h : n + 1 < a.size) (hx : a[n]? = some x) (hy : a[n + 1]? = some y) : a.extract n (n + 2) = #[x, y] := by
  apply Array.ext
  · simp; omega
  · intro i h1 h2
    have hi : i < 2 := by simpa using h2
    match i, hi with
    | 0, _ => simp; rw [Array.getElem?_eq_getElem (by omega)] at hx; exact Option.some.inj hx
    | 1, _ => simp; rw [Array.getElem?_eq_getElem (by omega)] at hy; exact Option.some.inj hy

set_option maxRecDepth 100000 in
/-- the table, read whole -/
theorem ik_open (w : World) (hw : ∀ i, i < 54 → w.cell? ⟨2, i, none⟩ = some (.int .i64 (ikT.getD i 0))) :
    ∃ A : Array Value, ((loadCells ⟨2, 0, none⟩ 54).run Tryd.prog w = .ok A w) ∧
      ∀ k : Nat, k < 27 → ∀ w', (Instr.index 127 (.agg A) (.int .i64 (k : Int))).run Tryd.prog w' = .ok (.agg #[.int .i64 (ikT.getD (2 * k) 0), .int .i64 (ikT.getD (2 * k + 1) 0)]) w' := by
  have hlen : (intsV ikT).length = 54 := by rfl
  have hget : ∀ j, j < 54 → (intsV ikT)[j]? = some (.int .i64 (ikT.getD j 0)) := fun j hj => intsV_get ikT j (by show j < 54; exact hj)
  have h1 : (loadCells ⟨2, 0, none⟩ 54).run Tryd.prog w = .ok (intsV ikT).toArray w := by
    have := run_loadCells_list (P := Tryd.prog) w ⟨2, 0, none⟩ (intsV ikT) (fun j v hv => by
      have hj : j < 54 := by rw [← hlen]; exact (List.getElem?_eq_some_iff.1 hv).1
      rw [hget j hj] at hv
      rw [Addr.add_lit, Nat.zero_add, hw j hj]; exact hv)
    rwa [hlen] at this
  have ha2 : ∀ w : World, (isAgg 126).run Tryd.prog w = .ok true w := fun w => by kernel_rfl
  have hs2 : ∀ w : World, (Go.sizeOf 126).run Tryd.prog w = .ok 2 w := fun w => by kernel_rfl
  obtain ⟨A, hA⟩ : ∃ A, A = (intsV ikT).toArray := ⟨_, rfl⟩
  rw [← hA] at h1
  have hsz : A.size = 54 := by rw [hA]; rfl
  have hgt : ∀ j, j < 54 → A[j]? = some (.int .i64 (ikT.getD j 0)) := fun j hj => by rw [hA]; simpa using hget j hj
  clear hA hget hlen
  refine ⟨A, h1, fun k hk w' => ?_⟩
  · have hu := run_underlying Tryd.underlying127
    have he : A.extract (k * 2) (k * 2 + 2) = #[.int .i64 (ikT.getD (2 * k) 0), .int .i64 (ikT.getD (2 * k + 1) 0)] := by
      refine ext_two _ _ _ _ (by omega) ?_ ?_
      · rw [show k * 2 = 2 * k by omega]; exact hgt (2 * k) (by omega)
      · rw [show k * 2 = 2 * k by omega]; exact hgt (2 * k + 1) (by omega)
    simp [Instr.index, asIntOf, hu, hk, part, ha2, hs2, he]

/-- a load whose run is known -/
theorem wpList_load_at {P : Program} (w : World) {ops : Array Oper} {rest : List Oper} {o : Oper} {a : Act} {Q : Exit → Act → World → Prop} (hg : o.guard = none) (t : TypeId) (x : Operand) (hop : o.op = .load t x)
    (v : Value) (hrun : (Instr.loadAt t (a.eval x)).run P w = .ok v w) (h : wpList P ops Q rest (a.put o.dst v) w) : wpList P ops Q (o :: rest) a w := by
  refine wpList_plain hg fun K' hK' => ?_
  unfold Oper.wp
  simp [execOp, hop, hrun, Result.andThen]
  exact hK' _ _ h

theorem ik_load (w : World) (A : Array Value) (h : (loadCells ⟨2, 0, none⟩ 54).run Tryd.prog w = .ok A w) : (Instr.loadAt 127 (.pointer (some ⟨2, 0, none⟩))).run Tryd.prog w = .ok (.agg A) w := by
  have ha : ∀ w : World, (isAgg 127).run Tryd.prog w = .ok true w := fun w => by kernel_rfl
  have hs : ∀ w : World, (Go.sizeOf 127).run Tryd.prog w = .ok 54 w := fun w => by kernel_rfl
  simp [Instr.loadAt, Instr.sureAddr, loadVar, ha, hs, h]

set_option maxRecDepth 100000 in
set_option maxHeartbeats 1000000 in
theorem iKnown (c : Int) (w : World) (hw : ∀ i, i < 54 → w.cell? ⟨2, i, none⟩ = some (.int .i64 (ikT.getD i 0))) :
    Calls Tryd.prog 109 #[.int .i64 c] w fun e w' => e = .returned (.bool (knB c)) ∧ Below w.heap.size w w' := by
  rw [← ikAny_kn]
  have HY := fun t ht h => ikAny_yes c t ht h
  have HN := ikAny_no c
  generalize ikAny c = r at HY HN ⊢
  obtain ⟨A, hload0, hidx⟩ := ik_open w hw
  have hload : Hid ((Instr.loadAt 127 (.pointer (some ⟨2, 0, none⟩))).run Tryd.prog w = .ok (.agg A) w) := ik_load w A hload0
  have HIX : Hid (∀ k : Nat, k < 27 → ∀ w', (Instr.index 127 (.agg A) (.int .i64 (k : Int))).run Tryd.prog w' = .ok (.agg #[.int .i64 (ikT.getD (2 * k) 0), .int .i64 (ikT.getD (2 * k + 1) 0)]) w') := hidx
  clear hw hload0 hidx
  go_enter Tryd.func109, Tryd.ntmps109
  go_wp2_with (refine wpList_load_at w rfl 127 (.global 2) rfl (.agg A) hload.out ?_)
  go_loopw [6] (fun i wr => ∃ k : Nat, k ≤ 27 ∧ i = .int .i64 k ∧ (∀ t, t < k → inB c (ikT.getD (2 * t) 0) (ikT.getD (2 * t + 1) 0) = false) ∧ Below w.heap.size w wr) (fun i _ => 27 - (intOf i).toNat)
  case atStart => exact ⟨0, Nat.zero_le _, rfl, fun t ht => by omega, Below.refl _ _⟩
  case round =>
    obtain ⟨k, hk, rfl, hne, hbel⟩ := hrel
    by_cases hlt : k < 27
    · have hx := HIX.out k hlt wr
      have HK : Hid (inB c (ikT.getD (2 * k) 0) (ikT.getD (2 * k + 1) 0) = true → r = true) := HY k hlt
      obtain ⟨x, HX⟩ : ∃ x, Hid (x = ikT.getD (2 * k) 0) := ⟨_, rfl⟩
      obtain ⟨y, HY2⟩ : ∃ y, Hid (y = ikT.getD (2 * k + 1) 0) := ⟨_, rfl⟩
      rw [← HX.out, ← HY2.out] at hx HK
      have hkn : (k : Int) < 27 := by omega
      have hk0 : (0 : Int) ≤ (k : Int) := by omega
      cases hin : inB c x y
      · go_wp2_with (go_at_call 99; refine (btw_any _ _ _ _).mono ?_; rintro e w' ⟨rfl, rfl⟩)
        go_roundw
        case rel => exact ⟨k + 1, by omega, by go_num, fun t ht => by
          by_cases htk : t < k
          · exact hne t htk
          · obtain rfl : t = k := by omega
            rw [← HX.out, ← HY2.out]; exact hin, hbel.alloc hbel.size _⟩
        case measure => simp [intOf]; omega
      · obtain rfl := HK.out hin
        go_wp2_with (go_at_call 99; refine (btw_any _ _ _ _).mono ?_; rintro e w' ⟨rfl, rfl⟩)
        go_ret
        exact ⟨rfl, hbel.alloc hbel.size _⟩
    · obtain rfl : k = 27 := by omega
      obtain rfl := HN hne
      go_wp2
      go_ret
      exact ⟨rfl, hbel⟩
end

section
open Go.RowKit

def bytesV (l : List UInt8) : List Value := l.map fun b => .int .u8 (b.toNat : Int)

theorem bytesV_length (l : List UInt8) : (bytesV l).length = l.length := by simp [bytesV]
theorem bytesV_append (l m : List UInt8) : bytesV (l ++ m) = bytesV l ++ bytesV m := by simp [bytesV]
theorem bytesV_one (b : UInt8) : bytesV [b] = [.int .u8 (b.toNat : Int)] := rfl

/-- 'string(b)' where b is a row of bytes that the call owns. -/
theorem row_string {P : Program} {w : World} {base : Nat} {E S T : TypeId} {v : Value} {n : Nat} {l : List UInt8}
    (hS : P.underlying S = some (.slice E)) (hE : P.underlying E = some (.int .u8)) (hT : P.underlying T = some .string)
    (hown : w.ownsRow base E 1 v n (bytesV l)) : (convert S T v).run P w = .ok (.string ⟨l.toArray⟩) w := by
  have hn : l.length = n := by have := hown.1; rw [bytesV_length] at this; omega
  subst hn
  rcases hown.2 with ⟨rfl, h0⟩ | ⟨g, cap, cur, rfl, hg, hh, hnc, hcp, hcs, htake⟩
  · obtain rfl : l = [] := List.length_eq_zero_iff.1 h0
    rw [run_convert_bytes_string w S T E none 0 0 hS hE hT]
    rfl
  · exact run_convert_bytes_back w S T E ⟨g, 0, none⟩ cap l hS hE hT fun j hj => by
      rw [Addr.add_lit, Nat.zero_add, hown.cellAt j (by omega)]
      simp [bytesV, hj]

/-- 'string([]byte{x})' -/
theorem one_string {P : Program} (w : World) {E S T : TypeId} (x : Int) (h0 : 0 ≤ x) (h1 : x < 256)
    (hS : P.underlying S = some (.slice E)) (hE : P.underlying E = some (.int .u8)) (hT : P.underlying T = some .string) :
    (convert S T (.slice (some ⟨w.heap.size, 0, none⟩) 1 1)).run P (w.alloc (.cells #[.int .u8 x] E)) = .ok (.string ⟨#[UInt8.ofNat x.toNat]⟩) (w.alloc (.cells #[.int .u8 x] E)) := by
  have h := run_convert_bytes_back (P := P) (w.alloc (.cells #[.int .u8 x] E)) S T E ⟨w.heap.size, 0, none⟩ 1 [UInt8.ofNat x.toNat] hS hE hT (fun j hj => by
    have hj0 : j = 0 := by simp at hj; omega
    subst hj0
    rw [Addr.add_lit, Nat.zero_add, World.cell?_alloc_mark]
    simp
    omega)
  simpa using h

/-- '[]byte{}' -/
theorem empty_row (w : World) (E : TypeId) : (w.alloc (.cells #[] E)).ownsRow w.heap.size E 1 (.slice (some ⟨w.heap.size, 0, none⟩) 0 0) ([] : List UInt8).length (bytesV []) := by
  have h := World.ownsRow_lit (base := w.heap.size) (e := E) (size := 1) w #[] 0 (Nat.le_refl _) (by unfold maxLen; omega) (by simp)
  simpa [bytesV] using h

/-- 'append(out, b)', out a row of bytes of the call's own. -/
theorem append_byte {P : Program} (w : World) {ops : Array Oper} {rest : List Oper} {o : Oper} {a : Act} {Q : Exit → Act → World → Prop} (hgd : o.guard = none) (s x : Operand) (S E : TypeId)
    (ho : o.op = .call { callee := .builtin .append, args := #[s, x], argTypes := #[S, S] }) (base : Nat)
    (hS : P.underlying S = some (.slice E)) (hI : (P.info? E).map (fun i => (i.zero, i.size, i.bytes)) = some (some (.int .u8 0), 1, 1))
    (v : Value) (l : List UInt8) (X : Int) (h0 : 0 ≤ X) (h1 : X < 256) (hl : l.length + 1 ≤ 140737488355328) (hown : w.ownsRow base E 1 v l.length (bytesV l)) (hs : a.eval s = v) (hx : a.eval x = .slice (some ⟨w.heap.size, 0, none⟩) 1 1)
    (hbase : base ≤ w.heap.size)
    (h : ∀ v' w', w'.ownsRow base E 1 v' (l ++ [UInt8.ofNat X.toNat]).length (bytesV (l ++ [UInt8.ofNat X.toNat])) → Below base w w' → wpList P ops Q rest (a.put o.dst v') w') :
    wpList P ops Q (o :: rest) a (w.alloc (.cells #[.int .u8 X] E)) := by
  obtain ⟨i0, hi, hz0, hz1, hz2⟩ := info_parts hI
  refine wpList_append_own _ hgd s x S ho base E i0 (.int .u8 0) 1 1 hS hi hz0 hz1 hz2 rfl (by decide) v l.length (bytesV l) hs (hown.alloc _) ⟨w.heap.size, 0, none⟩ 1 1 [.int .u8 X] hx rfl (cell_one_new _ _ _) ?_ (by unfold maxLen; omega) (by omega) (by simp; omega) ?_
  · intro u hu; simp at hu; subst hu; rfl
  · intro v' w' hown' hgrow _
    refine h v' w' ?_ ?_
    · have e : ((UInt8.ofNat X.toNat).toNat : Int) = X := by simp; omega
      rw [bytesV_append, bytesV_one, e, List.length_append]
      exact hown'
    · refine ((Below.refl base w).alloc hbase _).grown hgrow (by simp; omega) ?_
      intro k hk
      rcases hown.2 with ⟨rfl, _⟩ | ⟨g, cap, cur, rfl, hg, _⟩
      · simp [Value.ownBlock] at hk
      · simp [Value.ownBlock] at hk; omega
end

end Go.Proofs.YtlkemmdcjnaepaaDoor
