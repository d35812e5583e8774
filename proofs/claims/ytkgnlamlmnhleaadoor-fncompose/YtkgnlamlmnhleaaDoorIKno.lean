/- Signs: impl.Known: the table of ranges, read whole, and its contract. -/
import Derived.Test.YtkgnlamlmnhleaaDoorRows
import Derived.Test.YtkgnlamlmnhleaaDoorKno
import Derived.Test.YtkgnlamlmnhleaaDoorIBtw
import Derived.Laws.Cells
namespace Go.Proofs.YtkgnlamlmnhleaaDoor
open Go.RowKit

def ikT : List Int := [32, 46, 48, 126, 161, 255, 469, 470, 768, 772, 776, 776, 778, 778, 803, 803, 807, 807, 902, 902, 904, 906, 908, 908, 910, 911, 913, 929, 931, 937, 940, 943, 945, 969, 972, 974, 1040, 1103, 4352, 4370, 4449, 4469, 4520, 4546, 7840, 7841, 7852, 7853, 8486, 8486, 8491, 8491, 44032, 55203]
def ikAny (c : Int) : Bool := (List.range 27).any fun t => inB c (ikT.getD (2 * t) 0) (ikT.getD (2 * t + 1) 0)

theorem ikAny_yes (c : Int) (t : Nat) (ht : t < 27) (h : inB c (ikT.getD (2 * t) 0) (ikT.getD (2 * t + 1) 0) = true) : ikAny c = true :=
  List.any_eq_true.2 ⟨t, List.mem_range.2 ht, h⟩
theorem ikAny_no (c : Int) (h : ∀ t, t < 27 → inB c (ikT.getD (2 * t) 0) (ikT.getD (2 * t + 1) 0) = false) : ikAny c = false := by
  cases e : ikAny c with
  | false => rfl
  | true =>
    obtain ⟨t, ht, h'⟩ := List.any_eq_true.1 e
    rw [h t (List.mem_range.1 ht)] at h'
    exact h'.symm
set_option maxRecDepth 100000 in
theorem ikAny_iff (c : Int) : ikAny c = true ↔ knB c = true := by
  simp [ikAny, knB, knAny, List.range_succ, inB, ikT, knF, knT]
  omega
theorem ikAny_kn (c : Int) : ikAny c = knB c := by
  have := ikAny_iff c
  cases h1 : ikAny c <;> cases h2 : knB c <;> simp_all

theorem ext_two (a : Array Value) (n : Nat) (x y : Value) (h : n + 1 < a.size) (hx : a[n]? = some x) (hy : a[n + 1]? = some y) : a.extract n (n + 2) = #[x, y] := by
  apply Array.ext
  · simp; omega
  · intro i h1 h2
    have hi : i < 2 := by simpa using h2
    match i, hi with
    | 0, _ => simp; rw [Array.getElem?_eq_getElem (by omega)] at hx; exact Option.some.inj hx
    | 1, _ => simp; rw [Array.getElem?_eq_getElem (by omega)] at hy; exact Option.some.inj hy

set_option maxRecDepth 100000 in
/-- the table, read whole -/
theorem ik_open (w : World) (hw : ∀ i, i < 54 → w.cell? ⟨2, i, none⟩ = some (.int .i64 (ikT.getD i 0))) :
    ∃ A : Array Value, ((loadCells ⟨2, 0, none⟩ 54).run Tryd.prog w = .ok A w) ∧
      ∀ k : Nat, k < 27 → ∀ w', (Instr.index 102 (.agg A) (.int .i64 (k : Int))).run Tryd.prog w' = .ok (.agg #[.int .i64 (ikT.getD (2 * k) 0), .int .i64 (ikT.getD (2 * k + 1) 0)]) w' := by
  have hlen : (intsV ikT).length = 54 := by rfl
  have hget : ∀ j, j < 54 → (intsV ikT)[j]? = some (.int .i64 (ikT.getD j 0)) := fun j hj => intsV_get ikT j (by show j < 54; exact hj)
  have h1 : (loadCells ⟨2, 0, none⟩ 54).run Tryd.prog w = .ok (intsV ikT).toArray w := by
    have := run_loadCells_list (P := Tryd.prog) w ⟨2, 0, none⟩ (intsV ikT) (fun j v hv => by
      have hj : j < 54 := by rw [← hlen]; exact (List.getElem?_eq_some_iff.1 hv).1
      rw [hget j hj] at hv
      rw [Addr.add_lit, Nat.zero_add, hw j hj]; exact hv)
    rwa [hlen] at this
  have ha2 : ∀ w : World, (isAgg 101).run Tryd.prog w = .ok true w := fun w => by kernel_rfl
  have hs2 : ∀ w : World, (Go.sizeOf 101).run Tryd.prog w = .ok 2 w := fun w => by kernel_rfl
  obtain ⟨A, hA⟩ : ∃ A, A = (intsV ikT).toArray := ⟨_, rfl⟩
  rw [← hA] at h1
  have hsz : A.size = 54 := by rw [hA]; rfl
  have hgt : ∀ j, j < 54 → A[j]? = some (.int .i64 (ikT.getD j 0)) := fun j hj => by rw [hA]; simpa using hget j hj
  clear hA hget hlen
  refine ⟨A, h1, fun k hk w' => ?_⟩
  · have hu := run_underlying Tryd.underlying102
    have he : A.extract (k * 2) (k * 2 + 2) = #[.int .i64 (ikT.getD (2 * k) 0), .int .i64 (ikT.getD (2 * k + 1) 0)] := by
      refine ext_two _ _ _ _ (by omega) ?_ ?_
      · rw [show k * 2 = 2 * k by omega]; exact hgt (2 * k) (by omega)
      · rw [show k * 2 = 2 * k by omega]; exact hgt (2 * k + 1) (by omega)
    simp [Instr.index, asIntOf, hu, hk, part, ha2, hs2, he]

/-- a load whose run is known -/
theorem wpList_load_at {P : Program} (w : World) {ops : Array Oper} {rest : List Oper} {o : Oper} {a : Act} {Q : Exit → Act → World → Prop} (hg : o.guard = none) (t : TypeId) (x : Operand) (hop : o.op = .load t x)
    (v : Value) (hrun : (Instr.loadAt t (a.eval x)).run P w = .ok v w) (h : wpList P ops Q rest (a.put o.dst v) w) : wpList P ops Q (o :: rest) a w := by
  refine wpList_plain hg fun K' hK' => ?_
  unfold Oper.wp
  simp [execOp, hop, hrun, Result.andThen]
  exact hK' _ _ h

theorem ik_load (w : World) (A : Array Value) (h : (loadCells ⟨2, 0, none⟩ 54).run Tryd.prog w = .ok A w) : (Instr.loadAt 102 (.pointer (some ⟨2, 0, none⟩))).run Tryd.prog w = .ok (.agg A) w := by
  have ha : ∀ w : World, (isAgg 102).run Tryd.prog w = .ok true w := fun w => by kernel_rfl
  have hs : ∀ w : World, (Go.sizeOf 102).run Tryd.prog w = .ok 54 w := fun w => by kernel_rfl
  simp [Instr.loadAt, Instr.sureAddr, loadVar, ha, hs, h]

set_option maxRecDepth 100000 in
set_option maxHeartbeats 1000000 in
theorem iKnown (c : Int) (w : World) (hw : ∀ i, i < 54 → w.cell? ⟨2, i, none⟩ = some (.int .i64 (ikT.getD i 0))) :
    Calls Tryd.prog 68 #[.int .i64 c] w fun e w' => e = .returned (.bool (knB c)) ∧ Below w.heap.size w w' := by
  rw [← ikAny_kn]
  have HY := fun t ht h => ikAny_yes c t ht h
  have HN := ikAny_no c
  generalize ikAny c = r at HY HN ⊢
  obtain ⟨A, hload0, hidx⟩ := ik_open w hw
  have hload : Hid ((Instr.loadAt 102 (.pointer (some ⟨2, 0, none⟩))).run Tryd.prog w = .ok (.agg A) w) := ik_load w A hload0
  have HIX : Hid (∀ k : Nat, k < 27 → ∀ w', (Instr.index 102 (.agg A) (.int .i64 (k : Int))).run Tryd.prog w' = .ok (.agg #[.int .i64 (ikT.getD (2 * k) 0), .int .i64 (ikT.getD (2 * k + 1) 0)]) w') := hidx
  clear hw hload0 hidx
  go_enter Tryd.func68, Tryd.ntmps68
  go_wp2_with (refine wpList_load_at w rfl 102 (.global 2) rfl (.agg A) hload.out ?_)
  go_loopw [6] (fun i wr => ∃ k : Nat, k ≤ 27 ∧ i = .int .i64 k ∧ (∀ t, t < k → inB c (ikT.getD (2 * t) 0) (ikT.getD (2 * t + 1) 0) = false) ∧ Below w.heap.size w wr) (fun i _ => 27 - (intOf i).toNat)
  case atStart => exact ⟨0, Nat.zero_le _, rfl, fun t ht => by omega, Below.refl _ _⟩
  case round =>
    obtain ⟨k, hk, rfl, hne, hbel⟩ := hrel
    by_cases hlt : k < 27
    · have hx := HIX.out k hlt wr
      have HK : Hid (inB c (ikT.getD (2 * k) 0) (ikT.getD (2 * k + 1) 0) = true → r = true) := HY k hlt
      obtain ⟨x, HX⟩ : ∃ x, Hid (x = ikT.getD (2 * k) 0) := ⟨_, rfl⟩
      obtain ⟨y, HY2⟩ : ∃ y, Hid (y = ikT.getD (2 * k + 1) 0) := ⟨_, rfl⟩
      rw [← HX.out, ← HY2.out] at hx HK
      have hkn : (k : Int) < 27 := by omega
      have hk0 : (0 : Int) ≤ (k : Int) := by omega
      cases hin : inB c x y
      · go_wp2_with (go_at_call 35; refine (btw_any _ _ _ _).mono ?_; rintro e w' ⟨rfl, rfl⟩)
        go_roundw
        case rel => exact ⟨k + 1, by omega, by go_num, fun t ht => by
          by_cases htk : t < k
          · exact hne t htk
          · obtain rfl : t = k := by omega
            rw [← HX.out, ← HY2.out]; exact hin, hbel.alloc hbel.size _⟩
        case measure => simp [intOf]; omega
      · obtain rfl := HK.out hin
        go_wp2_with (go_at_call 35; refine (btw_any _ _ _ _).mono ?_; rintro e w' ⟨rfl, rfl⟩)
        go_ret
        exact ⟨rfl, hbel.alloc hbel.size _⟩
    · obtain rfl : k = 27 := by omega
      obtain rfl := HN hne
      go_wp2
      go_ret
      exact ⟨rfl, hbel⟩

end Go.Proofs.YtkgnlamlmnhleaaDoor
