/- Blocks, impl: the cursor. -/
import Derived.Test.YtfdahfealibbnaaDoorRows
import Derived.Test.YtfdahfealibbnaaDoorRnT
import Derived.Test.YtfdahfealibbnaaDoorRdVr
import Derived.Test.YtfdahfealibbnaaDoorBs
import Derived.Lib.SmallJoins
namespace Go.Proofs.YtfdahfealibbnaaDoor
open Go.RowKit Go.Sort

/-- the error that a cursor panics with -/
def ErrV (w : World) (T : TypeId) (x : Value) : Prop := w.cell? ⟨0, 0, none⟩ = some (.iface T x)
theorem ErrV.lt {w : World} {T : TypeId} {x : Value} (h : ErrV w T x) : 0 < w.heap.size := World.block_lt_of_cell? w _ h
/-- the cursor in block b, l being the text that is left -/
def CurSt (w : World) (b : Nat) (l : List UInt8) : Prop := w.heap[b]? = some (.cells #[.string (bA l)] 80) ∧ b ≠ 0
theorem ErrV.grown {w w' : World} {T : TypeId} {x : Value} {b : Nat} (h : ErrV w T x) (g : w.grownBy w' (some b)) (hb : b ≠ 0) : ErrV w' T x :=
  (World.cell?_of_block (g.block _ h.lt (fun e => hb (Option.some.inj e).symm))).trans h
theorem ErrV.below {w w' : World} {T : TypeId} {x : Value} (h : ErrV w T x) (b : Below w.heap.size w w') : ErrV w' T x := (b.cell (p := ⟨0, 0, none⟩) h.lt).trans h
theorem CurSt.lt {w : World} {b : Nat} {l : List UInt8} (h : CurSt w b l) : b < w.heap.size := lt_of_block h.1
theorem CurSt.below {w w' : World} {b : Nat} {l : List UInt8} (h : CurSt w b l) (hb : Below w.heap.size w w') : CurSt w' b l := ⟨(hb.block b h.lt).trans h.1, h.2⟩
/-- what the cursor says: what o has, or a panic where it has none -/
def Says {α : Type} (o : Option (α × List UInt8)) (enc : α → Value) (T : TypeId) (x : Value) (b : Nat) (w : World) (e : Ending) (w' : World) : Prop :=
  (∃ p, o = some p ∧ e = .returned (enc p.1) ∧ CurSt w' b p.2 ∧ w.grownBy w' (some b)) ∨ (o = none ∧ e = .panicked [{ v := .iface T x, recovered := false }] ∧ w.grownBy w' (some b))
theorem gb_self (w : World) (r : Option Nat) : w.grownBy w r := ⟨rfl, rfl, rfl, Nat.le_refl _, fun _ _ _ => rfl⟩

theorem ext_front (l : List UInt8) (n : Nat) : (bA l).extract 0 n = bA (l.take n) := list_ext (by simp [bA])
theorem ext_rest (l : List UInt8) (n : Nat) : (bA l).extract n (bA l).size = bA (l.drop n) := list_ext (by
  have h : (bA l).size = l.length := bA_size l
  rw [h]
  simp only [bA, ByteArray.data_extract, Array.toList_extract]
  simp
  exact List.take_of_length_le (by simp))

set_option maxRecDepth 100000 in
set_option maxHeartbeats 1000000 in
theorem take_any (b : Nat) (l : List UInt8) (n : Int) (T : TypeId) (x : Value) (w : World) (hE : ErrV w T x) (h : CurSt w b l) (hn : 0 ≤ n) :
    Calls Tryd.prog 51 #[.pointer (some ⟨b, 0, none⟩), .int .i64 n] w fun e w' => Says (takR n l) (fun p => .string (bA p)) T x b w e w' := by
  have c0 : w.cell? ⟨b, 0, none⟩ = some (.string (bA l)) := Joins.cell_of_block h.1 0
  have f0 : w.frozen? ⟨b, 0, none⟩ = false := Joins.unfrozen_of_block h.1 0
  have hE' : w.cell? ⟨0, 0, none⟩ = some (.iface T x) := hE
  have hz : (bA l).size = l.length := bA_size l
  obtain ⟨m, rfl⟩ : ∃ m : Nat, n = (m : Int) := ⟨n.toNat, by omega⟩
  have HS : CurSt (w.setCell ⟨b, 0, none⟩ (.string (bA (l.drop m)))) b (l.drop m) := ⟨Joins.block_setCell (i := 0) h.1 _, h.2⟩
  by_cases hlt : l.length < m
  · have ht : Hid (∀ e w', (e = .panicked [{ v := .iface T x, recovered := false }] ∧ w.grownBy w' (some b)) → Says (takR (m : Int) l) (fun p => .string (bA p)) T x b w e w') := fun e w' h => .inr ⟨by unfold takR; rw [if_pos (by omega)], h⟩
    have hg : (l.length : Int) < (m : Int) := by omega
    rw [← hz] at hg
    generalize takR (m : Int) l = o at *
    generalize bA l = s at *
    go_enter Tryd.func51, Tryd.ntmps51
    go_wp2
    exact ⟨rfl, ht.out _ _ ⟨rfl, gb_self _ _⟩⟩
  · have ht : Hid (∀ e w', (e = .returned (.string (bA (l.take m))) ∧ CurSt w' b (l.drop m) ∧ w.grownBy w' (some b)) → Says (takR (m : Int) l) (fun p => .string (bA p)) T x b w e w') := fun e w' h => .inl ⟨(l.take m, l.drop m), by unfold takR; rw [if_neg (by omega), Int.toNat_natCast], h⟩
    have e1 := ext_front l m
    have e2 := ext_rest l m
    have hg : ¬ ((l.length : Int) < (m : Int)) := by omega
    have hm : m ≤ (bA l).size := by omega
    rw [← hz] at hg
    rw [← e2] at HS
    have hS : Hid _ := HS
    have E1 : Hid _ := e1
    clear e1 e2 HS hz h
    generalize takR (m : Int) l = o at *
    generalize bA l = s at *
    go_enter Tryd.func51, Tryd.ntmps51
    go_wp2
    go_ret
    exact ht.out _ _ ⟨by rw [← E1.out]; rfl, hS.out, gbr_set _ _ _ _⟩

set_option maxRecDepth 100000 in
set_option maxHeartbeats 1000000 in
theorem number_any (b : Nat) (l : List UInt8) (T : TypeId) (x : Value) (w : World) (hE : ErrV w T x) (h : CurSt w b l) (hl : l.length ≤ 1048576) :
    Calls Tryd.prog 53 #[.pointer (some ⟨b, 0, none⟩)] w fun e w' => Says (numR l) (fun n => .int .i64 n) T x b w e w' := by
  have c0 : w.cell? ⟨b, 0, none⟩ = some (.string (bA l)) := Joins.cell_of_block h.1 0
  have hE' : w.cell? ⟨0, 0, none⟩ = some (.iface T x) := hE
  have hz : (bA l).size = l.length := bA_size l
  have HR : Calls Tryd.prog 64 #[.string (bA l)] w fun e w' => e = .returned (.tuple #[.int .i64 (rdN l), .int .i64 (rdK l)]) ∧ w = w' := (iReadVar_any (bA l) w (by unfold maxLen; omega)).mono fun e w' ⟨n, k, h1, h2, h3⟩ => by
    rw [bA_list] at h2
    obtain ⟨rfl, rfl⟩ := rd_eq h2
    exact ⟨h1, h3⟩
  have HT := take_any b l (rdK l) T x w hE h (by omega)
  have hkl := rdK_le l
  have htk : takR (rdK l) l = some (l.take (rdK l), l.drop (rdK l)) := by unfold takR; rw [if_neg (by omega), Int.toNat_natCast]
  rw [htk] at HT
  by_cases hk : rdK l = 0
  · have ht : Hid (∀ e w', (e = .panicked [{ v := .iface T x, recovered := false }] ∧ w.grownBy w' (some b)) → Says (numR l) (fun n => .int .i64 n) T x b w e w') := fun e w' h => .inr ⟨by unfold numR; rw [if_pos hk], h⟩
    rw [hk] at HR
    generalize rdN l = n at *
    generalize numR l = o at *
    generalize bA l = s at *
    clear HT htk
    go_enter Tryd.func53, Tryd.ntmps53
    go_wp2_with (go_at_call 64; refine HR.mono ?_; rintro e w' ⟨rfl, rfl⟩)
    exact ⟨rfl, ht.out _ _ ⟨rfl, gb_self _ _⟩⟩
  · have ht : Hid (∀ e w', (e = .returned (.int .i64 (rdN l)) ∧ CurSt w' b (l.drop (rdK l)) ∧ w.grownBy w' (some b)) → Says (numR l) (fun n => .int .i64 n) T x b w e w') := fun e w' h => .inl ⟨(rdN l, l.drop (rdK l)), by unfold numR; rw [if_neg hk], h⟩
    generalize rdN l = n at *
    generalize numR l = o at *
    generalize rdK l = k at *
    have hk' : ((k : Int) == 0) = false := by simp; omega
    generalize bA l = s at *
    go_enter Tryd.func53, Tryd.ntmps53
    go_wp2_with (go_at_call 64; refine HR.mono ?_; rintro e w' ⟨rfl, rfl⟩)
    refine HT.mono ?_
    rintro e w1 hs
    rcases hs with ⟨p, hp, rfl, hc, hg⟩ | ⟨hp, -⟩
    · cases hp
      go_wp2
      go_ret
      exact ht.out _ _ ⟨rfl, hc, hg⟩
    · cases hp

set_option maxRecDepth 100000 in
set_option maxHeartbeats 1000000 in
theorem mark_any (b : Nat) (l : List UInt8) (m : UInt8) (T : TypeId) (x : Value) (w : World) (hE : ErrV w T x) (h : CurSt w b l) (hl : l.length ≤ 1048576) :
    Calls Tryd.prog 52 #[.pointer (some ⟨b, 0, none⟩), .string ⟨#[m]⟩] w fun e w' => Says ((mrkR m l).map fun r => ((), r)) (fun _ => .tuple #[]) T x b w e w' := by
  have HT := take_any b l 1 T x w hE h (by omega)
  have HEW : Hid (∀ w', w.grownBy w' (some b) → w'.cell? ⟨0, 0, none⟩ = some (.iface T x)) := fun w' g => hE.grown g h.2
  cases l with
  | nil =>
    have ht : Hid (∀ e w', (e = .panicked [{ v := .iface T x, recovered := false }] ∧ w.grownBy w' (some b)) → Says ((mrkR m []).map fun r => ((), r)) (fun _ => .tuple #[]) T x b w e w') := fun e w' h => .inr ⟨rfl, h⟩
    have htk : takR 1 ([] : List UInt8) = none := rfl
    rw [htk] at HT
    go_enter Tryd.func52, Tryd.ntmps52
    go_wp2_with fail
    refine HT.mono ?_
    rintro e w1 hs
    rcases hs with ⟨p, hp, -⟩ | ⟨-, rfl, hg⟩
    · cases hp
    · go_wp2
      exact ⟨rfl, ht.out _ _ ⟨rfl, hg⟩⟩
  | cons c r =>
    have htk : takR 1 (c :: r) = some ([c], r) := by unfold takR; rw [if_neg (by simp only [List.length_cons]; omega)]; rfl
    rw [htk] at HT
    by_cases hc : c = m
    · have ht : Hid (∀ e w', (e = .returned (.tuple #[]) ∧ CurSt w' b r ∧ w.grownBy w' (some b)) → Says ((mrkR m (c :: r)).map fun r => ((), r)) (fun _ => .tuple #[]) T x b w e w') := fun e w' h => .inl ⟨((), r), by unfold mrkR; rw [hc]; simp, h⟩
      have hq : ((bA [c]).toList == [m]) = true := by rw [hc]; simp [bA, ByteArray.toList_eq]
      generalize (mrkR m (c :: r)).map (fun r => ((), r)) = o at *
      go_enter Tryd.func52, Tryd.ntmps52
      go_wp2_with fail
      refine HT.mono ?_
      rintro e w1 hs
      rcases hs with ⟨p, hp, rfl, hcs, hg⟩ | ⟨hp, -⟩
      · cases hp
        have hcs : Hid _ := hcs
        dsimp only
        generalize bA [c] = s at *
        go_wp2
        refine bodyPost_end (v := .tuple #[]) (by simp [results, Tryd.results52, go_sem]) rfl ?_
        exact ht.out _ _ ⟨rfl, hcs.out, hg⟩
      · cases hp
    · have ht : Hid (∀ e w', (e = .panicked [{ v := .iface T x, recovered := false }] ∧ w.grownBy w' (some b)) → Says ((mrkR m (c :: r)).map fun r => ((), r)) (fun _ => .tuple #[]) T x b w e w') := fun e w' h => .inr ⟨by simp [mrkR, hc], h⟩
      have hq : ((bA [c]).toList == [m]) = false := by
        rw [beq_eq_false_iff_ne]
        intro e
        exact hc (by simpa [bA, ByteArray.toList_eq] using e)
      generalize (mrkR m (c :: r)).map (fun r => ((), r)) = o at *
      go_enter Tryd.func52, Tryd.ntmps52
      go_wp2_with fail
      refine HT.mono ?_
      rintro e w1 hs
      rcases hs with ⟨p, hp, rfl, hcs, hg⟩ | ⟨hp, -⟩
      · cases hp
        have hE1 := HEW.out w1 hg
        have hcs : Hid _ := hcs
        dsimp only
        generalize bA [c] = s at *
        go_wp2
        exact ⟨rfl, ht.out _ _ ⟨rfl, hg⟩⟩
      · cases hp

end Go.Proofs.YtfdahfealibbnaaDoor
