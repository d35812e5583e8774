/- Blocks, impl: the cursor. Blocks, spec: l7Vars, l7Take. Rows of texts: how they lie; what laws.eqStringS, markStringS, heldStringS, toStringS do to them. Blocks, spec: l7Take, l7Alike. A variable that holds an error, read behind the call. -/
import Derived.Test.YtpijjinoeghgoaaGreatDoorRows
import Derived.Test.YtpijjinoeghgoaaGreatDoorMvr
import Derived.Test.YtpijjinoeghgoaaGreatDoorNa
import Derived.Test.YtpijjinoeghgoaaGreatDoorMa
import Derived.Test.YtpijjinoeghgoaaGreatDoorMq
import Derived.Lib.SmallJoins
import Derived.OpenVars
import Derived.LaidLaws
import Derived.Lib.LaidU8
import Derived.Deep.Slices
import Derived.ChangeArms
namespace Go.Proofs.YtpijjinoeghgoaaGreatDoor

section
open Go.RowKit Go.Sort

/-- the error that a cursor panics with -/
def ErrV (w : World) (T : TypeId) (x : Value) : Prop := w.cell? ⟨0, 0, none⟩ = some (.iface T x)
theorem ErrV.lt {w : World} {T : TypeId} {x : Value} (h : ErrV w T x) : 0 < w.heap.size := World.block_lt_of_cell? w _ h
/-- the cursor in block b, l being the text that is left -/
def CurSt (w : World) (b : Nat) (l : List UInt8) : Prop := w.heap[b]? = some (.cells #[.string (bA l)] 93) ∧ b ≠ 0
theorem ErrV.grown {w w' : World} {T : TypeId} {x : Value} {b : Nat} (h : ErrV w T x) (g : w.grownBy w' (some b)) (hb : b ≠ 0) : ErrV w' T x :=
  (World.cell?_of_block (g.block _ h.lt (fun e => hb (Option.some.inj e).symm))).trans h
theorem ErrV.below {w w' : World} {T : TypeId} {x : Value} (h : ErrV w T x) (b : Below w.heap.size w w') : ErrV w' T x := (b.cell (p := ⟨0, 0, none⟩) h.lt).trans h
theorem CurSt.lt {w : World} {b : Nat} {l : List UInt8} (h : CurSt w b l) : b < w.heap.size := lt_of_block h.1
theorem CurSt.below {w w' : World} {b : Nat} {l : List UInt8} (h : CurSt w b l) (hb : Below w.heap.size w w') : CurSt w' b l := ⟨(hb.block b h.lt).trans h.1, h.2⟩
/-- what the cursor says: what o has, or a panic where it has none -/
def Says {α : Type} (o : Option (α × List UInt8)) (enc : α → Value) (T : TypeId) (x : Value) (b : Nat) (w : World) (e : Ending) (w' : World) : Prop :=
  (∃ p, o = some p ∧ e = .returned (enc p.1) ∧ CurSt w' b p.2 ∧ w.grownBy w' (some b)) ∨ (o = none ∧ e = .panicked [{ v := .iface T x, recovered := false }] ∧ w.grownBy w' (some b))
theorem gb_self (w : World) (r : Option Nat) : w.grownBy w r := ⟨rfl, rfl, rfl, Nat.le_refl _, fun _ _ _ => rfl⟩

theorem ext_front (l : List UInt8) (n : Nat) : (bA l).extract 0 n = bA (l.take n) := list_ext (by simp [bA])
theorem ext_rest (l : List UInt8) (n : Nat) : (bA l).extract n (bA l).size = bA (l.drop n) := list_ext (by
  have h : (bA l).size = l.length := bA_size l
  rw [h]
  simp only [bA, ByteArray.data_extract, Array.toList_extract]
  simp
  exact List.take_of_length_le (by simp))

set_option maxRecDepth 100000 in
set_option maxHeartbeats 1000000 in
theorem take_any (b : Nat) (l : List UInt8) (n : Int) (T : TypeId) (x : Value) (w : World) (hE : ErrV w T x) (h : CurSt w b l) (hn : 0 ≤ n) :
    Calls Tryz.prog 67 #[.pointer (some ⟨b, 0, none⟩), .int .i64 n] w fun e w' => Says (takR n l) (fun p => .string (bA p)) T x b w e w' := by
  have c0 : w.cell? ⟨b, 0, none⟩ = some (.string (bA l)) := Joins.cell_of_block h.1 0
  have f0 : w.frozen? ⟨b, 0, none⟩ = false := Joins.unfrozen_of_block h.1 0
  have hE' : w.cell? ⟨0, 0, none⟩ = some (.iface T x) := hE
  have hz : (bA l).size = l.length := bA_size l
  obtain ⟨m, rfl⟩ : ∃ m : Nat, n = (m : Int) := ⟨n.toNat, by omega⟩
  have HS : CurSt (w.setCell ⟨b, 0, none⟩ (.string (bA (l.drop m)))) b (l.drop m) := ⟨Joins.block_setCell (i := 0) h.1 _, h.2⟩
  by_cases hlt : l.length < m
  · have ht : Hid (∀ e w', (e = .panicked [{ v := .iface T x, recovered := false }] ∧ w.grownBy w' (some b)) → Says (takR (m : Int) l) (fun p => .string (bA p)) T x b w e w') := fun e w' h => .inr ⟨by unfold takR; rw [if_pos (by omega)], h⟩
    have hg : (l.length : Int) < (m : Int) := by omega
    rw [← hz] at hg
    generalize takR (m : Int) l = o at *
    generalize bA l = s at *
    go_enter Tryz.func67, Tryz.ntmps67
    go_wp2
    exact ⟨rfl, ht.out _ _ ⟨rfl, gb_self _ _⟩⟩
  · have ht : Hid (∀ e w', (e = .returned (.string (bA (l.take m))) ∧ CurSt w' b (l.drop m) ∧ w.grownBy w' (some b)) → Says (takR (m : Int) l) (fun p => .string (bA p)) T x b w e w') := fun e w' h => .inl ⟨(l.take m, l.drop m), by unfold takR; rw [if_neg (by omega), Int.toNat_natCast], h⟩
    have e1 := ext_front l m
    have e2 := ext_rest l m
    have hg : ¬ ((l.length : Int) < (m : Int)) := by omega
    have hm : m ≤ (bA l).size := by omega
    rw [← hz] at hg
    rw [← e2] at HS
    have hS : Hid _ := HS
    have E1 : Hid _ := e1
    clear e1 e2 HS hz h
    generalize takR (m : Int) l = o at *
    generalize bA l = s at *
    go_enter Tryz.func67, Tryz.ntmps67
    go_wp2
    go_ret
    exact ht.out _ _ ⟨by rw [← E1.out]; rfl, hS.out, gbr_set _ _ _ _⟩

set_option maxRecDepth 100000 in
set_option maxHeartbeats 1000000 in
theorem number_any (b : Nat) (l : List UInt8) (T : TypeId) (x : Value) (w : World) (hE : ErrV w T x) (h : CurSt w b l) (hl : l.length ≤ 1048576) :
    Calls Tryz.prog 69 #[.pointer (some ⟨b, 0, none⟩)] w fun e w' => Says (numR l) (fun n => .int .i64 n) T x b w e w' := by
  have c0 : w.cell? ⟨b, 0, none⟩ = some (.string (bA l)) := Joins.cell_of_block h.1 0
  have hE' : w.cell? ⟨0, 0, none⟩ = some (.iface T x) := hE
  have hz : (bA l).size = l.length := bA_size l
  have HR : Calls Tryz.prog 92 #[.string (bA l)] w fun e w' => e = .returned (.tuple #[.int .i64 (rdN l), .int .i64 (rdK l)]) ∧ w = w' := (iReadVar_any (bA l) w (by unfold maxLen; omega)).mono fun e w' ⟨n, k, h1, h2, h3⟩ => by
    rw [bA_list] at h2
    obtain ⟨rfl, rfl⟩ := rd_eq h2
    exact ⟨h1, h3⟩
  have HT := take_any b l (rdK l) T x w hE h (by omega)
  have hkl := rdK_le l
  have htk : takR (rdK l) l = some (l.take (rdK l), l.drop (rdK l)) := by unfold takR; rw [if_neg (by omega), Int.toNat_natCast]
  rw [htk] at HT
  by_cases hk : rdK l = 0
  · have ht : Hid (∀ e w', (e = .panicked [{ v := .iface T x, recovered := false }] ∧ w.grownBy w' (some b)) → Says (numR l) (fun n => .int .i64 n) T x b w e w') := fun e w' h => .inr ⟨by unfold numR; rw [if_pos hk], h⟩
    rw [hk] at HR
    generalize rdN l = n at *
    generalize numR l = o at *
    generalize bA l = s at *
    clear HT htk
    go_enter Tryz.func69, Tryz.ntmps69
    go_wp2_with (go_at_call 92; refine HR.mono ?_; rintro e w' ⟨rfl, rfl⟩)
    exact ⟨rfl, ht.out _ _ ⟨rfl, gb_self _ _⟩⟩
  · have ht : Hid (∀ e w', (e = .returned (.int .i64 (rdN l)) ∧ CurSt w' b (l.drop (rdK l)) ∧ w.grownBy w' (some b)) → Says (numR l) (fun n => .int .i64 n) T x b w e w') := fun e w' h => .inl ⟨(rdN l, l.drop (rdK l)), by unfold numR; rw [if_neg hk], h⟩
    generalize rdN l = n at *
    generalize numR l = o at *
    generalize rdK l = k at *
    have hk' : ((k : Int) == 0) = false := by simp; omega
    generalize bA l = s at *
    go_enter Tryz.func69, Tryz.ntmps69
    go_wp2_with (go_at_call 92; refine HR.mono ?_; rintro e w' ⟨rfl, rfl⟩)
    refine HT.mono ?_
    rintro e w1 hs
    rcases hs with ⟨p, hp, rfl, hc, hg⟩ | ⟨hp, -⟩
    · cases hp
      go_wp2
      go_ret
      exact ht.out _ _ ⟨rfl, hc, hg⟩
    · cases hp

set_option maxRecDepth 100000 in
set_option maxHeartbeats 1000000 in
theorem mark_any (b : Nat) (l : List UInt8) (m : UInt8) (T : TypeId) (x : Value) (w : World) (hE : ErrV w T x) (h : CurSt w b l) (hl : l.length ≤ 1048576) :
    Calls Tryz.prog 68 #[.pointer (some ⟨b, 0, none⟩), .string ⟨#[m]⟩] w fun e w' => Says ((mrkR m l).map fun r => ((), r)) (fun _ => .tuple #[]) T x b w e w' := by
  have HT := take_any b l 1 T x w hE h (by omega)
  have HEW : Hid (∀ w', w.grownBy w' (some b) → w'.cell? ⟨0, 0, none⟩ = some (.iface T x)) := fun w' g => hE.grown g h.2
  cases l with
  | nil =>
    have ht : Hid (∀ e w', (e = .panicked [{ v := .iface T x, recovered := false }] ∧ w.grownBy w' (some b)) → Says ((mrkR m []).map fun r => ((), r)) (fun _ => .tuple #[]) T x b w e w') := fun e w' h => .inr ⟨rfl, h⟩
    have htk : takR 1 ([] : List UInt8) = none := rfl
    rw [htk] at HT
    go_enter Tryz.func68, Tryz.ntmps68
    go_wp2_with fail
    refine HT.mono ?_
    rintro e w1 hs
    rcases hs with ⟨p, hp, -⟩ | ⟨-, rfl, hg⟩
    · cases hp
    · go_wp2
      exact ⟨rfl, ht.out _ _ ⟨rfl, hg⟩⟩
  | cons c r =>
    have htk : takR 1 (c :: r) = some ([c], r) := by unfold takR; rw [if_neg (by simp only [List.length_cons]; omega)]; rfl
    rw [htk] at HT
    by_cases hc : c = m
    · have ht : Hid (∀ e w', (e = .returned (.tuple #[]) ∧ CurSt w' b r ∧ w.grownBy w' (some b)) → Says ((mrkR m (c :: r)).map fun r => ((), r)) (fun _ => .tuple #[]) T x b w e w') := fun e w' h => .inl ⟨((), r), by unfold mrkR; rw [hc]; simp, h⟩
      have hq : ((bA [c]).toList == [m]) = true := by rw [hc]; simp [bA, ByteArray.toList_eq]
      generalize (mrkR m (c :: r)).map (fun r => ((), r)) = o at *
      go_enter Tryz.func68, Tryz.ntmps68
      go_wp2_with fail
      refine HT.mono ?_
      rintro e w1 hs
      rcases hs with ⟨p, hp, rfl, hcs, hg⟩ | ⟨hp, -⟩
      · cases hp
        have hcs : Hid _ := hcs
        dsimp only
        generalize bA [c] = s at *
        go_wp2
        refine bodyPost_end (v := .tuple #[]) (by simp [results, Tryz.results68, go_sem]) rfl ?_
        exact ht.out _ _ ⟨rfl, hcs.out, hg⟩
      · cases hp
    · have ht : Hid (∀ e w', (e = .panicked [{ v := .iface T x, recovered := false }] ∧ w.grownBy w' (some b)) → Says ((mrkR m (c :: r)).map fun r => ((), r)) (fun _ => .tuple #[]) T x b w e w') := fun e w' h => .inr ⟨by simp [mrkR, hc], h⟩
      have hq : ((bA [c]).toList == [m]) = false := by
        rw [beq_eq_false_iff_ne]
        intro e
        exact hc (by simpa [bA, ByteArray.toList_eq] using e)
      generalize (mrkR m (c :: r)).map (fun r => ((), r)) = o at *
      go_enter Tryz.func68, Tryz.ntmps68
      go_wp2_with fail
      refine HT.mono ?_
      rintro e w1 hs
      rcases hs with ⟨p, hp, rfl, hcs, hg⟩ | ⟨hp, -⟩
      · cases hp
        have hE1 := HEW.out w1 hg
        have hcs : Hid _ := hcs
        dsimp only
        generalize bA [c] = s at *
        go_wp2
        exact ⟨rfl, ht.out _ _ ⟨rfl, hg⟩⟩
      · cases hp
end

section
open Go.RowKit Go.Sort

theorem vars_out {l : List UInt8} {m : Nat} {p : Int} (h : p < 0 ∨ (l.length : Int) < p) : varsS l (m + 1) p = ([], -1) := by rw [varsS, if_pos h]
theorem vars_no {l : List UInt8} {m q : Nat} (hq : q ≤ l.length) (h : rdK (l.drop q) = 0) : varsS l (m + 1) (q : Int) = ([], -1) := by
  rw [varsS, if_neg (by omega), Int.toNat_natCast, if_pos h]
theorem vars_yes {l : List UInt8} {m q : Nat} (hq : q ≤ l.length) (h : rdK (l.drop q) ≠ 0) : varsS l (m + 1) (q : Int) = (rdN (l.drop q) :: (varsS l m ((q : Int) + rdK (l.drop q))).1, (varsS l m ((q : Int) + rdK (l.drop q))).2) := by
  rw [varsS, if_neg (by omega), Int.toNat_natCast, if_neg h]
/-- where they end, or -1; how many there are -/
theorem vars_end : ∀ (l : List UInt8) (n : Nat) (p : Int), l.length ≤ 1048576 → -1 ≤ p → p ≤ 1099511627776 → -1 ≤ (varsS l n p).2 ∧ (varsS l n p).2 ≤ 1099511627776 ∧ (0 ≤ (varsS l n p).2 → (varsS l n p).1.length = n) ∧ (0 < n → (varsS l n p).2 ≤ l.length)
  | l, 0, p, _, h0, h1 => ⟨h0, h1, fun _ => rfl, fun h => by omega⟩
  | l, n + 1, p, hl, h0, h1 => by
    by_cases hp : p < 0 ∨ (l.length : Int) < p
    · rw [vars_out hp]
      exact ⟨by decide, by decide, fun h => (by simp at h), fun _ => by simp⟩
    · obtain ⟨q, rfl⟩ : ∃ q : Nat, p = (q : Int) := ⟨p.toNat, by omega⟩
      have hq : q ≤ l.length := by omega
      by_cases hk : rdK (l.drop q) = 0
      · rw [vars_no hq hk]
        exact ⟨by decide, by decide, fun h => (by simp at h), fun _ => by simp⟩
      · rw [vars_yes hq hk]
        have hr := rdK_le (l.drop q)
        rw [List.length_drop] at hr
        have ih := vars_end l n ((q : Int) + rdK (l.drop q)) hl (by omega) (by omega)
        refine ⟨ih.1, ih.2.1, fun h => by simp only [List.length_cons]; rw [ih.2.2.1 h], fun _ => ?_⟩
        cases n with
        | zero => show (q : Int) + rdK (l.drop q) ≤ _; omega
        | succ n => exact ih.2.2.2 (by omega)

set_option maxRecDepth 100000 in
set_option maxHeartbeats 1000000 in
theorem l7Vars_any (l : List UInt8) (p0 : Int) (n : Nat) (w : World) (hl : l.length ≤ 1048576) (hp0 : -1 ≤ p0) (hp1 : p0 ≤ 1099511627776) (hn : n ≤ 3) :
    Calls Tryz.prog 27 #[.string (bA l), .int .i64 p0, .int .i64 n] w fun e w' => ∃ u, e = .returned (.tuple #[u, .int .i64 (varsS l n p0).2]) ∧ IntRow w' w.heap.size u (varsS l n p0).1 ∧ Below w.heap.size w w' := by
  have hz := bA_size l
  have HE : Hid (∀ q : Nat, q ≤ l.length → (bA l).extract q (bA l).size = bA (l.drop q)) := fun q _ => ext_rest l q
  have HRV : Hid (∀ (q : Nat) w', Calls Tryz.prog 42 #[.string (bA (l.drop q))] w' fun e w'' => e = .returned (.tuple #[.int .i64 (rdN (l.drop q)), .int .i64 (rdK (l.drop q))]) ∧ Below w'.heap.size w' w'') := fun q w' => (sReadVar_any (bA (l.drop q)) w' (by rw [bA_size, List.length_drop]; unfold maxLen; omega)).mono fun e w'' ⟨a, k, h1, h2, h3⟩ => by
    rw [bA_list] at h2
    obtain ⟨rfl, rfl⟩ := rd_eq h2
    exact ⟨h1, h3⟩
  obtain ⟨S, HS⟩ : ∃ S, Hid (S = varsS l n p0) := ⟨_, rfl⟩
  rw [← HS.out]
  obtain ⟨s, HSS⟩ : ∃ s, Hid (s = bA l) := ⟨_, rfl⟩
  rw [← HSS.out] at HE hz ⊢
  have hss : s.size ≤ 1048576 := by omega
  have HZ : Hid (s.size = l.length) := hz
  clear hz
  have HRET : Hid (∀ (u : Value) (os : List Int) (z : Int) (wz : World), (os, z) = S → IntRow wz w.heap.size u os → Below w.heap.size w wz → ∃ u', Ending.returned (.tuple #[u, .int .i64 z]) = .returned (.tuple #[u', .int .i64 S.2]) ∧ IntRow wz w.heap.size u' S.1 ∧ Below w.heap.size w wz) := fun u os z wz h h1 h2 => ⟨u, by rw [← h], by rw [← h]; exact h1, h2⟩
  go_enter Tryz.func27, Tryz.ntmps27
  go_wp2
  go_loopw [1, 8, 9] (fun pv o i wr => ∃ (k : Nat) (p : Int) (os : List Int), k ≤ n ∧ pv = .int .i64 p ∧ i = .int .i64 k ∧ (-1 ≤ p ∧ p ≤ 1099511627776) ∧ os.length = k ∧ IntRow wr w.heap.size o os ∧ Hid ((os ++ (varsS l (n - k) p).1, (varsS l (n - k) p).2) = S) ∧ Below w.heap.size w wr) (fun _ _ i _ => n - (intOf i).toNat)
  case atStart => exact ⟨0, p0, [], Nat.zero_le _, rfl, rfl, ⟨hp0, hp1⟩, rfl, lit_at w #[] [] 0 rfl rfl (by decide), by show _ = _; rw [HS.out]; rfl, below_lit _ _⟩
  case round =>
    obtain ⟨k, p, os, hk, rfl, rfl, ⟨hpa, hpb⟩, hol, hown, HV, hbel⟩ := hrel
    by_cases hlt : k < n
    · have hlt' : (k : Int) < (n : Int) := by omega
      obtain ⟨m, hm⟩ : ∃ m, n - k = m + 1 := ⟨n - k - 1, by omega⟩
      have hv := HV.out
      rw [hm] at hv
      have HM : Hid (n - (k + 1) = m) := by show _ = _; omega
      by_cases hpn : p < 0
      · rw [vars_out (.inl hpn)] at hv
        have hv : Hid ((os, -1) = S) := by show _ = _; simpa using hv
        go_wp2
        exact bodyPost_ret (results_tmp2 (t := 6) (u := 7) Tryz.results27 _ _ _) rfl (HRET.out _ os _ wr hv.out hown hbel)
      · obtain ⟨q, rfl⟩ : ∃ q : Nat, p = (q : Int) := ⟨p.toNat, by omega⟩
        have hqn : ¬ ((q : Int) < 0) := by omega
        by_cases hpl : l.length < q
        · have hpl' : (s.size : Int) < (q : Int) := by have := HZ.out; omega
          rw [vars_out (.inr (by omega))] at hv
          have hv : Hid ((os, -1) = S) := by show _ = _; simpa using hv
          go_wp2
          exact bodyPost_ret (results_tmp2 (t := 6) (u := 7) Tryz.results27 _ _ _) rfl (HRET.out _ os _ wr hv.out hown hbel)
        · have hpl' : ¬ ((s.size : Int) < (q : Int)) := by have := HZ.out; omega
          have hex := HE.out q (by omega)
          have hR := HRV.out q wr
          have hr := rdK_le (l.drop q)
          rw [List.length_drop] at hr
          have hqs : q ≤ s.size := by have := HZ.out; omega
          by_cases hk0 : rdK (l.drop q) = 0
          · rw [vars_no (by omega) hk0] at hv
            rw [hk0] at hR
            have hv : Hid ((os, -1) = S) := by show _ = _; simpa using hv
            generalize rdN (l.drop q) = rn at *
            go_wp2_with (go_at_call 42; refine hR.mono ?_; rintro e w1 ⟨rfl, b1⟩)
            exact bodyPost_ret (results_tmp2 (t := 6) (u := 7) Tryz.results27 _ _ _) rfl (HRET.out _ os _ w1 hv.out (hown.below b1) (hbel.trans (b1.mono hbel.size)))
          · rw [vars_yes (by omega) hk0] at hv
            generalize rdN (l.drop q) = rn at *
            generalize rdK (l.drop q) = rk at *
            have hrk : ((rk : Int) == 0) = false := by simp; omega
            have hv : Hid (((os ++ [rn]) ++ (varsS l m ((q : Int) + rk)).1, (varsS l m ((q : Int) + rk)).2) = S) := by show _ = _; rw [← hv]; simp
            have hol1 : os.length + 1 ≤ 1099511627776 := by omega
            go_wp2_with (first
              | (go_at_call 42; refine hR.mono ?_; rintro e w1 ⟨rfl, b1⟩; have hown1 := hown.below b1; have hb1 := hbel.trans (b1.mono hbel.size))
              | (at_builtin; refine append_int w1 rfl (.tmp 37) (.tmp 39) rfl w.heap.size _ os rn hol1 hown1 rfl rfl hb1.size ?_; intro v' w2 hown2 hbel2))
            go_roundw
            case rel => exact ⟨k + 1, (q : Int) + rk, os ++ [rn], by omega, by go_num, by go_num, ⟨by omega, by omega⟩, by simp; omega, hown2, by show _ = _; rw [HM.out]; exact hv.out, hb1.trans hbel2⟩
            case measure => simp [intOf]; omega
    · obtain rfl : k = n := by omega
      have hv := HV.out
      rw [Nat.sub_self] at hv
      have hv : Hid ((os, p) = S) := by show _ = _; simpa [varsS] using hv
      go_wp2
      exact bodyPost_ret (results_tmp2 (t := 6) (u := 7) Tryz.results27 _ _ _) rfl (HRET.out _ os _ wr hv.out hown hbel)
end

section
open Go.RowKit Go.Sort

def strsV (l : List ByteArray) : List Value := l.map fun z => .string z
theorem strsV_length (l : List ByteArray) : (strsV l).length = l.length := by simp [strsV]
theorem strsV_append (l m : List ByteArray) : strsV (l ++ m) = strsV l ++ strsV m := by simp [strsV]
theorem strsV_get (l : List ByteArray) (t : Nat) (h : t < l.length) : (strsV l)[t]? = some (.string l[t]!) := by
  rw [getElem!_pos l t h]; simp [strsV, h]
theorem strsV_set (l : List ByteArray) (t : Nat) (x : ByteArray) : (strsV l).set t (.string x) = strsV (l.set t x) := by simp [strsV, List.map_set]

/-- the slice v reads as the texts l -/
def TxtsAt (w : World) (v : Value) (l : List ByteArray) : Prop :=
  ∃ a cap, v = .slice a l.length cap ∧ (a = none → cap = 0) ∧ ∀ t, t < l.length → ∃ b off, a = some ⟨b, off, none⟩ ∧ b < w.heap.size ∧ w.cell? ⟨b, off + t, none⟩ = some (.string l[t]!)

/-- the slice v is a row of texts that lies from block base on and is the call's own -/
def TxtRow (w : World) (base : Nat) (v : Value) (l : List ByteArray) : Prop := w.ownsRow base 9 1 v l.length (strsV l)

theorem TxtRow.at {w : World} {base : Nat} {v : Value} {l : List ByteArray} (h : TxtRow w base v l) : TxtsAt w v l := by
  rcases h.2 with ⟨rfl, h0⟩ | ⟨g, cap, cur, rfl, hg, hh, hnc, hcp, hcs, htake⟩
  · exact ⟨none, 0, by rw [h0], fun _ => rfl, fun t ht => by omega⟩
  · refine ⟨some ⟨g, 0, none⟩, cap, rfl, fun h => (by cases h), fun t ht => ⟨g, 0, rfl, lt_of_block hh, ?_⟩⟩
    rw [Nat.zero_add, World.ownsRow.cellAt h t (by omega)]
    exact strsV_get l t ht

theorem TxtsAt.below {w w' : World} {v : Value} {l : List ByteArray} (h : TxtsAt w v l) (b : Below w.heap.size w w') : TxtsAt w' v l := by
  obtain ⟨a, cap, rfl, hn, hc⟩ := h
  refine ⟨a, cap, rfl, hn, fun t ht => ?_⟩
  obtain ⟨bb, off, h1, h2, h3⟩ := hc t ht
  exact ⟨bb, off, h1, Nat.lt_of_lt_of_le h2 b.size, (b.cell (p := ⟨bb, off + t, none⟩) h2).trans h3⟩

theorem TxtRow.below {w w' : World} {base : Nat} {v : Value} {l : List ByteArray} (h : TxtRow w base v l) (b : Below w.heap.size w w') : TxtRow w' base v l := own_below h b
theorem TxtRow.mono {w : World} {base base' : Nat} {v : Value} {l : List ByteArray} (h : TxtRow w base v l) (hb : base' ≤ base) : TxtRow w base' v l :=
  ⟨h.1, by
    rcases h.2 with h0 | ⟨g, cap, cur, e, hg, r⟩
    · exact .inl h0
    · exact .inr ⟨g, cap, cur, e, Nat.le_trans hb hg, r⟩⟩

theorem strs_ext (l m : List ByteArray) (hl : l.length = m.length) (h : ∀ t, t < l.length → l[t]! = m[t]!) : l = m := by
  apply List.ext_getElem hl
  intro t h1 h2
  have := h t h1
  rwa [getElem!_pos l t h1, getElem!_pos m t h2] at this
theorem text_beq (x y : ByteArray) : (x.toList == y.toList) = decide (x = y) := by
  by_cases e : x = y
  · simp [e]
  · rw [decide_eq_false e, beq_eq_false_iff_ne]
    exact fun h => e (list_ext (by simpa [ByteArray.toList_eq] using h))

theorem Tryz.infoTxt : (Tryz.prog.info? 9).map (fun i => (i.zero, i.size, i.bytes)) = some (some (.string ⟨#[]⟩), 1, 16) := by kernel_rfl

set_option maxRecDepth 100000 in
set_option maxHeartbeats 1000000 in
theorem eqStringS_any (v u : Value) (l m : List ByteArray) (w : World) (hl : l.length ≤ 9223372036854775807) (hv : TxtsAt w v l) (hu : TxtsAt w u m) :
    Calls Tryz.prog 10 #[v, u] w fun e w' => e = .returned (.bool (decide (l = m))) ∧ Below w.heap.size w w' := by
  obtain ⟨a, ca, rfl, -, hva⟩ := hv
  obtain ⟨b, cb, rfl, -, hub⟩ := hu
  by_cases hlen : l.length = m.length
  · have hlen' : (l.length : Int) = (m.length : Int) := by omega
    obtain ⟨n, HN⟩ : ∃ n, Hid (n = m.length) := ⟨_, rfl⟩
    rw [hlen] at hva hl ⊢
    rw [← HN.out] at hva hub hl ⊢
    have HEND : Hid ((∀ t, t < n → l[t]! = m[t]!) → decide (l = m) = true) := fun h => decide_eq_true (strs_ext l m hlen fun t ht => h t (by rw [HN.out]; omega))
    have HNO : Hid (∀ k : Nat, ¬ l[k]! = m[k]! → decide (l = m) = false) := fun k h => decide_eq_false fun e => h (by rw [e])
    generalize decide (l = m) = r at HEND HNO ⊢
    go_enter Tryz.func10, Tryz.ntmps10
    go_wp2
    go_loopw [5] (fun i wr => ∃ k : Nat, k ≤ n ∧ i = .int .i64 k ∧ Hid (∀ t, t < k → l[t]! = m[t]!) ∧ Below w.heap.size w wr) (fun i _ => n - (intOf i).toNat)
    case atStart => exact ⟨0, Nat.zero_le _, rfl, fun t ht => by omega, Below.refl _ _⟩
    case round =>
      obtain ⟨k, hk, rfl, HEQ, hbel⟩ := hrel
      by_cases hlt : k < n
      · obtain ⟨b1, o1, rfl, hb1, hc1⟩ := hva k hlt
        obtain ⟨b2, o2, rfl, hb2, hc2⟩ := hub k hlt
        have hc1' := (hbel.cell (p := ⟨b1, o1 + k, none⟩) hb1).trans hc1
        have hc2' := (hbel.cell (p := ⟨b2, o2 + k, none⟩) hb2).trans hc2
        have HX : Hid (l[k]! = m[k]! → ∀ t, t < k + 1 → l[t]! = m[t]!) := fun h t ht => by
          by_cases e : t = k
          · rw [e]; exact h
          · exact HEQ.out t (by omega)
        have HNK := HNO.out k
        generalize l[k]! = x at hc1' HX HNK
        generalize m[k]! = y at hc2' HX HNK
        have HNK : Hid _ := HNK
        have hkn : (k : Int) < (n : Int) := by omega
        have hk0 : (0 : Int) ≤ (k : Int) := by omega
        clear hc1 hc2 hva hub
        by_cases hxy : x = y
        · have hf : (x.toList == y.toList) = true := by simp [hxy]
          have HX' : Hid _ := HX.out hxy
          clear HX hxy
          go_wp2
          go_quiet (fail)
          go_wp2
          go_roundw
          case rel => exact ⟨k + 1, by omega, by go_num, HX', below_drewN hbel _⟩
          case measure => simp [intOf]; omega
        · have hf : (x.toList == y.toList) = false := by rw [text_beq]; exact decide_eq_false hxy
          have hr : Hid (r = false) := HNK.out hxy
          clear HX hxy HNK
          go_wp2
          go_quiet (fail)
          go_wp2
          go_ret
          exact ⟨ret_bool hr.out.symm, below_drewN hbel _⟩
      · obtain rfl : k = n := by omega
        have hr : Hid (r = true) := HEND.out HEQ.out
        go_wp2
        go_ret
        exact ⟨ret_bool hr.out.symm, hbel⟩
  · have hne : ((l.length : Int) != (m.length : Int)) = true := by simp; omega
    have hneq : ¬ l = m := fun e => hlen (by rw [e])
    rw [decide_eq_false hneq]
    go_enter Tryz.func10, Tryz.ntmps10
    go_wp2
    go_ret
    exact ⟨rfl, Below.refl _ _⟩

/-- the texts of the numbers from k on -/
def marksT (k n : Nat) : List ByteArray := (List.range n).map fun t => mkT (k + t)
theorem marksT_len (k n : Nat) : (marksT k n).length = n := by simp [marksT]

/-- the first j of them marked -/
def markdT (k j : Nat) (l : List ByteArray) : List ByteArray := (List.range l.length).map fun t => if t < j then mkT (k + t) else l[t]!
theorem markdT_len (k j : Nat) (l : List ByteArray) : (markdT k j l).length = l.length := by simp [markdT]
theorem markdT_zero (k : Nat) (l : List ByteArray) : markdT k 0 l = l := by
  apply strs_ext _ _ (markdT_len _ _ _)
  intro t ht
  have hl : t < l.length := by rw [markdT_len] at ht; exact ht
  rw [getElem!_pos (markdT k 0 l) t ht]; simp [markdT]
theorem markdT_all (k : Nat) (l : List ByteArray) : markdT k l.length l = marksT k l.length := by
  unfold markdT marksT
  apply List.map_congr_left
  intro t ht
  rw [if_pos (List.mem_range.1 ht)]
theorem markdT_step (k j : Nat) (l : List ByteArray) : (markdT k j l).set j (mkT (k + j)) = markdT k (j + 1) l := by
  apply List.ext_getElem (by simp [markdT])
  intro t h1 h2
  rw [List.getElem_set]
  simp only [markdT, List.getElem_map, List.getElem_range]
  by_cases e : j = t
  · subst e; simp
  · rw [if_neg e]
    by_cases h3 : t < j
    · rw [if_pos h3, if_pos (by omega)]
    · rw [if_neg h3, if_neg (by omega)]

set_option maxRecDepth 100000 in
set_option maxHeartbeats 1000000 in
theorem markStringS_any (v : Value) (l : List ByteArray) (k : Nat) (base : Nat) (w : World) (hv : TxtRow w base v l) (hl : l.length ≤ 1048577) (hk0 : 0 < k) (hk1 : k ≤ 100000000) :
    Calls Tryz.prog 11 #[v, .int .i64 k] w fun e w' => e = .returned (.int .i64 ((k + l.length : Nat) : Int)) ∧ TxtRow w' base v (marksT k l.length) ∧ w.grownBy w' v.ownBlock := by
  rcases hv.2 with ⟨rfl, h0⟩ | ⟨g, cap, cur, rfl, hg, hh, hnc, hcp, hcs, htake⟩
  · obtain rfl : l = [] := List.length_eq_zero_iff.1 h0
    go_enter Tryz.func11, Tryz.ntmps11
    go_wp2
    refine wp_loop_rounds 1 ?_
    rw [rounds_succ]
    go_wp2
    go_ret
    exact ⟨by simp, hv, ⟨rfl, rfl, rfl, Nat.le_refl _, fun _ _ _ => rfl⟩⟩
  · obtain ⟨n, HN⟩ : ∃ n, Hid (n = l.length) := ⟨_, rfl⟩
    have hv1 : w.ownsRow base 9 1 (.slice (some ⟨g, 0, none⟩) n cap) n (strsV (markdT k 0 l)) := by
      rw [markdT_zero, HN.out]; exact hv
    have HM : Hid (∀ j, (strsV (markdT k j l)).set j (.string (mkT (k + j))) = strsV (markdT k (j + 1) l)) := fun j => by rw [strsV_set, markdT_step]
    have HE : Hid (markdT k n l = marksT k l.length) := by show _ = _; rw [HN.out]; exact markdT_all k l
    clear hv hh hcs htake
    rw [← HN.out] at hl hnc ⊢
    go_enter Tryz.func11, Tryz.ntmps11
    go_wp2
    go_loopw [1, 5] (fun q i wr => ∃ (j m : Nat), j ≤ n ∧ i = .int .i64 j ∧ q = .int .i64 m ∧ Hid (m = k + j) ∧ wr.ownsRow base 9 1 (.slice (some ⟨g, 0, none⟩) n cap) n (strsV (markdT k j l)) ∧ w.grownBy wr (some g)) (fun _ i _ => n - (intOf i).toNat)
    case atStart => exact ⟨0, k, Nat.zero_le _, rfl, rfl, rfl, hv1, ⟨rfl, rfl, rfl, Nat.le_refl _, fun _ _ _ => rfl⟩⟩
    case round =>
      obtain ⟨j, m, hj, rfl, rfl, HMM, hown, hgb⟩ := hrel
      have hm0 : 0 < m := by have := HMM.out; omega
      have hm1 : m ≤ 200000000 := by have := HMM.out; omega
      by_cases hlt : j < n
      · have HP : Hid (∀ w3, Below wr.heap.size wr w3 → ((w3.setCell ⟨g, j, none⟩ (.string (mkT m))).ownsRow base 9 1 (.slice (some ⟨g, 0, none⟩) n cap) n (strsV (markdT k (j + 1) l))) ∧ (∃ u, w3.cell? ⟨g, j, none⟩ = some u) ∧ w3.frozen? ⟨g, j, none⟩ = false) := fun w3 hb => by
          have h3 := own_below hown hb
          refine ⟨?_, ⟨_, (h3.cellAt j (by omega)).trans (List.getElem?_eq_getElem (by have := h3.1; omega))⟩, h3.frozenAt j⟩
          rw [← HM.out j, ← HMM.out]
          exact (h3.stored j _).1
        have HT := fun w' => markText_any m w' hm0 (by omega)
        clear hown
        go_wp2_with (go_at_call 24; refine (HT _).mono ?_; rintro e w3 ⟨rfl, b3⟩; obtain ⟨h3, ⟨u2, d2⟩, f2⟩ := HP.out w3 b3; have HS : Hid _ := h3; clear h3)
        go_roundw
        case rel => exact ⟨j + 1, m + 1, by omega, by go_num, by go_num, by show m + 1 = _; rw [HMM.out]; omega, HS.out, gbi_trans (gbi_trans hgb (gb_belowE b3)) (gbi_set _ _ _ _)⟩
        case measure => simp [intOf]; omega
      · obtain rfl : n = j := by omega
        rw [HE.out] at hown
        go_wp2
        go_ret
        refine ⟨by rw [HMM.out]; rfl, ?_, hgb⟩
        rw [← HN.out] at hown
        unfold TxtRow
        rw [marksT_len]
        exact hown


/-- the first j of l, then empty ones -/
def fillT (j : Nat) (l : List ByteArray) : List ByteArray := (List.range l.length).map fun t => if t < j then l[t]! else ⟨#[]⟩

theorem fillT_zero (l : List ByteArray) : fillT 0 l = List.replicate l.length ⟨#[]⟩ := by
  apply List.ext_getElem (by simp [fillT])
  intro t h1 h2
  simp [fillT]
theorem fillT_all (l : List ByteArray) : fillT l.length l = l := by
  apply List.ext_getElem (by simp [fillT])
  intro t h1 h2
  simp only [fillT, List.getElem_map, List.getElem_range]
  rw [if_pos h2, getElem!_pos l t h2]
theorem fillT_step (j : Nat) (l : List ByteArray) : (fillT j l).set j l[j]! = fillT (j + 1) l := by
  apply List.ext_getElem (by simp [fillT])
  intro t h1 h2
  rw [List.getElem_set]
  simp only [fillT, List.getElem_map, List.getElem_range]
  by_cases e : j = t
  · subst e; simp
  · rw [if_neg e]
    by_cases h3 : t < j
    · rw [if_pos h3, if_pos (by omega)]
    · rw [if_neg h3, if_neg (by omega)]
theorem made_strs (n : Nat) : (madeCells #[.string ⟨#[]⟩] (n * 1)).toList = strsV (List.replicate n ⟨#[]⟩) := by
  rw [toList_madeCells_one]; simp [strsV]

set_option maxRecDepth 100000 in
set_option maxHeartbeats 1000000 in
theorem toStringS_any (v : Value) (l : List ByteArray) (w : World) (hl : l.length ≤ 1048576) (hv : TxtsAt w v l) :
    Calls Tryz.prog 6 #[v] w fun e w' => ∃ u, e = .returned u ∧ TxtRow w' w.heap.size u l ∧ Below w.heap.size w w' := by
  obtain ⟨a, ca, rfl, -, hva⟩ := hv
  obtain ⟨n, HN⟩ : ∃ n, Hid (n = l.length) := ⟨_, rfl⟩
  have HM : Hid (∀ j, (strsV (fillT j l)).set j (.string l[j]!) = strsV (fillT (j + 1) l)) := fun j => by rw [strsV_set, fillT_step]
  have HE : Hid (fillT n l = l) := by show _ = _; rw [HN.out]; exact fillT_all l
  have HZ : Hid (strsV (fillT 0 l) = strsV (List.replicate n ⟨#[]⟩)) := by show _ = _; rw [HN.out, fillT_zero]
  have HR : Hid (∀ w' u, TxtRow w' w.heap.size u l = w'.ownsRow w.heap.size 9 1 u n (strsV l)) := fun _ _ => by rw [HN.out]; rfl
  rw [← HN.out] at hva hl ⊢
  obtain ⟨i0, hi, hz0, hz1, hz2⟩ := info_parts Tryz.infoTxt
  go_enter Tryz.func6, Tryz.ntmps6
  go_wp2_with (at_make; refine wpList_make_full _ rfl _ _ 22 rfl w.heap.size 9 i0 (.string ⟨#[]⟩) 1 Tryz.underlying22 hi hz0 hz1 .i64 .i64 _ _ n rfl rfl rfl rfl (by rw [hz2]; omega) (by unfold maxLen; omega) (Nat.le_refl _) ?_; intro w1 hown1 hgrow1)
  have hown2 : w1.ownsRow w.heap.size 9 1 (.slice (some ⟨w.heap.size, 0, none⟩) n n) n (strsV (fillT 0 l)) := by
    rw [HZ.out, ← made_strs]; simpa [Value.cells] using hown1
  have hbel2 : Below w.heap.size w w1 := (Below.refl _ _).grown hgrow1 (Nat.le_refl _) (fun _ h => by cases h)
  clear hown1 hgrow1
  go_wp2
  go_loopw [4] (fun i wr => ∃ k : Nat, k ≤ n ∧ i = .int .i64 k ∧ wr.ownsRow w.heap.size 9 1 (.slice (some ⟨w.heap.size, 0, none⟩) n n) n (strsV (fillT k l)) ∧ Below w.heap.size w wr) (fun i _ => n - (intOf i).toNat)
  case atStart => exact ⟨0, Nat.zero_le _, rfl, hown2, hbel2⟩
  case round =>
    obtain ⟨k, hk, rfl, hown, hbel⟩ := hrel
    by_cases hlt : k < n
    · have hfz := hown.frozenAt k
      obtain ⟨u, hcl⟩ : ∃ u, wr.cell? ⟨w.heap.size, k, none⟩ = some u := ⟨_, (hown.cellAt k (by omega)).trans (List.getElem?_eq_getElem (by have := hown.1; omega))⟩
      obtain ⟨b1, o1, rfl, hb1, hc1⟩ := hva k hlt
      have hc1' := (hbel.cell (p := ⟨b1, o1 + k, none⟩) hb1).trans hc1
      have hst := (hown.stored k (.string l[k]!)).1
      rw [HM.out k] at hst
      generalize l[k]! = x at hc1' hst
      have HS : Hid ((wr.setCell ⟨w.heap.size, k, none⟩ (.string x)).ownsRow w.heap.size 9 1 (.slice (some ⟨w.heap.size, 0, none⟩) n n) n (strsV (fillT (k + 1) l))) := hst
      clear hst hc1
      go_wp2
      go_roundw
      case rel => exact ⟨k + 1, by omega, by go_num, HS.out, hbel.setCell (Nat.le_refl _) _⟩
      case measure => simp [intOf]; omega
    · obtain rfl : k = n := by omega
      rw [HE.out] at hown
      go_wp2
      go_ret
      exact ⟨_, rfl, by rw [HR.out]; exact hown, hbel⟩
end

section
open Go.RowKit Go.Sort

theorem ext_mid (l : List UInt8) (a b : Nat) : (bA l).extract a (a + b) = bA ((l.drop a).take b) := list_ext (by simp [bA])
theorem tak_end {l : List UInt8} {p : Int} (hl : l.length ≤ 1048576) (h0 : -1 ≤ p) (h1 : p ≤ 1099511627776) : -1 ≤ (takS l p).2 ∧ (takS l p).2 ≤ l.length ∧ (takS l p).1.length ≤ l.length := by
  have hv := vars_end l 1 p hl h0 h1
  unfold takS
  split
  · simp
  · rename_i h
    have hn : 0 ≤ (varsS l 1 p).1[0]! := by
      by_cases hp : p < 0 ∨ (l.length : Int) < p
      · rw [vars_out hp] at h; simp at h
      · obtain ⟨q, rfl⟩ : ∃ q : Nat, p = (q : Int) := ⟨p.toNat, by omega⟩
        by_cases hk : rdK (l.drop q) = 0
        · rw [vars_no (by omega) hk] at h; simp at h
        · rw [vars_yes (by omega) hk]; exact (rdN_in _).1
    refine ⟨by show -1 ≤ _ + _; omega, by show _ + _ ≤ _; omega, ?_⟩
    simp only [List.length_take, List.length_drop]; omega

set_option maxRecDepth 100000 in
set_option maxHeartbeats 1000000 in
theorem l7Take_any (l : List UInt8) (p : Int) (w : World) (hl : l.length ≤ 1048576) (hp0 : -1 ≤ p) (hp1 : p ≤ 1099511627776) :
    Calls Tryz.prog 28 #[.string (bA l), .int .i64 p] w fun e w' => e = .returned (.tuple #[.string (bA (takS l p).1), .int .i64 (takS l p).2]) ∧ Below w.heap.size w w' := by
  have HV := l7Vars_any l p 1 w hl hp0 hp1 (by omega)
  have hve := vars_end l 1 p hl hp0 hp1
  have hz := bA_size l
  have HX : Hid (∀ a b : Nat, (bA l).extract a (a + b) = bA ((l.drop a).take b)) := fun a b => ext_mid l a b
  have hn0 : (varsS l 1 p).2 < 0 ∨ (0 ≤ (varsS l 1 p).1[0]! ∧ (varsS l 1 p).1[0]! ≤ 562949953421311) := by
    by_cases hp : p < 0 ∨ (l.length : Int) < p
    · rw [vars_out hp]; left; simp
    · obtain ⟨q, rfl⟩ : ∃ q : Nat, p = (q : Int) := ⟨p.toNat, by omega⟩
      by_cases hk : rdK (l.drop q) = 0
      · rw [vars_no (by omega) hk]; left; simp
      · rw [vars_yes (by omega) hk]; right; exact rdN_in _
  have HT : Hid (takS l p = if (varsS l 1 p).2 < 0 ∨ (l.length : Int) - (varsS l 1 p).2 < (varsS l 1 p).1[0]! then ([], -1) else ((l.drop (varsS l 1 p).2.toNat).take (varsS l 1 p).1[0]!.toNat, (varsS l 1 p).2 + (varsS l 1 p).1[0]!)) := rfl
  obtain ⟨R, HR⟩ : ∃ R, Hid (R = takS l p) := ⟨_, rfl⟩
  rw [← HR.out] at HT ⊢
  generalize varsS l 1 p = P at *
  obtain ⟨ps, pe⟩ := P
  dsimp only at *
  by_cases hneg : pe < 0
  · have hR : Hid (R = ([], -1)) := by show _ = _; rw [HT.out, if_pos (.inl hneg)]
    rw [hR.out]
    have hemp : bA [] = ⟨#[]⟩ := rfl
    rw [hemp]
    generalize bA l = s at *
    clear HT hn0
    go_enter Tryz.func28, Tryz.ntmps28
    go_wp2_with (go_at_call 27; refine HV.mono ?_; rintro e w1 ⟨u, rfl, hrow, b1⟩)
    exact bodyPost_ret (results_tmp2 (t := 4) (u := 5) Tryz.results28 _ _ _) rfl ⟨rfl, b1⟩
  · obtain ⟨z, hzz⟩ : ∃ z, ps = [z] := List.length_eq_one_iff.1 (hve.2.2.1 (by omega))
    subst hzz
    obtain ⟨k, rfl⟩ : ∃ k : Nat, pe = (k : Int) := ⟨pe.toNat, by omega⟩
    have hz1 : 0 ≤ z ∧ z ≤ 562949953421311 := by
      rcases hn0 with h | h
      · omega
      · exact h
    obtain ⟨m, rfl⟩ : ∃ m : Nat, z = (m : Int) := ⟨z.toNat, by omega⟩
    have hkl : k ≤ l.length := by have := hve.2.2.2 (by omega); omega
    have hT := HT.out
    have e0 : ([(m : Int)] : List Int)[0]! = (m : Int) := rfl
    rw [e0, Int.toNat_natCast, Int.toNat_natCast] at hT
    have HC : Hid (∀ u w', IntRow w' w.heap.size u [(m : Int)] → ∃ g cap, u = .slice (some ⟨g, 0, none⟩) 1 cap ∧ w'.cell? ⟨g, 0, none⟩ = some (.int .i64 m)) := fun u w' h => by
      obtain ⟨a, cc, e, hc⟩ := h.at
      obtain ⟨b, off, h1, -, h3⟩ := hc 0 (by simp)
      rcases h.2 with ⟨_, h0⟩ | ⟨g, cap, cur, rfl, hg, hh, _⟩
      · simp at h0
      · refine ⟨g, cap, rfl, ?_⟩
        simp only [Value.slice.injEq] at e
        rw [← e.1] at h1
        cases h1
        simpa using h3
    by_cases hgt : (l.length : Int) - (k : Int) < (m : Int)
    · rw [if_pos (.inr hgt)] at hT
      rw [hT]
      have hemp : bA [] = ⟨#[]⟩ := rfl
      rw [hemp]
      have hgt' : ((bA l).size : Int) - (k : Int) < (m : Int) := by rw [hz]; exact hgt
      clear hz HT hT hve hn0 HX
      have hs1 : (bA l).size ≤ 1048576 := by rw [bA_size]; exact hl
      generalize bA l = s at *
      go_enter Tryz.func28, Tryz.ntmps28
      go_wp2_with (go_at_call 27; refine HV.mono ?_; rintro e w1 ⟨u, rfl, hrow, b1⟩; obtain ⟨g, cap, rfl, hc⟩ := HC.out _ _ hrow)
      exact bodyPost_ret (results_tmp2 (t := 4) (u := 5) Tryz.results28 _ _ _) rfl ⟨rfl, b1⟩
    · rw [if_neg (by omega)] at hT
      rw [hT]
      have hgt' : ¬ (((bA l).size : Int) - (k : Int) < (m : Int)) := by rw [hz]; exact hgt
      have hks : k + m ≤ (bA l).size := by rw [hz]; omega
      have hx := HX.out k m
      clear hz HT hT hve hn0 HX
      have hs1 : (bA l).size ≤ 1048576 := by rw [bA_size]; exact hl
      rw [← hx]
      clear hx
      generalize bA l = s at *
      have t1 : ((k : Int) + (m : Int)).toNat = k + m := by omega
      have t2 : (0 : Int) ≤ (k : Int) := by omega
      have t3 : (k : Int) ≤ (k : Int) + (m : Int) := by omega
      have t4 : (k : Int) + (m : Int) ≤ (s.size : Int) := by omega
      go_enter Tryz.func28, Tryz.ntmps28
      go_wp2_with (go_at_call 27; refine HV.mono ?_; rintro e w1 ⟨u, rfl, hrow, b1⟩; obtain ⟨g, cap, rfl, hc⟩ := HC.out _ _ hrow)
      go_quiet (fail)
      go_wp2
      exact bodyPost_ret (results_tmp2 (t := 4) (u := 5) Tryz.results28 _ _ _) rfl ⟨rfl, below_drewN b1 _⟩

set_option maxRecDepth 100000 in
set_option maxHeartbeats 1000000 in
theorem l7Alike_any (v u : Value) (l m : List ByteArray) (w : World) (hl : l.length ≤ 1048576) (hv : TxtsAt w v l) (hu : TxtsAt w u m) :
    Calls Tryz.prog 31 #[v, u] w fun e w' => e = .returned (.bool (decide (l = m))) ∧ Below w.heap.size w w' := by
  obtain ⟨a, ca, rfl, -, hva⟩ := hv
  obtain ⟨b, cb, rfl, -, hub⟩ := hu
  by_cases hlen : l.length = m.length
  · have hlen' : (l.length : Int) = (m.length : Int) := by omega
    obtain ⟨n, HN⟩ : ∃ n, Hid (n = m.length) := ⟨_, rfl⟩
    rw [hlen] at hva hl ⊢
    rw [← HN.out] at hva hub hl ⊢
    have HEND : Hid ((∀ t, t < n → l[t]! = m[t]!) → decide (l = m) = true) := fun h => decide_eq_true (strs_ext l m hlen fun t ht => h t (by rw [HN.out]; omega))
    have HNO : Hid (∀ k : Nat, ¬ l[k]! = m[k]! → decide (l = m) = false) := fun k h => decide_eq_false fun e => h (by rw [e])
    generalize decide (l = m) = r at HEND HNO ⊢
    go_enter Tryz.func31, Tryz.ntmps31
    go_wp2
    go_loopw [5] (fun i wr => ∃ k : Nat, k ≤ n ∧ i = .int .i64 k ∧ Hid (∀ t, t < k → l[t]! = m[t]!) ∧ Below w.heap.size w wr) (fun i _ => n - (intOf i).toNat)
    case atStart => exact ⟨0, Nat.zero_le _, rfl, fun t ht => by omega, Below.refl _ _⟩
    case round =>
      obtain ⟨k, hk, rfl, HEQ, hbel⟩ := hrel
      by_cases hlt : k < n
      · obtain ⟨b1, o1, rfl, hb1, hc1⟩ := hva k hlt
        obtain ⟨b2, o2, rfl, hb2, hc2⟩ := hub k hlt
        have hc1' := (hbel.cell (p := ⟨b1, o1 + k, none⟩) hb1).trans hc1
        have hc2' := (hbel.cell (p := ⟨b2, o2 + k, none⟩) hb2).trans hc2
        have HX : Hid (l[k]! = m[k]! → ∀ t, t < k + 1 → l[t]! = m[t]!) := fun h t ht => by
          by_cases e : t = k
          · rw [e]; exact h
          · exact HEQ.out t (by omega)
        have HNK := HNO.out k
        generalize l[k]! = x at hc1' HX HNK
        generalize m[k]! = y at hc2' HX HNK
        have HNK : Hid _ := HNK
        have hkn : (k : Int) < (n : Int) := by omega
        have hk0 : (0 : Int) ≤ (k : Int) := by omega
        clear hc1 hc2 hva hub
        by_cases hxy : x = y
        · have hf : (x.toList == y.toList) = true := by simp [hxy]
          have HX' : Hid _ := HX.out hxy
          clear HX hxy
          go_wp2
          go_quiet (fail)
          go_wp2
          go_roundw
          case rel => exact ⟨k + 1, by omega, by go_num, HX', below_drewN hbel _⟩
          case measure => simp [intOf]; omega
        · have hf : (x.toList == y.toList) = false := by rw [text_beq]; exact decide_eq_false hxy
          have hr : Hid (r = false) := HNK.out hxy
          clear HX hxy HNK
          go_wp2
          go_quiet (fail)
          go_wp2
          go_ret
          exact ⟨ret_bool hr.out.symm, below_drewN hbel _⟩
      · obtain rfl : k = n := by omega
        have hr : Hid (r = true) := HEND.out HEQ.out
        go_wp2
        go_ret
        exact ⟨ret_bool hr.out.symm, hbel⟩
  · have hne : ((l.length : Int) != (m.length : Int)) = true := by simp; omega
    have hneq : ¬ l = m := fun e => hlen (by rw [e])
    rw [decide_eq_false hneq]
    go_enter Tryz.func31, Tryz.ntmps31
    go_wp2
    go_ret
    exact ⟨rfl, Below.refl _ _⟩
end

section
open Go.RowKit Go.ChangeShapes Go.WideShapes Go.Deep Go.Joins

/-- the variables behind the call: an error that is held, and plain ones -/
theorem vars_err {H : Type} {enc : TypeId × Value → H} {P : Program} (hl : laidOutB P = true) {W W' : World} (hb : Below W.heap.size W W') {n : String} {g0 : Nat} {t0 : TypeId} {ms : Array (String × TypeId)}
    (hg0 : P.globalNamed n = some g0) (ht0 : (P.globals[g0]?).map (·.type) = some t0) (hi : P.underlying t0 = some (.interface ms)) {ns : List String} {gs : List (DataW H)} {ps : List MemPlace} (hv : varsRowed P ns = true) (h : DataW.TrodVars enc P W (fun _ => true) (n :: ns) gs ps) :
    DataW.TrodVars enc P W' (fun b => decide (b < W.heap.size)) (n :: ns) gs ps := by
  cases gs with
  | nil => exact h.elim
  | cons d ds =>
    obtain ⟨g, t, cs, fuel, p, q, h1, h2, h3, h4, hs, e⟩ := h
    obtain rfl := Option.some.inj (hg0.symm.trans h1)
    obtain rfl := Option.some.inj (ht0.symm.trans h2)
    have h3' : W'.var? P n = some cs := by
      unfold World.var? at h3 ⊢
      rw [h1] at h3 ⊢
      simp only [Option.bind_some] at h3 ⊢
      have hg : g0 < W.heap.size := by
        cases hh : W.heap[g0]? with
        | none => rw [hh] at h3; cases h3
        | some o => exact (Array.getElem?_eq_some_iff.1 hh).1
      rw [hb.block g0 hg]; exact h3
    obtain ⟨v, hcs, hiv, hy⟩ := held_of_trod_list hi h4
    refine ⟨g0, t0, cs, 1, p, q, h1, h2, h3', ?_, Below.trodVars hl hb hv hs, e⟩
    rw [hcs, trod_held hi hiv 0, hy]


/-- the variable of the error, out of the condition -/
theorem err_of {W : World} {nm : String} {d : DataW Unit} (hr : Lib.VarReads Tryz.prog W "loop.example/g00773/impl.errLacks" (.iface nm d)) : ∃ T x, ErrV W T x := by
  obtain ⟨g, t, cs, fuel, p, hg, hty, hvar, hd⟩ := hr
  obtain rfl := Option.some.inj ((show Tryz.prog.globalNamed "loop.example/g00773/impl.errLacks" = some 0 by kernel_rfl).symm.trans hg)
  obtain rfl := Option.some.inj ((show (Tryz.prog.globals[0]?).map (·.type) = some 120 by kernel_rfl).symm.trans hty)
  obtain ⟨f', u, v, hcs, -, -⟩ := iface_of_trod Tryz.underlying120 hd
  obtain ⟨l⟩ := cs
  obtain rfl : l = [.iface u v] := hcs
  exact ⟨u, v, by unfold ErrV; simpa using World.var?_cell hg hvar 0⟩
end

end Go.Proofs.YtpijjinoeghgoaaGreatDoor
