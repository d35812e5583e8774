/- Volumes: laws.markInodeS, heldInodeS, markVol, heldVol. -/
import Derived.Test.YtgjehmobafkjfaaRows
import Derived.Test.YtgjehmobafkjfaaVrB
import Derived.Test.YtgjehmobafkjfaaLEq
namespace Go.Proofs.Ytgjehmobafkjfaa
open Go.RowKit Go.Sort

/-- the marked inode whose first number is m -/
def mkI (m : Nat) (x : Ino) : Ino := ⟨m, m + 1, m + 2, mkT (m + 3), marksE (m + 4) x.ents.length⟩
/-- the number behind j marked inodes -/
def numI (k : Nat) (l : List (Ino × Value)) (j : Nat) : Nat := k + ((l.take j).map fun p => 4 + 4 * p.1.ents.length).sum
theorem numI_zero (k : Nat) (l : List (Ino × Value)) : numI k l 0 = k := by simp [numI]
theorem numI_succ (k : Nat) (l : List (Ino × Value)) (j : Nat) (h : j < l.length) : numI k l (j + 1) = numI k l j + (4 + 4 * l[j]!.1.ents.length) := by
  unfold numI
  rw [List.take_succ_eq_append_getElem h, List.map_append, List.sum_append, getElem!_pos l j h]; simp; omega
theorem numI_mono (k : Nat) (l : List (Ino × Value)) (j m : Nat) (h : j + m ≤ l.length) : numI k l j ≤ numI k l (j + m) := by
  induction m with
  | zero => exact Nat.le_refl _
  | succ m ih => have := ih (by omega); have h2 := numI_succ k l (j + m) (by omega); rw [← Nat.add_assoc, h2]; omega
/-- the first j are marked -/
def markdI (k j : Nat) (l : List (Ino × Value)) : List (Ino × Value) := (List.range l.length).map fun t => if t < j then (mkI (numI k l t) l[t]!.1, l[t]!.2) else l[t]!
theorem markdI_len (k j : Nat) (l : List (Ino × Value)) : (markdI k j l).length = l.length := by simp [markdI]
theorem markdI_get (k j : Nat) (l : List (Ino × Value)) (t : Nat) (h : t < l.length) : (markdI k j l)[t]! = if t < j then (mkI (numI k l t) l[t]!.1, l[t]!.2) else l[t]! := by
  rw [getElem!_pos _ t (by rw [markdI_len]; exact h)]; simp [markdI]
theorem list_ext1 {α : Type} [Inhabited α] {a b : List α} (hl : a.length = b.length) (h : ∀ t, t < a.length → a[t]! = b[t]!) : a = b := by
  apply List.ext_getElem hl
  intro t h1 h2
  have := h t h1
  rwa [getElem!_pos a t h1, getElem!_pos b t h2] at this
theorem markdI_zero (k : Nat) (l : List (Ino × Value)) : markdI k 0 l = l :=
  list_ext1 (markdI_len _ _ _) fun t ht => by rw [markdI_get _ _ _ _ (by rw [markdI_len] at ht; exact ht), if_neg (by omega)]
theorem markdI_step (k j : Nat) (l : List (Ino × Value)) : (markdI k j l).set j (mkI (numI k l j) l[j]!.1, l[j]!.2) = markdI k (j + 1) l := by
  refine list_ext1 (by rw [List.length_set, markdI_len, markdI_len]) fun t ht => ?_
  rw [List.length_set, markdI_len] at ht
  rw [at_set _ _ _ _ (by rw [markdI_len]; exact ht), markdI_get _ _ _ _ ht, markdI_get _ _ _ _ ht]
  by_cases e : j = t
  · subst e; rw [if_pos rfl, if_pos (by omega)]
  · rw [if_neg e]
    by_cases h1 : t < j
    · rw [if_pos h1, if_pos (by omega)]
    · rw [if_neg h1, if_neg (by omega)]
def marksI (k : Nat) (l : List (Ino × Value)) : List (Ino × Value) := markdI k l.length l
theorem gbi_of_below {w w' : World} {r : Option Nat} (b : Below w.heap.size w w') : w.grownBy w' r := ⟨b.os, b.tape, b.output, b.size, fun k hk _ => b.block k hk⟩
theorem gbr_trans {a b c : World} {r : Option Nat} (h : a.grownBy b r) (k : b.grownBy c r) : a.grownBy c r :=
  ⟨k.os.trans h.os, k.tape.trans h.tape, k.output.trans h.output, Nat.le_trans h.size k.size, fun i hi hne => (k.block i (Nat.lt_of_lt_of_le hi h.size) hne).trans (h.block i hi hne)⟩
theorem gbr_set (w : World) (g o : Nat) (u : Value) : w.grownBy (w.setCell ⟨g, o, none⟩ u) (some g) :=
  ⟨by simp [World.setCell]; try split <;> rfl, by simp [World.setCell]; try split <;> rfl, by simp [World.setCell]; try split <;> rfl, by simp, fun k _ hne => Below.heap_setCell w _ _ k (fun e => hne (by rw [e]))⟩
/-- what lies below B or from T on stays -/
structure MidB (B T : Nat) (w w' : World) : Prop where
  os : w'.os = w.os
  tape : w'.tape = w.tape
  output : w'.output = w.output
  size : w.heap.size ≤ w'.heap.size
  block : ∀ k, k < w.heap.size → (k < B ∨ T ≤ k) → w'.heap[k]? = w.heap[k]?
theorem MidB.refl (B T : Nat) (w : World) : MidB B T w w := ⟨rfl, rfl, rfl, Nat.le_refl _, fun _ _ _ => rfl⟩
theorem MidB.trans {B T : Nat} {a b c : World} (h : MidB B T a b) (k : MidB B T b c) : MidB B T a c :=
  ⟨k.os.trans h.os, k.tape.trans h.tape, k.output.trans h.output, Nat.le_trans h.size k.size, fun i hi hne => (k.block i (Nat.lt_of_lt_of_le hi h.size) hne).trans (h.block i hi hne)⟩
theorem MidB.of_below {B T : Nat} {w w' : World} (b : Below w.heap.size w w') : MidB B T w w' := ⟨b.os, b.tape, b.output, b.size, fun k hk _ => b.block k hk⟩
theorem MidB.of_grown {B T : Nat} {w w' : World} {r : Option Nat} (g : w.grownBy w' r) (h : ∀ q, r = some q → B ≤ q ∧ q < T) : MidB B T w w' :=
  ⟨g.os, g.tape, g.output, g.size, fun k hk hne => g.block k hk fun e => by have := h k e.symm; omega⟩
theorem MidB.below {B T : Nat} {w w' : World} (m : MidB B T w w') (hb : B ≤ w.heap.size) : Below B w w' := ⟨m.os, m.tape, m.output, m.size, fun k hk => m.block k (by omega) (.inl hk)⟩
/-- a cell of a block that stays -/
theorem MidB.cell {B T : Nat} {w w' : World} (m : MidB B T w w') {b : Nat} (o : Nat) (hb : b < w.heap.size) (h : b < B ∨ T ≤ b) : w'.cell? ⟨b, o, none⟩ = w.cell? ⟨b, o, none⟩ := World.cell?_of_block (m.block b hb h)
/-- each of its cells is there and may be written -/
theorem rowI_cells {w : World} {base g n cap : Nat} {xs : List Value} (h : w.ownsRow base 38 5 (.slice (some ⟨g, 0, none⟩) n cap) n xs) (t : Nat) (ht : t < n * 5) : (∃ u, w.cell? ⟨g, t, none⟩ = some u) ∧ w.frozen? ⟨g, t, none⟩ = false :=
  ⟨⟨_, (h.cellAt t ht).trans (List.getElem?_eq_getElem (by have := h.1; omega))⟩, h.frozenAt t⟩
theorem flatI_put4 : ∀ (l : List (Ino × Value)) (t : Nat) (i k m : Int) (d : ByteArray), t < l.length → ((((flatI l).set (t * 5) (.int .i64 i)).set (t * 5 + 1) (.int .i64 k)).set (t * 5 + 2) (.int .i64 m)).set (t * 5 + 3) (.string d) = flatI (l.set t (⟨i, k, m, d, l[t]!.1.ents⟩, l[t]!.2))
  | [], t, _, _, _, _, h => by simp at h
  | e :: l, 0, i, k, m, d, _ => by simp [flatI_cons, encI]
  | e :: l, t + 1, i, k, m, d, h => by
    have ih := flatI_put4 l t i k m d (by simpa using h)
    have e1 : (e :: l)[t + 1]! = l[t]! := by simp
    rw [e1, List.set_cons_succ, flatI_cons, flatI_cons, ← ih]
    simp only [encI, List.cons_append, List.nil_append]
    rw [show (t + 1) * 5 = t * 5 + 1 + 1 + 1 + 1 + 1 by omega]
    simp only [List.set_cons_succ]
/-- the four first cells of one of them written anew; the fourth behind whatever makes memory alone -/
theorem InoRow.put4 {w w3 : World} {base g n cap : Nat} {l : List (Ino × Value)} (h : InoRow w base (.slice (some ⟨g, 0, none⟩) n cap) l) (hn : n = l.length) {t : Nat} (ht : t < n) (i k m : Int) (d : ByteArray)
    (b : Below (((w.setCell ⟨g, t * 5, none⟩ (.int .i64 i)).setCell ⟨g, t * 5 + 1, none⟩ (.int .i64 k)).setCell ⟨g, t * 5 + 2, none⟩ (.int .i64 m)).heap.size (((w.setCell ⟨g, t * 5, none⟩ (.int .i64 i)).setCell ⟨g, t * 5 + 1, none⟩ (.int .i64 k)).setCell ⟨g, t * 5 + 2, none⟩ (.int .i64 m)) w3) :
    InoRow (w3.setCell ⟨g, t * 5 + 3, none⟩ (.string d)) base (.slice (some ⟨g, 0, none⟩) n cap) (l.set t (⟨i, k, m, d, l[t]!.1.ents⟩, l[t]!.2)) := by
  have h0 : w.ownsRow base 38 5 (.slice (some ⟨g, 0, none⟩) n cap) n (flatI l) := by have := h.row; rwa [← hn] at this
  have h1 := (h0.stored (t * 5) (.int .i64 i)).1
  have h2 := (h1.stored (t * 5 + 1) (.int .i64 k)).1
  have h3 := (h2.stored (t * 5 + 2) (.int .i64 m)).1
  have h4 := own_below h3 b
  have h5 := (h4.stored (t * 5 + 3) (.string d)).1
  rw [flatI_put4 l t i k m d (by omega)] at h5
  refine h.re (gbr_trans (gbr_trans (gbr_trans (gbr_trans (gbr_set w g _ _) (gbr_set _ g _ _)) (gbr_set _ g _ _)) (gbi_of_below b)) (gbr_set _ g _ _)) hn h5 (by simp) fun j hj => ?_
  rw [at_set _ _ _ _ hj]
  by_cases e : t = j
  · subst e; rw [if_pos rfl]; exact ⟨rfl, rfl⟩
  · rw [if_neg e]; exact ⟨rfl, rfl⟩

set_option maxRecDepth 100000 in
set_option maxHeartbeats 1000000 in
theorem markInodeS_any (v : Value) (l : List (Ino × Value)) (k : Nat) (base top : Nat) (w : World) (hv : InoRow w base v l) (ht0 : ∀ q, v.ownBlock = some q → q < top) (ht1 : ∀ t q, t < l.length → l[t]!.2.ownBlock = some q → q < top) (hk0 : 0 < k) (hk1 : numI k l l.length ≤ 90000000) (hsh : ∀ t, t < l.length → l[t]!.1.ents.length ≤ 1048577) :
    Calls Try.prog 15 #[v, .int .i64 k] w fun e w' => e = .returned (.int .i64 (numI k l l.length : Nat)) ∧ InoRow w' base v (marksI k l) ∧ MidB base top w w' := by
  have hrow := hv.row
  rcases hrow.2 with ⟨rfl, h0⟩ | ⟨g, cap, cur, rfl, hg, hh, hnc, hcp, hcs, htake⟩
  · obtain rfl : l = [] := List.length_eq_zero_iff.1 h0
    go_enter Try.func15, Try.ntmps15
    go_wp2
    refine wp_loop_rounds 1 ?_
    rw [rounds_succ]
    go_wp2
    go_ret
    exact ⟨by simp [numI], by simpa [marksI, markdI] using hv, MidB.refl _ _ _⟩
  · obtain ⟨n, HN⟩ : ∃ n, Hid (n = l.length) := ⟨_, rfl⟩
    have hv1 : InoRow w base (.slice (some ⟨g, 0, none⟩) n cap) (markdI k 0 l) := by rw [markdI_zero, HN.out]; exact hv
    have HM : Hid (∀ j, (markdI k j l).set j (mkI (numI k l j) l[j]!.1, l[j]!.2) = markdI k (j + 1) l) := fun j => markdI_step k j l
    have HLN : Hid (∀ j, n = (markdI k j l).length) := fun j => by rw [markdI_len]; exact HN.out
    have HG : Hid (∀ j, j < n → (markdI k j l)[j]! = l[j]!) := fun j hj => by rw [markdI_get _ _ _ _ (by rw [← HN.out]; exact hj), if_neg (by omega)]
    have HNU : Hid (∀ j, j < n → numI k l (j + 1) = numI k l j + (4 + 4 * l[j]!.1.ents.length)) := fun j hj => numI_succ k l j (by rw [← HN.out]; exact hj)
    have HNB : Hid (∀ j, j ≤ n → 0 < numI k l j ∧ numI k l j ≤ 90000000) := fun j hj => by
      have := numI_mono k l j (n - j) (by rw [← HN.out]; omega)
      rw [show j + (n - j) = n by omega, HN.out] at this
      exact ⟨by unfold numI; omega, by omega⟩
    have HE : Hid (markdI k n l = marksI k l) := by show _ = _; rw [HN.out]; rfl
    have hgt : g < top := ht0 g rfl
    have HT1 : Hid (∀ j, j < n → ∀ q, l[j]!.2.ownBlock = some q → q < top) := fun j hj q hq => ht1 j q (by rw [← HN.out]; exact hj) hq
    have HSH : Hid (∀ j, j < n → l[j]!.1.ents.length ≤ 1048577) := fun j hj => hsh j (by rw [← HN.out]; exact hj)
    clear hv hh hcs htake hrow hsh hk1 ht0 ht1
    unfold maxLen at hcp
    rw [← HN.out] at hnc ⊢
    go_enter Try.func15, Try.ntmps15
    go_wp2
    go_loopw [1, 5] (fun q i wr => ∃ (j m : Nat), j ≤ n ∧ i = .int .i64 j ∧ q = .int .i64 m ∧ Hid (m = numI k l j) ∧ InoRow wr base (.slice (some ⟨g, 0, none⟩) n cap) (markdI k j l) ∧ MidB base top w wr) (fun _ i _ => n - (intOf i).toNat)
    case atStart => exact ⟨0, k, Nat.zero_le _, rfl, rfl, (numI_zero k l).symm, hv1, MidB.refl _ _ _⟩
    case round =>
      obtain ⟨j, m, hj, rfl, rfl, HMM, hown, hgb⟩ := hrel
      have hnb := HNB.out j hj
      rw [← HMM.out] at hnb
      obtain ⟨hm0, hm1⟩ := hnb
      by_cases hlt : j < n
      · have hrw : wr.ownsRow base 38 5 (.slice (some ⟨g, 0, none⟩) n cap) n (flatI (markdI k j l)) := by have := hown.row; rwa [← HLN.out j] at this
        obtain ⟨⟨u0, d0⟩, f0⟩ := rowI_cells hrw (j * 5) (by omega)
        obtain ⟨⟨u1, d1⟩, f1⟩ := rowI_cells hrw (j * 5 + 1) (by omega)
        obtain ⟨⟨u2, d2⟩, f2⟩ := rowI_cells hrw (j * 5 + 2) (by omega)
        have HP : Hid (∀ w3, Below (((wr.setCell ⟨g, j * 5, none⟩ (.int .i64 (m : Int))).setCell ⟨g, j * 5 + 1, none⟩ (.int .i64 ((m : Int) + 1))).setCell ⟨g, j * 5 + 2, none⟩ (.int .i64 ((m : Int) + 1 + 1))).heap.size (((wr.setCell ⟨g, j * 5, none⟩ (.int .i64 (m : Int))).setCell ⟨g, j * 5 + 1, none⟩ (.int .i64 ((m : Int) + 1))).setCell ⟨g, j * 5 + 2, none⟩ (.int .i64 ((m : Int) + 1 + 1))) w3 →
            InoRow (w3.setCell ⟨g, j * 5 + 3, none⟩ (.string (mkT (m + 3)))) base (.slice (some ⟨g, 0, none⟩) n cap) ((markdI k j l).set j (⟨(m : Int), (m : Int) + 1, (m : Int) + 1 + 1, mkT (m + 3), l[j]!.1.ents⟩, l[j]!.2)) ∧ ∃ u3, w3.cell? ⟨g, j * 5 + 3, none⟩ = some u3 ∧ w3.frozen? ⟨g, j * 5 + 3, none⟩ = false) := fun w3 b3 => by
          have e := InoRow.put4 hown (HLN.out j) hlt (m : Int) ((m : Int) + 1) ((m : Int) + 1 + 1) (mkT (m + 3)) b3
          rw [HG.out j hlt] at e
          have h1 := (hrw.stored (j * 5) (.int .i64 (m : Int))).1
          have h2 := (h1.stored (j * 5 + 1) (.int .i64 ((m : Int) + 1))).1
          have h3 := (h2.stored (j * 5 + 2) (.int .i64 ((m : Int) + 1 + 1))).1
          obtain ⟨⟨u3, d3⟩, f3⟩ := rowI_cells (own_below h3 b3) (j * 5 + 3) (by omega)
          exact ⟨e, u3, d3, f3⟩
        have HC : Hid (∀ w3, Below (((wr.setCell ⟨g, j * 5, none⟩ (.int .i64 (m : Int))).setCell ⟨g, j * 5 + 1, none⟩ (.int .i64 ((m : Int) + 1))).setCell ⟨g, j * 5 + 2, none⟩ (.int .i64 ((m : Int) + 1 + 1))).heap.size (((wr.setCell ⟨g, j * 5, none⟩ (.int .i64 (m : Int))).setCell ⟨g, j * 5 + 1, none⟩ (.int .i64 ((m : Int) + 1))).setCell ⟨g, j * 5 + 2, none⟩ (.int .i64 ((m : Int) + 1 + 1))) w3 → w3.cell? ⟨g, j * 5 + 4, none⟩ = some l[j]!.2) := fun w3 b3 => by
          have h1 := (hrw.stored (j * 5) (.int .i64 (m : Int))).1
          have h2 := (h1.stored (j * 5 + 1) (.int .i64 ((m : Int) + 1))).1
          have h3 := (h2.stored (j * 5 + 2) (.int .i64 ((m : Int) + 1 + 1))).1
          rw [(own_below h3 b3).cellAt (j * 5 + 4) (by omega), List.getElem?_set_ne (by omega), List.getElem?_set_ne (by omega), List.getElem?_set_ne (by omega), flatI_at _ _ (by rw [← HLN.out j]; exact hlt) 4 (by omega), HG.out j hlt]; rfl
        have HLT : Hid (j + 1 ≤ n) := hlt
        have HT := fun w' => markText_at ((m : Int) + 1 + 1 + 1) (m + 3) (by omega) w' (by omega) (by omega)
        have hsl := HSH.out j hlt
        have HF : Hid (∀ w4, InoRow w4 base (.slice (some ⟨g, 0, none⟩) n cap) ((markdI k j l).set j (⟨(m : Int), (m : Int) + 1, (m : Int) + 1 + 1, mkT (m + 3), l[j]!.1.ents⟩, l[j]!.2)) → EntRow w4 base l[j]!.2 l[j]!.1.ents ∧ ∀ w5, EntRow w5 base l[j]!.2 (marksE (m + 4) l[j]!.1.ents.length) → w4.grownBy w5 l[j]!.2.ownBlock → InoRow w5 base (.slice (some ⟨g, 0, none⟩) n cap) (markdI k (j + 1) l)) := fun w4 h4 => by
          have hl' : j < ((markdI k j l).set j (⟨(m : Int), (m : Int) + 1, (m : Int) + 1 + 1, mkT (m + 3), l[j]!.1.ents⟩, l[j]!.2)).length := by rw [List.length_set, ← HLN.out j]; exact hlt
          have e1 : ((markdI k j l).set j (⟨(m : Int), (m : Int) + 1, (m : Int) + 1 + 1, mkT (m + 3), l[j]!.1.ents⟩, l[j]!.2))[j]! = (⟨(m : Int), (m : Int) + 1, (m : Int) + 1 + 1, mkT (m + 3), l[j]!.1.ents⟩, l[j]!.2) := by
            rw [at_set _ _ _ _ (by rw [← HLN.out j]; exact hlt), if_pos rfl]
          have h5 := h4.ents j hl'
          rw [e1] at h5
          refine ⟨h5, fun w5 hd hgr => ?_⟩
          have := InoRow.ent (w' := w5) h4 hl' (d := marksE (m + 4) l[j]!.1.ents.length) (by rw [e1]; exact hd) (by rw [e1]; exact hgr)
          rw [e1, List.set_set] at this
          rw [← HM.out j, ← HMM.out]
          have e2 : (m : Int) + 1 + 1 = (m : Int) + 2 := by omega
          unfold mkI
          rw [← e2]
          exact this
        have HQ := HT1.out j hlt
        have HNX : Hid (m + 4 + 4 * l[j]!.1.ents.length = numI k l (j + 1)) := by show _ = _; rw [HNU.out j hlt, ← HMM.out]; omega
        generalize l[j]!.1.ents = d at HP HF hsl HNX
        generalize l[j]!.2 = s at HP HC HF HQ
        have HQ : Hid _ := HQ
        have HS : Hid _ := hown
        clear hown hrw
        go_wp2_with fail
        refine (HT _).mono ?_
        rintro e w3 ⟨rfl, b3⟩
        obtain ⟨h4, u3, d3, f3⟩ := HP.out w3 b3
        have c4 := HC.out w3 b3
        obtain ⟨hrow4, HNEXT⟩ := HF.out _ h4
        have HME := markEntS_any s d (m + 4) base _ hrow4 hsl (by omega) (by omega)
        have e4 : (((m + 4 : Nat) : Nat) : Int) = (m : Int) + 1 + 1 + 1 + 1 := by omega
        rw [e4] at HME
        have HNEXT : Hid _ := HNEXT
        have hs4 : s = s := rfl
        clear h4 HP HC HF
        go_wp2_with fail
        refine HME.mono ?_
        rintro e w5 ⟨rfl, r5, g5⟩
        have h5 := HNEXT.out w5 r5 g5
        have hS := fun (w' : World) (o : Nat) (u : Value) => MidB.of_grown (B := base) (T := top) (gbr_set w' g o u) (fun q hq => by cases hq; exact ⟨hg, hgt⟩)
        have B5 : MidB base top w w5 := (((((hgb.trans (hS _ _ _)).trans (hS _ _ _)).trans (hS _ _ _)).trans (MidB.of_below b3)).trans (hS _ _ _)).trans (MidB.of_grown g5 fun q hq => ⟨(hrow4.blk q hq).1, HQ.out q hq⟩)
        go_wp2
        go_roundw
        case rel => exact ⟨j + 1, _, HLT.out, by go_num, rfl, HNX.out, h5, B5⟩
        case measure => have := HLT.out; simp [intOf]; omega
      · obtain rfl : n = j := by omega
        rw [HE.out] at hown
        go_wp2
        go_ret
        exact ⟨by rw [HMM.out]; rfl, hown, hgb⟩

set_option maxRecDepth 100000 in
set_option maxHeartbeats 1000000 in
theorem heldInodeS_marks (v : Value) (l : List (Ino × Value)) (k : Nat) (w : World) (hv : InosAt w v ((marksI k l).map (·.1))) (hln : l.length ≤ 1048577) (hk0 : 0 < k) (hk1 : numI k l l.length ≤ 90000000) (hsh : ∀ t, t < l.length → l[t]!.1.ents.length ≤ 1048577) :
    Calls Try.prog 16 #[v, .int .i64 k] w fun e w' => e = .returned (.int .i64 (numI k l l.length : Nat)) ∧ Below w.heap.size w w' := by
  obtain ⟨a, cap, rfl, -, hva⟩ := hv
  have hlen : ((marksI k l).map (·.1)).length = l.length := by rw [List.length_map]; exact markdI_len _ _ _
  rw [hlen] at hva ⊢
  have HV : Hid (∀ t, t < l.length → ∃ b off s, a = some ⟨b, off, none⟩ ∧ b < w.heap.size ∧ CellsI w b (off + t * 5) (mkI (numI k l t) l[t]!.1) s ∧ EntsAt w s (marksE (numI k l t + 4) l[t]!.1.ents.length)) := fun t ht => by
    obtain ⟨b, off, s, h1, h2, h3, h4⟩ := hva t ht
    have e : ((marksI k l).map (·.1))[t]! = mkI (numI k l t) l[t]!.1 := by
      rw [map_fst_at _ _ (by unfold marksI; rw [markdI_len]; exact ht)]
      unfold marksI
      rw [markdI_get _ _ _ _ ht, if_pos ht]
    rw [e] at h3 h4
    exact ⟨b, off, s, h1, h2, h3, h4⟩
  have HNU : Hid (∀ j, j < l.length → numI k l (j + 1) = numI k l j + (4 + 4 * l[j]!.1.ents.length)) := fun j hj => numI_succ k l j hj
  have HNB : Hid (∀ j, j ≤ l.length → 0 < numI k l j ∧ numI k l j ≤ 90000000) := fun j hj => by
    have := numI_mono k l j (l.length - j) (by omega)
    rw [show j + (l.length - j) = l.length by omega] at this
    exact ⟨by unfold numI; omega, by omega⟩
  have HSH : Hid (∀ j, j < l.length → l[j]!.1.ents.length ≤ 1048577) := fun j hj => hsh j hj
  clear hva hlen hsh hk1
  obtain ⟨n, HN⟩ : ∃ n, Hid (n = l.length) := ⟨_, rfl⟩
  rw [← HN.out] at HV HNU HNB HSH hln ⊢
  go_enter Try.func16, Try.ntmps16
  go_wp2
  go_loopw [1, 5] (fun q i wr => ∃ (j m : Nat), j ≤ n ∧ i = .int .i64 j ∧ q = .int .i64 m ∧ Hid (m = numI k l j) ∧ Below w.heap.size w wr) (fun _ i _ => n - (intOf i).toNat)
  case atStart => exact ⟨0, k, Nat.zero_le _, rfl, rfl, (numI_zero k l).symm, Below.refl _ _⟩
  case round =>
    obtain ⟨j, m, hj, rfl, rfl, HMM, hbel⟩ := hrel
    have hnb := HNB.out j hj
    rw [← HMM.out] at hnb
    obtain ⟨hm0, hm1⟩ := hnb
    by_cases hlt : j < n
    · obtain ⟨b, off, s, rfl, hb, hc, he⟩ := HV.out j hlt
      rw [← HMM.out] at hc he
      have hc1 := hc.below hb hbel
      have k0 := hc1.c0
      have k1 := hc1.c1
      have k2 := hc1.c2
      have k3 := hc1.c3
      dsimp only [mkI] at k0 k1 k2 k3
      have HC4 : Hid (∀ w', Below wr.heap.size wr w' → w'.cell? ⟨b, off + j * 5 + 4, none⟩ = some s) := fun w' hb' => (hc.below hb (hbel.trans (hb'.mono hbel.size))).c4
      have hsl := HSH.out j hlt
      have HHE : Hid (∀ w', Below wr.heap.size wr w' → Calls Try.prog 23 #[s, .int .i64 ((m : Int) + 1 + 1 + 1 + 1)] w' fun e w'' => e = .returned (.int .i64 ((m + 4 + 4 * l[j]!.1.ents.length : Nat) : Int)) ∧ Below w'.heap.size w' w'') := fun w' hb' => by
        have := heldEntS_marks s l[j]!.1.ents.length (m + 4) w' hsl (by omega) (by omega) (he.below (hbel.trans (hb'.mono hbel.size)))
        rwa [show (((m + 4 : Nat) : Nat) : Int) = (m : Int) + 1 + 1 + 1 + 1 by omega] at this
      have HNX : Hid (m + 4 + 4 * l[j]!.1.ents.length = numI k l (j + 1)) := by show _ = _; rw [HNU.out j hlt, ← HMM.out]; omega
      generalize l[j]!.1.ents.length = el at hsl HHE HNX
      have HT : ∀ (dd : Nat) (os : Array Obj), Calls Try.prog 21 #[.int .i64 ((m : Int) + 1 + 1 + 1)] (grow (redrawn wr dd) os) fun e w'' => e = .returned (.string (mkT (m + 3))) ∧ ∃ p : Regrown, w'' = grow (redrawn wr p.d) p.os := fun dd os => Calls.regrown_of (markText_at ((m : Int) + 1 + 1 + 1) (m + 3) (by omega) _ (by omega) (by omega))
      have q3 := cell_regrown k3
      generalize mkT (m + 3) = tx at k3 q3 HT
      have hj0 : (0 : Int) ≤ (j : Int) := by omega
      have hjn : (j : Int) < (n : Int) := by omega
      have h2 : ((m : Int) + 2 != (m : Int) + 1 + 1) = false := by simp; omega
      clear hc hc1 he
      go_wp2
      refine wp_region_quiet_below (by kernel_rfl) (by kernel_rfl) ?_
      repeat (go_big_quiet_step (exact HT _ _))
      refine wpQuiet_nil ?_
      rintro w' ⟨⟨dq, osq⟩, rfl⟩
      have hbq := below_regrown wr dq osq
      have c4 := HC4.out _ hbq
      have hhe := HHE.out _ hbq
      generalize grow (redrawn wr dq) osq = w4 at hbq c4 hhe ⊢
      go_wp2_with fail
      refine hhe.mono ?_
      rintro e w5 ⟨rfl, b5⟩
      have B5 := (hbel.trans (hbq.mono hbel.size)).trans (b5.mono (Nat.le_trans hbel.size hbq.size))
      have hnn : ¬ (((m + 4 + 4 * el : Nat) : Int) < 0) := by omega
      go_wp2
      go_roundw
      case rel => exact ⟨j + 1, _, by omega, by go_num, rfl, HNX.out, B5⟩
      case measure => simp [intOf]; omega
    · obtain rfl : n = j := by omega
      go_wp2
      go_ret
      exact ⟨by rw [HMM.out]; rfl, hbel⟩

set_option maxRecDepth 100000 in
set_option maxHeartbeats 1000000 in
theorem markVol_any (x : Int) (v : Value) (l : List (Ino × Value)) (k : Nat) (base top : Nat) (w : World) (hv : InoRow w base v l) (ht0 : ∀ q, v.ownBlock = some q → q < top) (ht1 : ∀ t q, t < l.length → l[t]!.2.ownBlock = some q → q < top) (hk0 : 0 < k) (hk1 : numI k l l.length ≤ 90000000) (hsh : ∀ t, t < l.length → l[t]!.1.ents.length ≤ 1048577) :
    Calls Try.prog 8 #[.agg #[.int .i64 x, v], .int .i64 k] w fun e w' => e = .returned (.int .i64 (numI k l l.length : Nat)) ∧ InoRow w' base v (marksI k l) ∧ MidB base top w w' := by
  have HM : ∀ w', Below w.heap.size w w' → _ := fun w' b => markInodeS_any v l k base top w' (hv.below b) ht0 ht1 hk0 hk1 hsh
  have hvv := hv.at
  obtain ⟨a, ca, rfl, -, -⟩ := hvv
  generalize (l.map (·.1)).length = m at *
  go_enter Try.func8, Try.ntmps8
  go_wp2_with fail
  refine (HM _ (below_lit w _)).mono ?_
  rintro e w1 ⟨rfl, r1, b1⟩
  go_wp2
  go_ret
  exact ⟨rfl, r1, (MidB.of_below (below_lit w _)).trans b1⟩

set_option maxRecDepth 100000 in
set_option maxHeartbeats 1000000 in
theorem heldVol_marks (x : Int) (v : Value) (l : List (Ino × Value)) (k : Nat) (w : World) (hv : InosAt w v ((marksI k l).map (·.1))) (hln : l.length ≤ 1048577) (hk0 : 0 < k) (hk1 : numI k l l.length ≤ 90000000) (hsh : ∀ t, t < l.length → l[t]!.1.ents.length ≤ 1048577) :
    Calls Try.prog 9 #[.agg #[.int .i64 x, v], .int .i64 k] w fun e w' => e = .returned (.int .i64 (numI k l l.length : Nat)) ∧ Below w.heap.size w w' := by
  have HM : ∀ w', Below w.heap.size w w' → _ := fun w' b => heldInodeS_marks v l k w' (hv.below b) hln hk0 hk1 hsh
  obtain ⟨a, ca, rfl, -, -⟩ := hv
  generalize ((marksI k l).map (·.1)).length = m at *
  generalize numI k l l.length = q at *
  have hq : ¬ ((q : Int) < 0) := by omega
  go_enter Try.func9, Try.ntmps9
  go_wp2_with fail
  refine (HM _ (below_lit w _)).mono ?_
  rintro e w1 ⟨rfl, b1⟩
  go_wp2
  go_ret
  exact ⟨rfl, (below_lit w _).trans (b1.mono (by simp))⟩

end Go.Proofs.Ytgjehmobafkjfaa
