/- Patterns: spec.Glob, and the exact laws of Glob and SortNames' neighbours. Entries of a directory. Rows of entries: how they lie; a row behind a row. Rows of entries: what laws.toEnt, toEntS, eqEnt, eqEntS, szEnt, szEntS do. Rows of entries: what laws.toEntS, szEnt, szEntS do. Rows of entries: what laws.szEnt, szEntS, markText do. Marks of texts: what laws.markText answers. Rows of entries: what laws.markEntS does. -/
import Derived.Test.YtlkemmdcjnaepaaDoorRows
import Derived.Test.YtlkemmdcjnaepaaDoorG23
import Derived.Test.YtlkemmdcjnaepaaDoorG26
import Derived.Test.YtlkemmdcjnaepaaDoorG00
import Derived.Test.YtlkemmdcjnaepaaDoorG01
import Derived.Laws.AppendOwnNone
import Derived.WalkKit
import Derived.WalkSpells
import Derived.WalkLawsBesides
import Derived.Deep.QuietTactic
import Derived.BigQuiet
import Derived.Deep.Onto
import Derived.Lib.QuietBelow
namespace Go.Proofs.YtlkemmdcjnaepaaDoor

section
open Go.RowKit

set_option maxRecDepth 100000 in
set_option maxHeartbeats 1000000 in
theorem sGlob (a b : ByteArray) (w : World) (ha : a.size ≤ 1048576) (hb : b.size ≤ 1048576) :
    Calls Tryd.prog 22 #[.string a, .string b] w fun e w' => e = .returned (.bool (globN a b)) ∧ Below w.heap.size w w' := by
  have N1 := sNameOk a w ha
  have N2 := fun W => sNameOk b W hb
  have U1 := fun W => l14Units_any a W ha
  have U2 := fun W => l14Units_any b W hb
  obtain ⟨lA, lA2⟩ := un14_row a ha
  obtain ⟨lB, lB2⟩ := un14_row b hb
  have HE : Hid (globN a b = ((nameL a).isSome && ((nameL b).isSome && fitsN (un14 a) (un14 b)))) := rfl
  have HF := fun v u W hv hu => l14Fits_any v u (un14 a) (un14 b) W hv hu lA lB lA2
  generalize globN a b = r at HE ⊢
  generalize (nameL a).isSome = qa at N1 HE
  generalize (nameL b).isSome = qb at N2 HE
  generalize fitsN (un14 a) (un14 b) = q at HE HF
  generalize un14 a = A at U1 HF lA lA2
  generalize un14 b = B at U2 HF lB lB2
  go_enter Tryd.func22, Tryd.ntmps22
  cases qa
  · obtain rfl : r = false := HE.out
    go_wp2_with fail
    refine N1.mono ?_
    rintro e w1 ⟨rfl, b1⟩
    go_wp2
    go_ret
    exact ⟨rfl, b1⟩
  go_wp2_with fail
  refine N1.mono ?_
  rintro e w1 ⟨rfl, b1⟩
  cases qb
  · obtain rfl : r = false := HE.out
    go_wp2_with fail
    refine (N2 w1).mono ?_
    rintro e w2 ⟨rfl, b2⟩
    go_wp2
    go_ret
    exact ⟨rfl, b1.trans (b2.mono b1.size)⟩
  obtain rfl : r = q := HE.out
  clear HE
  go_wp2_with fail
  refine (N2 w1).mono ?_
  rintro e w2 ⟨rfl, b2⟩
  have B2 := b1.trans (b2.mono b1.size)
  go_wp2_with fail
  refine (U1 w2).mono ?_
  rintro e w3 ⟨ua, usa, rfl, ra, b3⟩
  have B3 := B2.trans (b3.mono B2.size)
  go_wp2_with fail
  refine (U2 w3).mono ?_
  rintro e w4 ⟨ub, usb, rfl, rb, b4⟩
  have B4 := B3.trans (b4.mono B3.size)
  go_wp2_with fail
  refine (HF ua ub w4 (ra.below b4).at rb.at).mono ?_
  rintro e w5 ⟨rfl, b5⟩
  go_wp2
  go_ret
  exact ⟨rfl, B4.trans (b5.mono B4.size)⟩
end

section
/-- an entry -/
structure En where
  hash : Int
  index : Int
  name : ByteArray
  id : Int
  deriving DecidableEq
instance : Inhabited En := ⟨⟨0, 0, ⟨#[]⟩, 0⟩⟩
end

section
open Go.RowKit

/-- an entry's cells -/
def encE (e : En) : List Value := [.int .i64 e.hash, .int .i64 e.index, .string e.name, .int .i64 e.id]
theorem encE_len (e : En) : (encE e).length = 4 := rfl
theorem encE_one (e : En) : ∀ v ∈ encE e, v.oneCell' = true := by
  intro v hv
  simp only [encE, List.mem_cons, List.not_mem_nil, or_false] at hv
  rcases hv with rfl | rfl | rfl | rfl <;> rfl
def flatE (l : List En) : List Value := l.flatMap encE
theorem flatE_len (l : List En) : (flatE l).length = l.length * 4 := by
  unfold flatE
  induction l with
  | nil => rfl
  | cons c l ih => rw [List.flatMap_cons, List.length_append, ih, encE_len, List.length_cons]; omega
theorem flatE_append (l m : List En) : flatE (l ++ m) = flatE l ++ flatE m := by simp [flatE]
theorem flatE_cons (e : En) (l : List En) : flatE (e :: l) = encE e ++ flatE l := by simp [flatE]
theorem flatE_one (e : En) : flatE [e] = encE e := by simp [flatE]
theorem flatE_cell (l : List En) (v : Value) (hv : v ∈ flatE l) : v.oneCell' = true := by
  unfold flatE at hv
  obtain ⟨e, _, he⟩ := List.mem_flatMap.1 hv
  exact encE_one e v he
/-- the cells of entry e at place o -/
structure CellsE (w : World) (b o : Nat) (e : En) : Prop where
  c0 : w.cell? ⟨b, o, none⟩ = some (.int .i64 e.hash)
  c1 : w.cell? ⟨b, o + 1, none⟩ = some (.int .i64 e.index)
  c2 : w.cell? ⟨b, o + 2, none⟩ = some (.string e.name)
  c3 : w.cell? ⟨b, o + 3, none⟩ = some (.int .i64 e.id)
theorem flatE_at : ∀ (l : List En) (j : Nat), j < l.length → ∀ t, t < 4 → (flatE l)[j * 4 + t]? = (encE l[j]!)[t]?
  | [], j, h, _, _ => by simp at h
  | e :: l, 0, _, t, ht => by
    rw [flatE_cons, List.getElem?_append_left (by rw [encE_len]; omega), Nat.zero_mul, Nat.zero_add]; rfl
  | e :: l, j + 1, h, t, ht => by
    have ih := flatE_at l j (by simpa using h) t ht
    rw [flatE_cons, List.getElem?_append_right (by rw [encE_len]; omega), encE_len, show (j + 1) * 4 + t - 4 = j * 4 + t by omega, ih]
    rfl

/-- the slice v reads as the entries l -/
def EntsAt (w : World) (v : Value) (l : List En) : Prop :=
  ∃ a cap, v = .slice a l.length cap ∧ (a = none → cap = 0) ∧ ∀ t, t < l.length → ∃ b off, a = some ⟨b, off, none⟩ ∧ b < w.heap.size ∧ CellsE w b (off + t * 4) l[t]!



theorem CellsE.below {w w' : World} {b o : Nat} {e : En} (h : CellsE w b o e) (hl : b < w.heap.size) (hb : Below w.heap.size w w') : CellsE w' b o e :=
  ⟨(hb.cell (p := ⟨b, o, none⟩) hl).trans h.c0, (hb.cell (p := ⟨b, o + 1, none⟩) hl).trans h.c1, (hb.cell (p := ⟨b, o + 2, none⟩) hl).trans h.c2, (hb.cell (p := ⟨b, o + 3, none⟩) hl).trans h.c3⟩
theorem EntsAt.below {w w' : World} {v : Value} {l : List En} (h : EntsAt w v l) (b : Below w.heap.size w w') : EntsAt w' v l := by
  obtain ⟨a, cap, rfl, hn, hc⟩ := h
  refine ⟨a, cap, rfl, hn, fun t ht => ?_⟩
  obtain ⟨bb, off, h1, h2, h3⟩ := hc t ht
  exact ⟨bb, off, h1, Nat.lt_of_lt_of_le h2 b.size, h3.below h2 b⟩
end

section
open Go.RowKit Go.Sort



theorem ents_ext (l m : List En) (hl : l.length = m.length) (h : ∀ t, t < l.length → l[t]! = m[t]!) : l = m := by
  apply List.ext_getElem hl
  intro t h1 h2
  have := h t h1
  rwa [getElem!_pos l t h1, getElem!_pos m t h2] at this
end

section
open Go.RowKit Go.Sort

theorem own_below {w w' : World} {base size n : Nat} {e : TypeId} {v : Value} {xs : List Value} (h : w.ownsRow base e size v n xs) (b : Below w.heap.size w w') : w'.ownsRow base e size v n xs :=
  ⟨h.1, by
    rcases h.2 with h0 | ⟨g, cap, cur, e, hg, hh, r⟩
    · exact .inl h0
    · exact .inr ⟨g, cap, cur, e, hg, (b.block g (lt_of_block hh)).trans hh, r⟩⟩
theorem flatE_set : ∀ (l : List En) (t : Nat) (e : En), t < l.length → ((((flatE l).set (t * 4) (.int .i64 e.hash)).set (t * 4 + 1) (.int .i64 e.index)).set (t * 4 + 2) (.string e.name)).set (t * 4 + 3) (.int .i64 e.id) = flatE (l.set t e)
  | [], t, e, h => by simp at h
  | x :: l, 0, e, _ => by simp [flatE_cons, encE]
  | x :: l, t + 1, e, h => by
    have ih := flatE_set l t e (by simpa using h)
    rw [List.set_cons_succ, flatE_cons, flatE_cons, ← ih]
    simp only [encE, List.cons_append, List.nil_append]
    rw [show (t + 1) * 4 = t * 4 + 1 + 1 + 1 + 1 by omega]
    simp only [List.set_cons_succ]



/-- the first j of l, then empty ones -/
def fillE (j : Nat) (l : List En) : List En := l.take j ++ List.replicate (l.length - j) default
theorem fillE_len (j : Nat) (l : List En) : (fillE j l).length = l.length := by unfold fillE; simp; omega
theorem fillE_step (j : Nat) (l : List En) (h : j < l.length) : (fillE j l).set j l[j]! = fillE (j + 1) l := by
  have e : min j l.length = j := by omega
  unfold fillE
  rw [List.set_append_right _ _ (by rw [List.length_take, e]; exact Nat.le_refl _), List.take_succ_eq_append_getElem h, getElem!_pos l j h, List.length_take, e, Nat.sub_self]
  rw [show l.length - j = (l.length - (j + 1)) + 1 by omega, List.replicate_succ, List.set_cons_zero, List.append_assoc]
  rfl
theorem flatE_zero (n : Nat) : (madeCells #[.int .i64 0, .int .i64 0, .string ⟨#[]⟩, .int .i64 0] (n * 4)).toList = flatE (List.replicate n default) := by
  apply List.ext_getElem?
  intro j
  by_cases hj : j < n * 4
  · have h1 := flatE_at (List.replicate n default) (j / 4) (by simp; omega) (j % 4) (by omega)
    have h2 : (List.replicate n (default : En))[j / 4]! = default := by
      rw [getElem!_pos _ _ (by simp; omega)]; simp
    rw [h2, show j / 4 * 4 + j % 4 = j by omega] at h1
    rw [h1]
    simp only [madeCells, Array.toList_map, List.getElem?_map, Array.toList_range, List.getElem?_range hj, Option.map_some]
    have : j % 4 < 4 := by omega
    show some (#[Value.int .i64 0, .int .i64 0, .string ⟨#[]⟩, .int .i64 0][j % 4]!) = _
    generalize j % 4 = s at *
    rcases s with _ | _ | _ | _ | s
    · rfl
    · rfl
    · rfl
    · rfl
    · omega
  · rw [List.getElem?_eq_none (by rw [Array.length_toList, size_madeCells]; omega), List.getElem?_eq_none (by rw [flatE_len]; simp; omega)]
end

section
open Go.RowKit Go.Sort
end

section
open Go.RowKit

def digs (k : Nat) (acc : List UInt8) : List UInt8 := if k = 0 then acc else digs (k / 10) (UInt8.ofNat (48 + k % 10) :: acc)
  termination_by k
  decreasing_by omega
theorem digs_zero (acc : List UInt8) : digs 0 acc = acc := by unfold digs; rfl
theorem digs_pos {k : Nat} (h : 0 < k) (acc : List UInt8) : digs k acc = digs (k / 10) (UInt8.ofNat (48 + k % 10) :: acc) := by
  rw [digs, if_neg (by omega)]
def mkT (k : Nat) : ByteArray := ⟨(109 :: digs k []).toArray⟩

set_option maxRecDepth 100000 in
set_option maxHeartbeats 1000000 in
theorem markText_any (k : Nat) (w : World) (h0 : 0 < k) (h1 : k ≤ 1000000000) :
    Calls Tryd.prog 52 #[.int .i64 k] w fun e w' => e = .returned (.string (mkT k)) ∧ Below w.heap.size w w' := by
  have hk : ¬ ((k : Int) ≤ 0) := by omega
  go_enter Tryd.func52, Tryd.ntmps52
  go_wp2
  go_loopw [0, 3] (fun q sv wr => ∃ (m : Nat) (l : List UInt8), m + l.length ≤ k ∧ q = .int .i64 m ∧ sv = .string ⟨l.toArray⟩ ∧ Hid (digs m l = digs k []) ∧ Below w.heap.size w wr) (fun q _ _ => (intOf q).toNat)
  case atStart => exact ⟨k, [], by simp, rfl, rfl, rfl, Below.refl _ _⟩
  case round =>
    obtain ⟨m, l, hm, rfl, rfl, HD, hbel⟩ := hrel
    by_cases hlt : 0 < m
    · have hm0 : (0 : Int) < (m : Int) := by omega
      have HG : Hid (digs (m / 10) (UInt8.ofNat (48 + m % 10) :: l) = digs k []) := by show _ = _; rw [← digs_pos hlt]; exact HD.out
      have hcv := one_string (P := Tryd.prog) wr (E := 5) (S := 22) (T := 9) (48 + (m : Int) % 10) (by omega) (by omega) Tryd.underlying22 Tryd.underlying5 Tryd.underlying9
      have hbl := below_lit wr (.cells #[.int .u8 (48 + (m : Int) % 10)] 5)
      go_wp2
      refine ⟨⟨m / 10, UInt8.ofNat (48 + m % 10) :: l, by simp; omega, by go_num, ?_, HG.out, hbel.trans (hbl.mono hbel.size)⟩, by simp [intOf]; omega⟩
      refine congrArg Value.string (list_ext ?_)
      simp [UInt8.ofNat_add]
    · have hm1 : m = 0 := by omega
      have HE : Hid (l = digs k []) := by show _ = _; rw [← HD.out, hm1, digs_zero]
      have hm0 : ¬ ((0 : Int) < (m : Int)) := by omega
      clear hm1
      go_wp2
      go_ret
      refine ⟨?_, hbel⟩
      rw [HE.out]
      refine congrArg (fun x => Ending.returned (Value.string x)) (list_ext ?_)
      simp [mkT]
end

section
open Go.RowKit

theorem markText_at (z : Int) (k : Nat) (hz : z = (k : Int)) (w : World) (h0 : 0 < k) (h1 : k ≤ 1000000000) :
    Calls Tryd.prog 52 #[.int .i64 z] w fun e w' => e = .returned (.string (mkT k)) ∧ Below w.heap.size w w' := by
  rw [hz]; exact markText_any k w h0 h1
theorem gb_belowE {w w' : World} {g : Nat} (b : Below w.heap.size w w') : w.grownBy w' (some g) := ⟨b.os, b.tape, b.output, b.size, fun k hk _ => b.block k hk⟩

/-- the marked entry whose first number is m -/
def mkE (m : Nat) : En := ⟨m, m + 1, mkT (m + 2), m + 3⟩
def marksE (k : Nat) : Nat → List En
  | 0 => []
  | n + 1 => marksE k n ++ [mkE (k + 4 * n)]
theorem marksE_len (k n : Nat) : (marksE k n).length = n := by
  induction n with
  | zero => rfl
  | succ n ih => simp [marksE, ih]
def markdE (k j : Nat) (l : List En) : List En := marksE k j ++ l.drop j
theorem markdE_len {k j : Nat} {l : List En} (h : j ≤ l.length) : (markdE k j l).length = l.length := by
  simp [markdE, marksE_len]; omega
theorem markdE_step {k j : Nat} {l : List En} (h : j < l.length) : (markdE k j l).set j (mkE (k + 4 * j)) = markdE k (j + 1) l := by
  unfold markdE
  rw [List.set_append_right _ _ (by rw [marksE_len]; exact Nat.le_refl _), marksE_len, Nat.sub_self, List.drop_eq_getElem_cons h, List.set_cons_zero]
  simp [marksE]
theorem markdE_all (k : Nat) (l : List En) : markdE k l.length l = marksE k l.length := by simp [markdE]
end

end Go.Proofs.YtlkemmdcjnaepaaDoor
