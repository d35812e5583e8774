/- Volumes, spec: l6At, l6Named. Volumes, spec: l6Below. Volumes, spec: l6InodeOk. Volumes, spec: VolOk. -/
import Derived.Test.YtchcdgkpaipkgaaGreatDoorRows
import Derived.Test.YtchcdgkpaipkgaaGreatDoorNa
import Derived.Test.YtchcdgkpaipkgaaGreatDoorMz
import Derived.Test.YtchcdgkpaipkgaaGreatDoorMr
import Derived.WalkKit
import Derived.WalkSpells
import Derived.WalkLawsBesides
import Derived.OwnWalk
import Derived.Deep.QuietTactic
import Derived.BigQuiet
import Derived.Deep.Onto
import Derived.Lib.QuietBelow
namespace Go.Proofs.YtchcdgkpaipkgaaGreatDoor

section
open Go.RowKit

/-- a boxed pair and all that was there before it -/
theorem box_cells {w wr : World} {a u : Value} {T : TypeId} (hb : Below (w.heap.size + 1) (w.alloc (.cells #[a, u] T)) wr) : wr.cell? ⟨w.heap.size, 0, none⟩ = some a ∧ wr.cell? ⟨w.heap.size, 1, none⟩ = some u ∧ Below w.heap.size w wr := by
  refine ⟨?_, ?_, ((Below.refl w.heap.size w).alloc (Nat.le_refl _) _).trans (hb.mono (by omega))⟩
  · rw [hb.cell (p := ⟨w.heap.size, 0, none⟩) (by show w.heap.size < _; omega), World.cell?_alloc_mark]; rfl
  · rw [hb.cell (p := ⟨w.heap.size, 1, none⟩) (by show w.heap.size < _; omega), World.cell?_alloc_mark]; rfl

/-- the place of an inode -/
def plN (l : List Ino) (id : Int) : Option Nat := l.findIdx? fun x => decide (x.id = id)
def plZ (l : List Ino) (id : Int) : Int := match plN l id with | some i => (i : Int) | none => -1
theorem plN_some {l : List Ino} {id : Int} {i : Nat} (hi : i < l.length) (h : l[i]!.id = id) (hb : ∀ k, k < i → l[k]!.id ≠ id) : plN l id = some i := by
  unfold plN
  rw [List.findIdx?_eq_some_iff_getElem]
  refine ⟨hi, by rw [getElem!_pos l i hi] at h; simpa using h, fun k hk => ?_⟩
  have := hb k hk
  rw [getElem!_pos l k (by omega)] at this
  simpa using this
theorem plN_none {l : List Ino} {id : Int} (h : ∀ k, k < l.length → l[k]!.id ≠ id) : plN l id = none := by
  unfold plN
  rw [List.findIdx?_eq_none_iff]
  intro x hx
  obtain ⟨k, hk, rfl⟩ := mem_place hx
  simpa using h k hk
theorem plZ_some {l : List Ino} {id : Int} {i : Nat} (h : plN l id = some i) : plZ l id = i := by unfold plZ; rw [h]
theorem plZ_none {l : List Ino} {id : Int} (h : plN l id = none) : plZ l id = -1 := by unfold plZ; rw [h]
theorem plN_is {l : List Ino} {id : Int} {i : Nat} (h : plN l id = some i) : i < l.length ∧ l[i]!.id = id := by
  unfold plN at h
  rw [List.findIdx?_eq_some_iff_getElem] at h
  obtain ⟨hi, h1, _⟩ := h
  exact ⟨hi, by rw [getElem!_pos l i hi]; simpa using h1⟩
theorem plN_no {l : List Ino} {id : Int} (h : plN l id = none) : ∀ x ∈ l, x.id ≠ id := by
  unfold plN at h
  rw [List.findIdx?_eq_none_iff] at h
  intro x hx; simpa using h x hx
theorem plZ_cases (l : List Ino) (id : Int) : (∃ i, i < l.length ∧ l[i]!.id = id ∧ plN l id = some i ∧ plZ l id = (i : Int)) ∨ ((∀ x ∈ l, x.id ≠ id) ∧ plN l id = none ∧ plZ l id = -1) := by
  cases h : plN l id with
  | some i => exact .inl ⟨i, (plN_is h).1, (plN_is h).2, rfl, plZ_some h⟩
  | none => exact .inr ⟨plN_no h, rfl, plZ_none h⟩


/-- how many entries of the first k inodes have an Id -/
def namK (l : List Ino) (id : Int) (k : Nat) : Nat := ((l.take k).map fun x => cntN x.ents id).sum
theorem namK_succ (l : List Ino) (id : Int) (k : Nat) (h : k < l.length) : namK l id (k + 1) = namK l id k + cntN l[k]!.ents id := by
  unfold namK
  rw [List.take_succ_eq_append_getElem h, List.map_append, List.sum_append, getElem!_pos l k h]; simp
theorem namK_all (v : Vo) (id : Int) : namK v.ins id v.ins.length = namedV v id := by
  unfold namK namedV; rw [List.take_length]
def cntK (d : List En) (id : Int) (k : Nat) : Nat := cntN (d.take k) id
theorem cntK_succ (d : List En) (id : Int) (k : Nat) (h : k < d.length) : cntK d id (k + 1) = cntK d id k + if d[k]!.id = id then 1 else 0 := by
  unfold cntK
  rw [List.take_succ_eq_append_getElem h, cnt_append, getElem!_pos d k h]
  unfold cntN
  rw [List.countP_singleton]; simp
theorem cntK_all (d : List En) (id : Int) : cntK d id d.length = cntN d id := by unfold cntK; rw [List.take_length]
theorem cntK_le (d : List En) (id : Int) (k : Nat) : cntK d id k ≤ k := by
  unfold cntK cntN
  exact Nat.le_trans List.countP_le_length (List.length_take_le _ _)
theorem cntN_le (d : List En) (id : Int) : cntN d id ≤ d.length := List.countP_le_length
theorem namK_le (l : List Ino) (id : Int) (m : Nat) (hm : ∀ x ∈ l, x.ents.length ≤ m) (k : Nat) : namK l id k ≤ k * m := by
  induction k with
  | zero => simp [namK]
  | succ k ih =>
    by_cases h : k < l.length
    · rw [namK_succ l id k h]
      have h1 := cntN_le l[k]!.ents id
      have h2 := hm _ (place_mem h)
      have : (k + 1) * m = k * m + m := by rw [Nat.succ_mul]
      omega
    · have e : namK l id (k + 1) = namK l id k := by
        unfold namK; rw [List.take_of_length_le (by omega), List.take_of_length_le (by omega)]
      rw [e]
      exact Nat.le_trans ih (Nat.mul_le_mul_right _ (by omega))
/-- short rows of entries -/
def EntsShort (l : List Ino) : Prop := ∀ x ∈ l, x.ents.length ≤ 1048576
end

section
open Go.RowKit Go.Sort

theorem Tryz.infoFl : (Tryz.prog.info? 4).map (fun i => (i.zero, i.size, i.bytes)) = some (some (.bool false), 1, 1) := by kernel_rfl
/-- a row of flags of the call's own -/
def FlagRow (w : World) (base g n : Nat) (bs : List Bool) : Prop := w.ownsRow base 4 1 (.slice (some ⟨g, 0, none⟩) n n) n (bs.map Value.bool)
theorem FlagRow.len {w : World} {base g n : Nat} {bs : List Bool} (h : FlagRow w base g n bs) : bs.length = n := by
  have := h.1; simp at this; omega
theorem FlagRow.cell {w : World} {base g n : Nat} {bs : List Bool} (h : FlagRow w base g n bs) {j : Nat} (hj : j < n) : w.cell? ⟨g, j, none⟩ = some (.bool bs[j]!) := by
  have hl := h.len
  rw [World.ownsRow.cellAt h j (by omega), List.getElem?_map, List.getElem?_eq_getElem (by omega), getElem!_pos bs j (by omega)]; rfl
theorem FlagRow.frozen {w : World} {base g n : Nat} {bs : List Bool} (h : FlagRow w base g n bs) (j : Nat) : w.frozen? ⟨g, j, none⟩ = false := World.ownsRow.frozenAt h j
theorem FlagRow.put {w : World} {base g n : Nat} {bs : List Bool} (h : FlagRow w base g n bs) (j : Nat) (b : Bool) : FlagRow (w.setCell ⟨g, j, none⟩ (.bool b)) base g n (bs.set j b) := by
  have := (World.ownsRow.stored h j (.bool b)).1
  unfold FlagRow
  rw [List.map_set]; exact this
theorem FlagRow.below {w w' : World} {base g n : Nat} {bs : List Bool} (h : FlagRow w base g n bs) (b : Below w.heap.size w w') : FlagRow w' base g n bs := own_below h b
theorem FlagRow.mono {w : World} {base base' g n : Nat} {bs : List Bool} (h : FlagRow w base g n bs) (hb : base' ≤ base) : FlagRow w base' g n bs :=
  ⟨h.1, by
    rcases h.2 with h0 | ⟨g', cap, cur, e, hg, r⟩
    · exact .inl h0
    · exact .inr ⟨g', cap, cur, e, Nat.le_trans hb hg, r⟩⟩
theorem FlagRow.lt {w : World} {base g n : Nat} {bs : List Bool} (h : FlagRow w base g n bs) : base ≤ g ∧ g < w.heap.size := by
  rcases h.2 with ⟨h0, _⟩ | ⟨g', cap, cur, h0, hg, hh, _⟩
  · cases h0
  · cases h0; exact ⟨hg, lt_of_block hh⟩
/-- a row of flags stays where another block is written -/
theorem FlagRow.other {w : World} {base g n : Nat} {bs : List Bool} (h : FlagRow w base g n bs) {g2 : Nat} (hne : g2 ≠ g) (o : Nat) (y : Value) : FlagRow (w.setCell ⟨g2, o, none⟩ y) base g n bs := by
  refine ⟨h.1, ?_⟩
  rcases h.2 with h0 | ⟨g', cap, cur, h0, hg, hh, r⟩
  · exact .inl h0
  · cases h0
    exact .inr ⟨g, _, cur, rfl, hg, by rw [Below.heap_setCell w _ _ g (by simpa using Ne.symm hne)]; exact hh, r⟩

/-- the first i of those that were open: all that they name is marked -/
def PartC (x : Vo) (o0 inn : List Bool) (i : Nat) : Prop := ∀ j, j < i → o0[j]! = true → ∀ e ∈ (x.ins[j]!).ents, ∃ k, k < x.ins.length ∧ (x.ins[k]!).id = e.id ∧ inn[k]! = true
theorem set_at {l : List Bool} {z j : Nat} (hj : j < l.length) : (l.set z true)[j]! = (if j = z then true else l[j]!) := by
  rw [getElem!_pos _ j (by simpa using hj), List.getElem_set]
  by_cases h : j = z
  · rw [if_pos h.symm, if_pos h]
  · rw [if_neg (Ne.symm h), if_neg h, getElem!_pos l j hj]
theorem set_same {l : List Bool} {z : Nat} (h : z < l.length → l[z]! = true) : l.set z true = l := by
  apply List.ext_getElem (by simp)
  intro j h1 h2
  rw [List.getElem_set]
  split
  · rename_i e; subst e
    have := h h2
    rw [getElem!_pos l z h2] at this; exact this.symm
  · rfl
theorem set_keep {l : List Bool} {z j : Nat} (hj : j < l.length) (h : l[j]! = true) : (l.set z true)[j]! = true := by
  rw [set_at hj]; split
  · rfl
  · exact h
/-- how it stands on the way -/
structure BelSt (w wr : World) (x : Vo) (u : Value) (a0 n g1 g2 : Nat) (inn op : List Bool) : Prop where
  box : Below (w.heap.size + 1) (w.alloc (.cells #[.int .i64 x.next, u] 24)) wr
  r1 : FlagRow wr (w.heap.size + 1) g1 n inn
  r2 : FlagRow wr (w.heap.size + 1) g2 n op
  hop : ∀ j, j < n → (op[j]! = true ↔ inn[j]! = true ∨ j = a0)
  sound : ∀ j, j < n → inn[j]! = true → Reach x x.ins[a0]!.id x.ins[j]!.id
theorem BelSt.below {w wr w2 : World} {x : Vo} {u : Value} {a0 n g1 g2 : Nat} {inn op : List Bool} (h : BelSt w wr x u a0 n g1 g2 inn op) (b : Below wr.heap.size wr w2) : BelSt w w2 x u a0 n g1 g2 inn op :=
  ⟨h.box.trans (b.mono (by have := h.box.size; simpa using this)), h.r1.below b, h.r2.below b, h.hop, h.sound⟩
theorem BelSt.mark {w wr : World} {x : Vo} {u : Value} {a0 n g1 g2 : Nat} {inn op : List Bool} (h : BelSt w wr x u a0 n g1 g2 inn op) (hne : g1 ≠ g2) {z : Nat} (hR : Reach x x.ins[a0]!.id x.ins[z]!.id) :
    BelSt w ((wr.setCell ⟨g1, z, none⟩ (.bool true)).setCell ⟨g2, z, none⟩ (.bool true)) x u a0 n g1 g2 (inn.set z true) (op.set z true) := by
  have l1 := h.r1.len
  have l2 := h.r2.len
  refine ⟨(h.box.setCell h.r1.lt.1 _).setCell h.r2.lt.1 _, (h.r1.put z true).other (Ne.symm hne) _ _, (h.r2.other hne _ _).put z true, fun j hj => ?_, fun j hj hm => ?_⟩
  · rw [set_at (by omega), set_at (by omega)]
    by_cases e : j = z
    · simp [e]
    · rw [if_neg e, if_neg e]; exact h.hop j hj
  · rw [set_at (by omega)] at hm
    by_cases e : j = z
    · rw [e]; exact hR
    · rw [if_neg e] at hm; exact h.sound j hj hm
end

section
open Go.RowKit Go.Sort

open Classical in
/-- is an inode right -/
noncomputable def inoB (v : Vo) (x : Ino) : Bool := decide (InoR v x)
open Classical in
/-- is a volume right -/
noncomputable def rightB (v : Vo) : Bool := decide (RightV v)
open Classical in
theorem inoB_iff {v : Vo} {x : Ino} : inoB v x = true ↔ InoR v x := by unfold inoB; rw [decide_eq_true_eq]
open Classical in
theorem rightB_iff {v : Vo} : rightB v = true ↔ RightV v := by unfold rightB; rw [decide_eq_true_eq]
theorem bool_of {b : Bool} {p : Prop} (h : b = true ↔ p) {c : Bool} (hc : c = true ↔ p) : b = c := by
  rw [Bool.eq_iff_iff, h, hc]
/-- two boxes -/
theorem box_ino (w : World) (a u c0 c1 c2 c3 c4 : Value) (T1 T2 : TypeId) :
    (((w.alloc (.cells #[a, u] T1)).alloc (.cells #[c0, c1, c2, c3, c4] T2)).cell? ⟨w.heap.size, 0, none⟩ = some a ∧ ((w.alloc (.cells #[a, u] T1)).alloc (.cells #[c0, c1, c2, c3, c4] T2)).cell? ⟨w.heap.size, 1, none⟩ = some u) ∧
    ((w.alloc (.cells #[a, u] T1)).alloc (.cells #[c0, c1, c2, c3, c4] T2)).cell? ⟨w.heap.size + 1, 0, none⟩ = some c0 ∧ ((w.alloc (.cells #[a, u] T1)).alloc (.cells #[c0, c1, c2, c3, c4] T2)).cell? ⟨w.heap.size + 1, 1, none⟩ = some c1 ∧ ((w.alloc (.cells #[a, u] T1)).alloc (.cells #[c0, c1, c2, c3, c4] T2)).cell? ⟨w.heap.size + 1, 2, none⟩ = some c2 ∧
    ((w.alloc (.cells #[a, u] T1)).alloc (.cells #[c0, c1, c2, c3, c4] T2)).cell? ⟨w.heap.size + 1, 3, none⟩ = some c3 ∧ ((w.alloc (.cells #[a, u] T1)).alloc (.cells #[c0, c1, c2, c3, c4] T2)).cell? ⟨w.heap.size + 1, 4, none⟩ = some c4 := by
  have h1 : ∀ j, ((w.alloc (.cells #[a, u] T1)).alloc (.cells #[c0, c1, c2, c3, c4] T2)).cell? ⟨w.heap.size, j, none⟩ = (w.alloc (.cells #[a, u] T1)).cell? ⟨w.heap.size, j, none⟩ := fun j =>
    (below_lit (w.alloc (.cells #[a, u] T1)) _).cell (p := ⟨w.heap.size, j, none⟩) (by simp)
  have h2 : ∀ j, ((w.alloc (.cells #[a, u] T1)).alloc (.cells #[c0, c1, c2, c3, c4] T2)).cell? ⟨w.heap.size + 1, j, none⟩ = #[c0, c1, c2, c3, c4][j]? := fun j => by
    have e : (w.alloc (.cells #[a, u] T1)).heap.size = w.heap.size + 1 := by simp
    rw [← e, World.cell?_alloc_mark]
  refine ⟨⟨?_, ?_⟩, ?_, ?_, ?_, ?_, ?_⟩
  · rw [h1, World.cell?_alloc_mark]; rfl
  · rw [h1, World.cell?_alloc_mark]; rfl
  all_goals (rw [h2]; rfl)

/-- two boxes, and what came behind them -/
theorem box_ino' {w wr : World} {a u c0 c1 c2 c3 c4 : Value} {T1 T2 : TypeId} (hb : Below (w.heap.size + 2) ((w.alloc (.cells #[a, u] T1)).alloc (.cells #[c0, c1, c2, c3, c4] T2)) wr) :
    (wr.cell? ⟨w.heap.size, 0, none⟩ = some a ∧ wr.cell? ⟨w.heap.size, 1, none⟩ = some u) ∧ wr.cell? ⟨w.heap.size + 1, 0, none⟩ = some c0 ∧ wr.cell? ⟨w.heap.size + 1, 1, none⟩ = some c1 ∧ wr.cell? ⟨w.heap.size + 1, 2, none⟩ = some c2 ∧ wr.cell? ⟨w.heap.size + 1, 3, none⟩ = some c3 ∧ wr.cell? ⟨w.heap.size + 1, 4, none⟩ = some c4 := by
  obtain ⟨⟨h0, h1⟩, h2, h3, h4, h5, h6⟩ := box_ino w a u c0 c1 c2 c3 c4 T1 T2
  have k1 : ∀ j, wr.cell? ⟨w.heap.size, j, none⟩ = _ := fun j => hb.cell (p := ⟨w.heap.size, j, none⟩) (by show w.heap.size < _; omega)
  have k2 : ∀ j, wr.cell? ⟨w.heap.size + 1, j, none⟩ = _ := fun j => hb.cell (p := ⟨w.heap.size + 1, j, none⟩) (by show w.heap.size + 1 < _; omega)
  exact ⟨⟨(k1 0).trans h0, (k1 1).trans h1⟩, (k2 0).trans h2, (k2 1).trans h3, (k2 2).trans h4, (k2 3).trans h5, (k2 4).trans h6⟩
theorem isNil_iff (x : ByteArray) : x.toList = [] ↔ x.size = 0 := by
  rw [← List.length_eq_zero_iff, ByteArray.toList_eq, Array.length_toList]; rfl
theorem inoV_some_iff {v : Vo} {id : Int} : (inoV v id).isSome = true ↔ ∃ i : Nat, plZ v.ins id = (i : Int) := by
  rcases plZ_cases v.ins id with ⟨i, h1, h2, _, h4⟩ | ⟨h1, _, h3⟩
  · refine ⟨fun _ => ⟨i, h4⟩, fun _ => ?_⟩
    unfold inoV
    rw [List.find?_isSome]
    exact ⟨v.ins[i]!, place_mem h1, by simpa using h2⟩
  · constructor
    · intro h
      unfold inoV at h
      rw [List.find?_isSome] at h
      obtain ⟨y, hy, he⟩ := h
      exact absurd (by simpa using he) (h1 y hy)
    · rintro ⟨i, hi⟩; omega
end

section
open Go.RowKit Go.Sort

/-- a volume whose rows and texts are short -/
structure VolShort (x : Vo) : Prop where
  len : x.ins.length ≤ 1048576
  ents : EntsShort x.ins
  names : ∀ y ∈ x.ins, Shorts y.ents
  data : ∀ y ∈ x.ins, y.data.size ≤ 1048576

/-- place j is right -/
def AtOk (x : Vo) (j : Nat) : Prop := (1 ≤ x.ins[j]!.id ∧ x.ins[j]!.id ≤ x.next - 1) ∧ (0 < j → x.ins[j - 1]!.id < x.ins[j]!.id) ∧ InoR x x.ins[j]!
theorem in_below (x l h : Int) (w : World) (dd : Nat) (os : Array Obj) : Calls Tryz.prog 41 #[.int .i64 x, .int .i64 l, .int .i64 h] (grow (redrawn w dd) os) fun e w'' => e = .returned (.bool (inB x l h)) ∧ ∃ p : Regrown, w'' = grow (redrawn w p.d) p.os :=
  Calls.regrown_of ((in_any x l h _).mono fun e w' h => ⟨h.1, by rw [← h.2]; exact Below.refl _ _⟩)
end

end Go.Proofs.YtchcdgkpaipkgaaGreatDoor
