/- For the law of going through a directory while it is changed: four rows beside each other, two of which grow. -/
import Derived.Test.YtmhblmonigakbaaGreatDoorRows
import Derived.Test.YtmhblmonigakbaaGreatDoorCuA
import Derived.Test.YtmhblmonigakbaaGreatDoorMp
import Derived.Test.YtmhblmonigakbaaGreatDoorLwD
namespace Go.Proofs.YtmhblmonigakbaaGreatDoor
open Go.RowKit

/-- the rows lie in blocks of their own -/
def Off (u v : Value) : Prop := ∀ k, u.ownBlock = some k → v.ownBlock ≠ some k
structure Four (w : World) (B : Nat) (dv ev av sv : Value) (d ever all seen : List En) : Prop where
  d : EntRow w B dv d
  e : EntRow w B ev ever
  a : EntRow w B av all
  s : EntRow w B sv seen
  ed : Off ev dv
  ea : Off ev av
  es : Off ev sv
  sd : Off sv dv
  sa : Off sv av
theorem Off.symm {u v : Value} (h : Off u v) : Off v u := fun k h1 h2 => h k h2 h1
theorem Four.below {w w' : World} {B : Nat} {dv ev av sv : Value} {d ever all seen : List En} (h : Four w B dv ev av sv d ever all seen) (b : Below w.heap.size w w') : Four w' B dv ev av sv d ever all seen :=
  ⟨h.d.below b, h.e.below b, h.a.below b, h.s.below b, h.ed, h.ea, h.es, h.sd, h.sa⟩
theorem off_new {w w' : World} {B B' : Nat} {u v : Value} {l m : List En} (hu : EntRow w B u l) (hv : EntRow w' B' v m) (hB : w.heap.size ≤ B') : Off u v := fun k h1 h2 => by
  have h3 := (World.ownsRow.lt hu k h1).2
  have h4 := (World.ownsRow.lt hv k h2).1
  omega
theorem kept_off {w w' : World} {B : Nat} {u v : Value} {l : List En} (hu : EntRow w B u l) (g : w.grownBy w' v.ownBlock) (ho : Off v u) : EntRow w' B u l := by
  refine World.ownsRow.kept hu g ?_
  cases e : u.ownBlock with
  | none => exact .inl rfl
  | some k =>
    right
    intro e2
    exact ho k e2.symm e
/-- another directory, in new memory -/
theorem Four.newD {w w' : World} {B : Nat} {dv ev av sv xv : Value} {d ever all seen x : List En} (h : Four w B dv ev av sv d ever all seen) (hB : B ≤ w.heap.size) (b : Below w.heap.size w w') (hx : EntRow w' w.heap.size xv x) : Four w' B xv ev av sv x ever all seen :=
  ⟨hx.mono hB, h.e.below b, h.a.below b, h.s.below b, off_new h.e hx (Nat.le_refl _), h.ea, h.es, off_new h.s hx (Nat.le_refl _), h.sa⟩
/-- other ones that stay, in new memory -/
theorem Four.newA {w w' : World} {B : Nat} {dv ev av sv xv : Value} {d ever all seen x : List En} (h : Four w B dv ev av sv d ever all seen) (hB : B ≤ w.heap.size) (b : Below w.heap.size w w') (hx : EntRow w' w.heap.size xv x) : Four w' B dv ev xv sv d ever x seen :=
  ⟨h.d.below b, h.e.below b, hx.mono hB, h.s.below b, h.ed, off_new h.e hx (Nat.le_refl _), h.es, h.sd, off_new h.s hx (Nat.le_refl _)⟩
theorem off_grown {w : World} {B : Nat} {u v v' : Value} {l : List En} (ho : Off v u) (hu : EntRow w B u l) (hl : ∀ k, v'.ownBlock = some k → v.ownBlock = some k ∨ w.heap.size ≤ k) : Off v' u := fun k h1 h2 => by
  rcases hl k h1 with h3 | h3
  · exact ho k h3 h2
  · have := (World.ownsRow.lt hu k h2).2
    omega
/-- one more that ever was -/
theorem Four.addE {w w' : World} {B : Nat} {dv ev av sv v' : Value} {d ever all seen m : List En} (h : Four w B dv ev av sv d ever all seen) (hr : EntRow w' B v' m) (g : w.grownBy w' ev.ownBlock) (hl : ∀ k, v'.ownBlock = some k → ev.ownBlock = some k ∨ w.heap.size ≤ k) : Four w' B dv v' av sv d m all seen :=
  ⟨kept_off h.d g h.ed, hr, kept_off h.a g h.ea, kept_off h.s g h.es, off_grown h.ed h.d hl, off_grown h.ea h.a hl, off_grown h.es h.s hl, h.sd, h.sa⟩
/-- one more that is seen -/
theorem Four.addS {w w' : World} {B : Nat} {dv ev av sv v' : Value} {d ever all seen m : List En} (h : Four w B dv ev av sv d ever all seen) (hr : EntRow w' B v' m) (g : w.grownBy w' sv.ownBlock) (hl : ∀ k, v'.ownBlock = some k → sv.ownBlock = some k ∨ w.heap.size ≤ k) : Four w' B dv ev av v' d ever all m :=
  ⟨kept_off h.d g h.sd, kept_off h.e g h.es.symm, kept_off h.a g h.sa, hr, h.ed, h.ea, (off_grown h.es.symm h.e hl).symm, off_grown h.sd h.d hl, off_grown h.sa h.a hl⟩

theorem stay_snoc (d all : List En) {j : Nat} (hj : j < all.length) : stayN d (all.take (j + 1)) = stayN d (all.take j) ++ (if lookN d all[j]!.name = (all[j]!, true) then [all[j]!] else []) := by
  unfold stayN
  rw [List.take_succ_eq_append_getElem hj, List.filter_append, getElem!_pos all j hj]
  congr 1
  by_cases h : lookN d (all[j]).name = (all[j], true)
  · rw [if_pos h]; simp [h]
  · rw [if_neg h]; simp [h]
theorem stay_len (d all : List En) : (stayN d all).length ≤ all.length := List.length_filter_le _ _

/-- what is carried from round to round: who goes through, and how much there is -/
structure Goes (d ever all seen : List En) (h k : Int) (i : Nat) : Prop where
  cur : CurI d ever all seen h k
  sh : Shorts d
  le : ever.length ≤ 13 + i
  ls : seen.length ≤ i
  la : all.length ≤ 12
theorem Goes.alln {d ever all seen : List En} {h k : Int} {i : Nat} (c : Goes d ever all seen h k i) : ∀ t, t < all.length → all[t]!.name.size ≤ 1048576 := fun t ht => by
  rw [getElem!_pos all t ht]
  exact c.sh _ (c.cur.all_ _ (List.getElem_mem ht))
theorem shorts_sub {d d' : List En} (h : Shorts d) (hs : ∀ e ∈ d', e ∈ d) : Shorts d' := fun e he => h e (hs e he)
theorem drop_sub {d : List En} (hr : Right d) (s : ByteArray) : ∀ e ∈ (dropN d s).1, e ∈ d := fun e he => by
  cases h : atN d s with
  | none => rw [dropN_no hr h] at he; exact he
  | some i => rw [dropN_yes hr h] at he; exact List.mem_of_mem_eraseIdx he

end Go.Proofs.YtmhblmonigakbaaGreatDoor
