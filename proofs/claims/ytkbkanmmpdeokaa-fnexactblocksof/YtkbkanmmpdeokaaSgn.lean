/- Signs: spec.l3Sign, l3Among, Class, FoldOf, Known: what they answer. -/
import Derived.Test.YtkbkanmmpdeokaaRows
import Derived.Test.YtkbkanmmpdeokaaNum
import Derived.Test.YtkbkanmmpdeokaaRdFix
import Derived.Test.YtkbkanmmpdeokaaIntS
import Derived.WalkKit
import Derived.WalkSpells
import Derived.WalkLawsBesides
namespace Go.Proofs.Ytkbkanmmpdeokaa
open Go.RowKit

theorem lit_ints (w : World) (l : List Int) (hl : l.length ≤ 1000) : IntRow (w.alloc (.cells (intsV l).toArray 3)) w.heap.size (.slice (some ⟨w.heap.size, 0, none⟩) l.length l.length) l := by
  have h := World.ownsRow_lit (base := w.heap.size) (e := 3) (size := 1) w (intsV l).toArray l.length (Nat.le_refl _) (by unfold maxLen; omega) (by simp [intsV])
  simpa [IntRow] using h

/-- a literal row, as the walk has it -/
theorem lit_at (w : World) (cs : Array Value) (l : List Int) (n : Nat) (hcs : cs.toList = intsV l) (hn : l.length = n) (hl : n ≤ 1000) : IntRow (w.alloc (.cells cs 3)) w.heap.size (.slice (some ⟨w.heap.size, 0, none⟩) n n) l := by
  subst hn
  have e : cs = (intsV l).toArray := by rw [← hcs]
  rw [e]; exact lit_ints w l hl

theorem below_lit (w : World) (o : Obj) : Below w.heap.size w (w.alloc o) := (Below.refl _ _).alloc (Nat.le_refl _) _

/-- is c a sign? -/
def sgnB (c : Int) : Bool := inB c 0 1114111 && !inB c 55296 57343


def amongB (c : Int) (l : List Int) : Bool := l.contains c

theorem among_no (c : Int) (l : List Int) (h : ∀ t, t < l.length → l.getD t 0 ≠ c) : amongB c l = false := by
  cases e : amongB c l with
  | false => rfl
  | true =>
    have hm : c ∈ l := by simpa [amongB] using e
    obtain ⟨t, ht, rfl⟩ := List.mem_iff_getElem.1 hm
    exact absurd (by simp [List.getD, ht]) (h t ht)
theorem among_yes (c : Int) (l : List Int) (t : Nat) (ht : t < l.length) (h : l.getD t 0 = c) : amongB c l = true := by
  have : c ∈ l := by
    rw [← h]; simp [List.getD, ht]
  simpa [amongB] using this


def clsL : List Int := [768, 769, 770, 771, 772, 776, 778]
def clsN (c : Int) : Int := if amongB c clsL then 230 else if c = 803 then 220 else if c = 807 then 202 else 0



def foldL : List Int := [198, 208, 216, 222]
/-- is c folded to what is 32 above it? -/
def upB (c : Int) : Bool := inB c 65 90 || inB c 913 929 || inB c 931 937 || inB c 1040 1071 || amongB c foldL
def foldN (c : Int) : List Int := if upB c then [c + 32] else if c = 223 then [115, 115] else if c = 962 then [963] else [c]

theorem upB_le (c : Int) (h : upB c = true) : 65 ≤ c ∧ c ≤ 1071 := by
  simp only [upB, inB, amongB, foldL, Bool.or_eq_true, Bool.and_eq_true, decide_eq_true_eq, List.contains_cons, List.contains_nil, Bool.or_false, beq_iff_eq] at h
  omega

theorem IntRow.mono {w : World} {base base' : Nat} {v : Value} {l : List Int} (h : IntRow w base v l) (hb : base' ≤ base) : IntRow w base' v l := World.ownsRow.mono h hb

/-- a literal row is what is answered -/
theorem ret_lit (w w0 : World) (cs : Array Value) (l : List Int) (n g : Nat) (hg : w.heap.size = g) (hcs : cs.toList = intsV l) (hn : l.length = n) (hl : n ≤ 1000) (hb : Below w0.heap.size w0 w) :
    IntRow (w.alloc (.cells cs 3)) w0.heap.size (.slice (some ⟨g, 0, none⟩) n n) l ∧ Below w0.heap.size w0 (w.alloc (.cells cs 3)) := by
  subst hg
  exact ⟨(lit_at w cs l n hcs hn hl).mono hb.size, hb.alloc hb.size _⟩

end Go.Proofs.Ytkbkanmmpdeokaa
