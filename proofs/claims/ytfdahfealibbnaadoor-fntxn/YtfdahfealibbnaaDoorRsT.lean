/- How the specification reads numbers and pieces by places. Pure. -/
import Derived.Test.YtfdahfealibbnaaDoorRnT
namespace Go.Proofs.YtfdahfealibbnaaDoor
open Go.RowKit

def varsS (l : List UInt8) : Nat → Int → List Int × Int
  | 0, p => ([], p)
  | n + 1, p => if p < 0 ∨ (l.length : Int) < p then ([], -1) else if rdK (l.drop p.toNat) = 0 then ([], -1) else
    (rdN (l.drop p.toNat) :: (varsS l n (p + rdK (l.drop p.toNat))).1, (varsS l n (p + rdK (l.drop p.toNat))).2)
def takS (l : List UInt8) (p : Int) : List UInt8 × Int :=
  if (varsS l 1 p).2 < 0 ∨ (l.length : Int) - (varsS l 1 p).2 < (varsS l 1 p).1[0]! then ([], -1) else ((l.drop (varsS l 1 p).2.toNat).take (varsS l 1 p).1[0]!.toNat, (varsS l 1 p).2 + (varsS l 1 p).1[0]!)

/-- t stands at place p -/
structure Rest (l : List UInt8) (p : Nat) (t : List UInt8) : Prop where
  le : p ≤ l.length
  eq : l.drop p = t
theorem Rest.next {l : List UInt8} {p : Nat} {a t : List UInt8} (h : Rest l p (a ++ t)) : Rest l (p + a.length) t := by
  have h1 := congrArg List.length h.eq
  rw [List.length_drop, List.length_append] at h1
  have := h.le
  refine ⟨by omega, ?_⟩
  rw [← List.drop_drop, h.eq]; simp
theorem vars_step {l : List UInt8} {p : Nat} {n : Int} {t : List UInt8} (h : Rest l p (varB n ++ t)) (h0 : 0 ≤ n) (h1 : n ≤ 562949953421311) (m : Nat) :
    varsS l (m + 1) (p : Int) = (n :: (varsS l m ((p + (varB n).length : Nat) : Int)).1, (varsS l m ((p + (varB n).length : Nat) : Int)).2) := by
  have hle := h.le
  rw [varsS, if_neg (by omega), Int.toNat_natCast, h.eq, varB_is h0 h1]
  have hr := rd_var n t h0 h1
  have hp := varL_pos 6 n
  rw [hr.1, hr.2, if_neg (by omega)]
  rw [show (p : Int) + ((varL 6 n).length : Int) = ((p + (varL 6 n).length : Nat) : Int) by omega]
theorem vars_one {l : List UInt8} {p : Nat} {n : Int} {t : List UInt8} (h : Rest l p (varB n ++ t)) (h0 : 0 ≤ n) (h1 : n ≤ 562949953421311) :
    varsS l 1 (p : Int) = ([n], ((p + (varB n).length : Nat) : Int)) := by
  rw [vars_step h h0 h1]; rfl
theorem tak_at {l : List UInt8} {p : Nat} {s : ByteArray} {t : List UInt8} (h : Rest l p (pieB s ++ t)) (hs : s.size ≤ 1048576) :
    takS l (p : Int) = (s.data.toList, ((p + (pieB s).length : Nat) : Int)) := by
  have h2 := h
  rw [pieB_is, List.append_assoc] at h
  have hv := vars_one h (by omega) (by omega)
  have hn := h.next
  have hl := congrArg List.length hn.eq
  have hle := hn.le
  rw [List.length_drop, List.length_append, size_list] at hl
  unfold takS
  rw [hv]
  have e0 : ([(s.size : Int)] : List Int)[0]! = (s.size : Int) := rfl
  simp only [e0]
  rw [if_neg (by omega), Int.toNat_natCast, Int.toNat_natCast, hn.eq]
  refine Prod.ext ?_ ?_
  · show ((s.data.toList ++ t).take s.size) = _
    rw [← size_list s]; simp
  · show ((p + (varB s.size).length : Nat) : Int) + (s.size : Int) = _
    rw [pieB_is, List.length_append, size_list]; omega

end Go.Proofs.YtfdahfealibbnaaDoor
