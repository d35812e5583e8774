/- How numbers and pieces are read. Pure. -/
import Derived.Test.YtfdahfealibbnaaDoorVtT
namespace Go.Proofs.YtfdahfealibbnaaDoor
open Go.RowKit

theorem varL_pos (f : Nat) (n : Int) : 1 ≤ (varL f n).length := by
  cases f with
  | zero => simp [varL]
  | succ f => unfold varL; split <;> simp
theorem leV_of_varL : ∀ f n, 0 ≤ n → fits f n → leV (varL f n) = n
  | 0, n, h0, h => by
    unfold fits at h
    simp [varL, leV]; omega
  | f + 1, n, h0, h => by
    by_cases hs : n < 128
    · rw [varL_small _ _ hs]; simp [leV]; omega
    · obtain ⟨g, hg, hfg⟩ := fits_step _ n h (by omega)
      obtain rfl : f = g := by omega
      rw [varL_great _ _ (by omega), leV, leV_of_varL f (n / 128) (by omega) hfg]
      simp
      omega
theorem isV_of_varL (n : Int) (h0 : 0 ≤ n) (h1 : n ≤ 562949953421311) : isV (varL 6 n) = true := by
  have hl := leV_of_varL 6 n h0 (by unfold fits; omega)
  refine (varL_isV (varL 6 n) 6 (varL_le7 6 n) (fun h => by have := varL_pos 6 n; rw [h] at this; simp at this)).1 ?_
  rw [hl]
theorem rdVar_back (n : Int) (t : List UInt8) (h0 : 0 ≤ n) (h1 : n ≤ 562949953421311) : RdVar (varL 6 n ++ t) n (varL 6 n).length := by
  have e : (varL 6 n ++ t).take (varL 6 n).length = varL 6 n := by rw [List.take_append_of_le_length (Nat.le_refl _), List.take_length]
  refine Or.inl ⟨(varL 6 n).length, varL_pos 6 n, varL_le7 6 n, by simp, ?_, ?_, rfl⟩
  · rw [e]; exact isV_of_varL n h0 h1
  · rw [e]; exact (leV_of_varL 6 n h0 (by unfold fits; omega)).symm

/-- of how many bytes the number at the head of l is, 0 where there is none -/
def rdK (l : List UInt8) : Nat := ((List.range 8).find? fun j => decide (1 ≤ j) && decide (j ≤ l.length) && isV (l.take j)).getD 0
/-- the number at the head of l -/
def rdN (l : List UInt8) : Int := leV (l.take (rdK l))
theorem rd_is (l : List UInt8) : RdVar l (rdN l) (rdK l) := by
  unfold rdN rdK
  cases h : (List.range 8).find? fun j => decide (1 ≤ j) && decide (j ≤ l.length) && isV (l.take j) with
  | some j =>
    have h1 := List.find?_some h
    have h2 := List.mem_of_find?_eq_some h
    simp only [Bool.and_eq_true, decide_eq_true_eq] at h1
    have := List.mem_range.1 h2
    exact .inl ⟨j, h1.1.1, by omega, h1.1.2, h1.2, rfl, rfl⟩
  | none =>
    rw [List.find?_eq_none] at h
    refine .inr ⟨fun j h1 h2 h3 => ?_, by simp [leV], rfl⟩
    have := h j (List.mem_range.2 (by omega))
    simpa [h1, h3] using this
theorem rd_eq {l : List UInt8} {n k : Int} (h : RdVar l n k) : n = rdN l ∧ k = rdK l := RdVar_one l _ _ _ _ h (rd_is l)
theorem rd_var (n : Int) (t : List UInt8) (h0 : 0 ≤ n) (h1 : n ≤ 562949953421311) : rdN (varL 6 n ++ t) = n ∧ rdK (varL 6 n ++ t) = (varL 6 n).length := by
  have h := rd_eq (rdVar_back n t h0 h1)
  exact ⟨h.1.symm, by have := h.2; omega⟩
theorem rdK_le (l : List UInt8) : rdK l ≤ l.length ∧ rdK l ≤ 7 := by
  rcases rd_is l with ⟨j, h1, h2, h3, h4, h5, h6⟩ | ⟨h1, h2, h3⟩ <;> omega
theorem rdN_in (l : List UInt8) : 0 ≤ rdN l ∧ rdN l ≤ 562949953421311 := by
  have h := leV_bd (l.take (rdK l)) 7 (by have := rdK_le l; rw [List.length_take]; omega)
  unfold rdN; omega

/-- the bytes of a number's text -/
def varB (n : Int) : List UInt8 := (varT n).data.toList
theorem varB_is {n : Int} (h0 : 0 ≤ n) (h1 : n ≤ 562949953421311) : varB n = varL 6 n := by
  unfold varB varT; rw [if_pos (inB_mk h0 h1)]
def bA (l : List UInt8) : ByteArray := ⟨l.toArray⟩
theorem bA_of (s : ByteArray) : bA s.data.toList = s := list_ext (by simp [bA])
theorem bA_list (l : List UInt8) : (bA l).data.toList = l := by simp [bA]
theorem bA_size (l : List UInt8) : (bA l).size = l.length := by simp [bA, ByteArray.size]

/-! the program's cursor -/
def numR (l : List UInt8) : Option (Int × List UInt8) := if rdK l = 0 then none else some (rdN l, l.drop (rdK l))
def takR (n : Int) (l : List UInt8) : Option (List UInt8 × List UInt8) := if (l.length : Int) < n then none else some (l.take n.toNat, l.drop n.toNat)
def pieR (l : List UInt8) : Option (List UInt8 × List UInt8) := (numR l).bind fun p => takR p.1 p.2
def mrkR (m : UInt8) (l : List UInt8) : Option (List UInt8) := match l with
  | [] => none
  | b :: r => if b = m then some r else none
theorem mrkR_cons (m : UInt8) (t : List UInt8) : mrkR m (m :: t) = some t := by simp [mrkR]
theorem numR_var (n : Int) (t : List UInt8) (h0 : 0 ≤ n) (h1 : n ≤ 562949953421311) : numR (varB n ++ t) = some (n, t) := by
  rw [varB_is h0 h1]
  unfold numR
  have h := rd_var n t h0 h1
  rw [h.1, h.2, if_neg (by have := varL_pos 6 n; omega)]
  simp
theorem takR_app (a t : List UInt8) : takR (a.length : Int) (a ++ t) = some (a, t) := by
  unfold takR
  rw [if_neg (by rw [List.length_append]; omega)]
  simp
theorem app_list (a b : ByteArray) : (a ++ b).data.toList = a.data.toList ++ b.data.toList := by simp
/-- a piece's bytes -/
def pieB (s : ByteArray) : List UInt8 := (pieceT s).data.toList
theorem pieB_is (s : ByteArray) : pieB s = varB s.size ++ s.data.toList := by unfold pieB pieceT varB; exact app_list _ _
theorem size_list (s : ByteArray) : s.data.toList.length = s.size := by rw [Array.length_toList]; rfl
theorem pieR_app (s : ByteArray) (t : List UInt8) (hs : s.size ≤ 1048576) : pieR (pieB s ++ t) = some (s.data.toList, t) := by
  unfold pieR
  rw [pieB_is, List.append_assoc, numR_var _ _ (by omega) (by omega)]
  show takR _ _ = _
  rw [← size_list s]
  exact takR_app _ _

end Go.Proofs.YtfdahfealibbnaaDoor
