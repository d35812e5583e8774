/- Devices: writes and devices, and what is asked of them; no program in it. -/
import Derived.Test.YtfdahfealibbnaaDoorRows
import Derived.Test.YtfdahfealibbnaaDoorNum
namespace Go.Proofs.YtfdahfealibbnaaDoor
open Go.RowKit

/-- a write -/
structure Wr where
  block : Int
  text : ByteArray
  deriving DecidableEq
instance : Inhabited Wr := ⟨⟨0, ⟨#[]⟩⟩⟩
/-- a device -/
structure Dv where
  blocks : List ByteArray
  pend : List Wr
  deriving DecidableEq
instance : Inhabited Dv := ⟨⟨[], []⟩⟩

def wrB (x : Wr) : Bool := decide (0 ≤ x.block ∧ x.block < 18 ∧ x.text.size ≤ 4000)
def wrsB (l : List Wr) : Bool := l.all wrB
def txtB (l : List ByteArray) : Bool := l.all fun t => decide (t.size ≤ 4000)
def devB (d : Dv) : Bool := decide (d.blocks.length = 18 ∧ d.pend.length ≤ 40) && (txtB d.blocks && wrsB d.pend)
def newDv : Dv := ⟨List.replicate 18 ⟨#[]⟩, []⟩
/-- what Put answers -/
def putFits (d : Dv) (l : List Wr) : Bool := decide (l.length + d.pend.length ≤ 40) && wrsB l
def putN (d : Dv) (l : List Wr) : Dv × Bool :=
  if devB d then (if putFits d l then (⟨d.blocks, d.pend ++ l⟩, true) else (d, false)) else (⟨[], []⟩, false)
/-- the writes of l that are kept are done, in their order; the first one has the number i -/
def doneN (keep : Nat → Bool) : Nat → List Wr → List ByteArray → List ByteArray
  | _, [], b => b
  | i, x :: l, b => doneN keep (i + 1) l (if keep i then b.set x.block.toNat x.text else b)
/-- the bit i of the mask -/
def bitB (mask : Int) (i : Nat) : Bool := decide (0 ≤ mask) && (bits .and .i64 (mask / 2 ^ i) 1 == 1)
theorem bit_all (i : Nat) (h : i < 40) : bitB 1099511627775 i = true := by
  have key : ∀ j : Fin 40, bitB 1099511627775 j.val = true := by decide
  exact key ⟨i, h⟩
theorem bit_none (i : Nat) : bitB 0 i = false := by
  unfold bitB
  rw [Int.zero_ediv]
  rfl
def keptN (keep : Nat → Bool) (d : Dv) : Dv := if devB d then ⟨doneN keep 0 d.pend d.blocks, []⟩ else ⟨[], []⟩
theorem doneN_len (keep : Nat → Bool) : ∀ (i : Nat) (l : List Wr) (b : List ByteArray), (doneN keep i l b).length = b.length
  | _, [], _ => rfl
  | i, x :: l, b => by rw [doneN, doneN_len keep (i + 1) l]; split <;> simp
theorem doneN_append (keep : Nat → Bool) : ∀ (i : Nat) (l m : List Wr) (b : List ByteArray), doneN keep i (l ++ m) b = doneN keep (i + l.length) m (doneN keep i l b)
  | i, [], m, b => by simp [doneN]
  | i, x :: l, m, b => by
    rw [List.cons_append, doneN, doneN_append keep (i + 1) l m, doneN, List.length_cons, show i + 1 + l.length = i + (l.length + 1) by omega]
theorem doneN_step (keep : Nat → Bool) (l : List Wr) (b : List ByteArray) (k : Nat) (h : k < l.length) :
    doneN keep 0 (l.take (k + 1)) b = if keep k then (doneN keep 0 (l.take k) b).set l[k]!.block.toNat l[k]!.text else doneN keep 0 (l.take k) b := by
  rw [List.take_succ_eq_append_getElem h, doneN_append, Nat.zero_add, List.length_take, Nat.min_eq_left (by omega), getElem!_pos l k h]
  rfl
theorem doneN_congr {keep keep' : Nat → Bool} : ∀ (i : Nat) (l : List Wr) (b : List ByteArray), (∀ t, t < l.length → keep (i + t) = keep' (i + t)) → doneN keep i l b = doneN keep' i l b
  | _, [], _, _ => rfl
  | i, x :: l, b, h => by
    have h0 := h 0 (by simp)
    rw [Nat.add_zero] at h0
    have ih := doneN_congr (keep := keep) (keep' := keep') (i + 1) l (if keep' i then b.set x.block.toNat x.text else b) (fun t ht => by have := h (t + 1) (by rw [List.length_cons]; omega); rwa [show i + (t + 1) = i + 1 + t by omega] at this)
    rw [doneN, doneN, h0, ih]
theorem keptN_congr {keep keep' : Nat → Bool} (d : Dv) (h : ∀ t, t < 40 → keep t = keep' t) : keptN keep d = keptN keep' d := by
  unfold keptN
  by_cases hd : devB d = true
  · rw [if_pos hd, if_pos hd, doneN_congr 0 d.pend d.blocks (fun t ht => ?_)]
    rw [Nat.zero_add]
    simp only [devB, Bool.and_eq_true, decide_eq_true_eq] at hd
    exact h t (by omega)
  · rw [if_neg hd, if_neg hd]
theorem devB_iff (d : Dv) : devB d = true ↔ (d.blocks.length = 18 ∧ d.pend.length ≤ 40) ∧ (∀ t, t < d.blocks.length → d.blocks[t]!.size ≤ 4000) ∧ ∀ t, t < d.pend.length → 0 ≤ d.pend[t]!.block ∧ d.pend[t]!.block < 18 ∧ d.pend[t]!.text.size ≤ 4000 := by
  unfold devB txtB wrsB wrB
  simp only [Bool.and_eq_true, decide_eq_true_eq, List.all_eq_true]
  constructor
  · rintro ⟨h1, h2, h3⟩
    exact ⟨h1, fun t ht => by rw [getElem!_pos _ t ht]; exact h2 _ (List.getElem_mem ht), fun t ht => by rw [getElem!_pos _ t ht]; exact h3 _ (List.getElem_mem ht)⟩
  · rintro ⟨h1, h2, h3⟩
    refine ⟨h1, fun x hx => ?_, fun x hx => ?_⟩
    · obtain ⟨t, ht, rfl⟩ := List.getElem_of_mem hx
      have := h2 t ht
      rwa [getElem!_pos _ t ht] at this
    · obtain ⟨t, ht, rfl⟩ := List.getElem_of_mem hx
      have := h3 t ht
      rwa [getElem!_pos _ t ht] at this

end Go.Proofs.YtfdahfealibbnaaDoor
