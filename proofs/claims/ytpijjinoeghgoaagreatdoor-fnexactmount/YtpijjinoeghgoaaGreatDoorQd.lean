/- Devices: writes and devices, and what is asked of them; no program in it. Rows of writes: how they lie; a row behind a row. Journals: what Diff answers; one write behind a row of writes. Blocks of cells: read, written, kept. Journals: transactions, their texts, how they are read. Pure. -/
import Derived.Test.YtpijjinoeghgoaaGreatDoorRows
import Derived.Test.YtpijjinoeghgoaaGreatDoorMa
import Derived.Test.YtpijjinoeghgoaaGreatDoorMq
import Derived.Test.YtpijjinoeghgoaaGreatDoorNa
import Derived.Test.YtpijjinoeghgoaaGreatDoorMvr
import Derived.Test.YtpijjinoeghgoaaGreatDoorMl
import Derived.Laws.AppendOwnNone
import Derived.Lib.SmallJoins
namespace Go.Proofs.YtpijjinoeghgoaaGreatDoor

section
open Go.RowKit

/-- a write -/
structure Wr where
  block : Int
  text : ByteArray
  deriving DecidableEq
instance : Inhabited Wr := ⟨⟨0, ⟨#[]⟩⟩⟩
/-- a device -/
structure Dv where
  blocks : List ByteArray
  pend : List Wr
  deriving DecidableEq
instance : Inhabited Dv := ⟨⟨[], []⟩⟩








/-- the writes of l that are kept are done, in their order; the first one has the number i -/
def doneN (keep : Nat → Bool) : Nat → List Wr → List ByteArray → List ByteArray
  | _, [], b => b
  | i, x :: l, b => doneN keep (i + 1) l (if keep i then b.set x.block.toNat x.text else b)




theorem doneN_len (keep : Nat → Bool) : ∀ (i : Nat) (l : List Wr) (b : List ByteArray), (doneN keep i l b).length = b.length
  | _, [], _ => rfl
  | i, x :: l, b => by rw [doneN, doneN_len keep (i + 1) l]; split <;> simp
theorem doneN_append (keep : Nat → Bool) : ∀ (i : Nat) (l m : List Wr) (b : List ByteArray), doneN keep i (l ++ m) b = doneN keep (i + l.length) m (doneN keep i l b)
  | i, [], m, b => by simp [doneN]
  | i, x :: l, m, b => by
    rw [List.cons_append, doneN, doneN_append keep (i + 1) l m, doneN, List.length_cons, show i + 1 + l.length = i + (l.length + 1) by omega]
theorem doneN_step (keep : Nat → Bool) (l : List Wr) (b : List ByteArray) (k : Nat) (h : k < l.length) :
    doneN keep 0 (l.take (k + 1)) b = if keep k then (doneN keep 0 (l.take k) b).set l[k]!.block.toNat l[k]!.text else doneN keep 0 (l.take k) b := by
  rw [List.take_succ_eq_append_getElem h, doneN_append, Nat.zero_add, List.length_take, Nat.min_eq_left (by omega), getElem!_pos l k h]
  rfl
end

section
open Go.RowKit

/-- an write's cells -/
def encW (e : Wr) : List Value := [.int .i64 e.block, .string e.text]
theorem encW_len (e : Wr) : (encW e).length = 2 := rfl
theorem encW_one (e : Wr) : ∀ v ∈ encW e, v.oneCell' = true := by
  intro v hv
  simp only [encW, List.mem_cons, List.not_mem_nil, or_false] at hv
  rcases hv with rfl | rfl <;> rfl
def flatW (l : List Wr) : List Value := l.flatMap encW

theorem flatW_append (l m : List Wr) : flatW (l ++ m) = flatW l ++ flatW m := by simp [flatW]
theorem flatW_cons (e : Wr) (l : List Wr) : flatW (e :: l) = encW e ++ flatW l := by simp [flatW]
theorem flatW_one (e : Wr) : flatW [e] = encW e := by simp [flatW]

/-- the cells of write e at place o -/
structure CellsW (w : World) (b o : Nat) (e : Wr) : Prop where
  c0 : w.cell? ⟨b, o, none⟩ = some (.int .i64 e.block)
  c1 : w.cell? ⟨b, o + 1, none⟩ = some (.string e.text)
theorem flatW_at : ∀ (l : List Wr) (j : Nat), j < l.length → ∀ t, t < 2 → (flatW l)[j * 2 + t]? = (encW l[j]!)[t]?
  | [], j, h, _, _ => by simp at h
  | e :: l, 0, _, t, ht => by
    rw [flatW_cons, List.getElem?_append_left (by rw [encW_len]; omega), Nat.zero_mul, Nat.zero_add]; rfl
  | e :: l, j + 1, h, t, ht => by
    have ih := flatW_at l j (by simpa using h) t ht
    rw [flatW_cons, List.getElem?_append_right (by rw [encW_len]; omega), encW_len, show (j + 1) * 2 + t - 2 = j * 2 + t by omega, ih]
    rfl

/-- the slice v reads as the writes l -/
def WrsAt (w : World) (v : Value) (l : List Wr) : Prop :=
  ∃ a cap, v = .slice a l.length cap ∧ (a = none → cap = 0) ∧ ∀ t, t < l.length → ∃ b off, a = some ⟨b, off, none⟩ ∧ b < w.heap.size ∧ CellsW w b (off + t * 2) l[t]!

/-- the slice v is a row of writes that lies from block base on and is the call's own -/
def WrRow (w : World) (base : Nat) (v : Value) (l : List Wr) : Prop := w.ownsRow base 42 2 v l.length (flatW l)

theorem WrRow.at {w : World} {base : Nat} {v : Value} {l : List Wr} (h : WrRow w base v l) : WrsAt w v l := by
  rcases h.2 with ⟨rfl, h0⟩ | ⟨g, cap, cur, rfl, hg, hh, hnc, hcp, hcs, htake⟩
  · exact ⟨none, 0, by rw [h0], fun _ => rfl, fun t ht => by omega⟩
  · refine ⟨some ⟨g, 0, none⟩, cap, rfl, fun h => (by cases h), fun t ht => ⟨g, 0, rfl, lt_of_block hh, ?_⟩⟩
    have key : ∀ s, s < 2 → w.cell? ⟨g, 0 + t * 2 + s, none⟩ = (encW l[t]!)[s]? := fun s hs => by
      rw [Nat.zero_add, World.ownsRow.cellAt h _ (by omega), flatW_at l t ht s hs]
    exact ⟨key 0 (by omega), key 1 (by omega)⟩
theorem CellsW.below {w w' : World} {b o : Nat} {e : Wr} (h : CellsW w b o e) (hl : b < w.heap.size) (hb : Below w.heap.size w w') : CellsW w' b o e :=
  ⟨(hb.cell (p := ⟨b, o, none⟩) hl).trans h.c0, (hb.cell (p := ⟨b, o + 1, none⟩) hl).trans h.c1⟩
theorem WrsAt.below {w w' : World} {v : Value} {l : List Wr} (h : WrsAt w v l) (b : Below w.heap.size w w') : WrsAt w' v l := by
  obtain ⟨a, cap, rfl, hn, hc⟩ := h
  refine ⟨a, cap, rfl, hn, fun t ht => ?_⟩
  obtain ⟨bb, off, h1, h2, h3⟩ := hc t ht
  exact ⟨bb, off, h1, Nat.lt_of_lt_of_le h2 b.size, h3.below h2 b⟩
theorem WrRow.below {w w' : World} {base : Nat} {v : Value} {l : List Wr} (h : WrRow w base v l) (b : Below w.heap.size w w') : WrRow w' base v l :=
  ⟨h.1, by
    rcases h.2 with h0 | ⟨g, cap, cur, e, hg, hh, r⟩
    · exact .inl h0
    · exact .inr ⟨g, cap, cur, e, hg, (b.block g (lt_of_block hh)).trans hh, r⟩⟩
theorem WrRow.mono {w : World} {base base' : Nat} {v : Value} {l : List Wr} (h : WrRow w base v l) (hb : base' ≤ base) : WrRow w base' v l :=
  ⟨h.1, by
    rcases h.2 with h0 | ⟨g, cap, cur, e, hg, r⟩
    · exact .inl h0
    · exact .inr ⟨g, cap, cur, e, Nat.le_trans hb hg, r⟩⟩

theorem Tryz.infoW : (Tryz.prog.info? 42).map (fun i => (i.zero, i.size, i.bytes)) = some (some (.agg #[.int .i64 0, .string ⟨#[]⟩]), 2, 24) := by kernel_rfl

/-- a new row that is empty, as the walk has it -/
theorem lit_wrs (w : World) : WrRow (w.alloc (.cells #[] 42)) w.heap.size (.slice (some ⟨w.heap.size, 0, none⟩) 0 0) [] :=
  World.ownsRow_lit (base := w.heap.size) (e := 42) (size := 2) w #[] 0 (Nat.le_refl _) (by unfold maxLen; omega) rfl
end

section
open Go.RowKit








theorem nil_wrs (w : World) (base : Nat) : WrRow w base (.slice none 0 0) [] := ⟨rfl, .inl ⟨rfl, rfl⟩⟩
end

section
open Go.RowKit

theorem cell_blk {w : World} {g : Nat} {cs : Array Value} {t : TypeId} {fr : Nat × Nat} (h : w.heap[g]? = some (.cells cs t fr)) (i : Nat) : w.cell? ⟨g, i, none⟩ = cs[i]? := by simp [World.cell?, h]
theorem own_same {w w' : World} {base size n : Nat} {e : TypeId} {v : Value} {xs : List Value} (h : w.ownsRow base e size v n xs) (hb : ∀ q, v.ownBlock = some q → w'.heap[q]? = w.heap[q]?) : w'.ownsRow base e size v n xs :=
  ⟨h.1, by
    rcases h.2 with h0 | ⟨g, cap, cur, e, hg, hh, r⟩
    · exact .inl h0
    · exact .inr ⟨g, cap, cur, e, hg, (hb g (by rw [e]; rfl)).trans hh, r⟩⟩
theorem own_gb {w w' : World} {base size n : Nat} {e : TypeId} {v : Value} {xs : List Value} {r : Option Nat} (h : w.ownsRow base e size v n xs) (g : w.grownBy w' r) (hne : ∀ q, v.ownBlock = some q → r ≠ some q) : w'.ownsRow base e size v n xs :=
  own_same h fun q hq => g.block q (World.ownsRow.lt h q hq).2 fun e => hne q hq (by rw [e])
theorem unfrozen_blk {w : World} {g : Nat} {cs : Array Value} {t : TypeId} (h : w.heap[g]? = some (.cells cs t (0, 0))) (i : Nat) : w.frozen? ⟨g, i, none⟩ = false := by simp [World.frozen?, h]
theorem block_set {w : World} {g i : Nat} {cs : Array Value} {t : TypeId} {fr : Nat × Nat} (h : w.heap[g]? = some (.cells cs t fr)) (v : Value) : (w.setCell ⟨g, i, none⟩ v).heap[g]? = some (.cells (cs.setIfInBounds i v) t fr) := by
  rw [setCell_eq_setRow w g i cs t fr v h]
  exact setRow_heap w g _ _ t _ h
theorem put2d {w : World} {g : Nat} {T : TypeId} {a0 a1 : Value} (x0 x1 : Value) (h : w.heap[g]? = some (.cells #[a0, a1] T (0, 0))) :
    ((w.setCell ⟨g, 0, none⟩ x0).setCell ⟨g, 1, none⟩ x1).heap[g]? = some (.cells #[x0, x1] T (0, 0)) := by
  have h1 := block_set (i := 0) h x0
  exact block_set (i := 1) h1 x1
theorem own_low {w : World} {base size n : Nat} {e : TypeId} {v : Value} {xs : List Value} (h : w.ownsRow base e size v n xs) {g : Nat} (hg : g < base) (o : Nat) (u : Value) : (w.setCell ⟨g, o, none⟩ u).ownsRow base e size v n xs := ownsRow_setCell_below h hg u
end

section
open Go.RowKit

/-- a transaction -/
structure Tx where
  seq : Int
  outs : List Wr
  deriving DecidableEq
instance : Inhabited Tx := ⟨⟨0, []⟩⟩
/-- writes whose blocks rise from least on -/
def risB : Int → List Wr → Bool
  | _, [] => true
  | least, x :: l => decide (least ≤ x.block ∧ x.block ≤ 16 ∧ x.text.size ≤ 400) && risB (x.block + 1) l
def txnB (t : Tx) : Bool := inB t.seq 1 1000000 && (inB t.outs.length 1 17 && risB 0 t.outs)
/-- the least block that may stand at place k -/
def leastK (l : List Wr) (k : Nat) : Int := if k = 0 then 0 else l[k - 1]!.block + 1
theorem leastK_zero (l : List Wr) : leastK l 0 = 0 := rfl
theorem leastK_succ (l : List Wr) (k : Nat) : leastK l (k + 1) = l[k]!.block + 1 := by unfold leastK; rw [if_neg (by omega), Nat.add_sub_cancel]
theorem ris_step {l : List Wr} {k : Nat} (h : k < l.length) : risB (leastK l k) (l.drop k) = (decide (leastK l k ≤ l[k]!.block ∧ l[k]!.block ≤ 16 ∧ l[k]!.text.size ≤ 400) && risB (leastK l (k + 1)) (l.drop (k + 1))) := by
  rw [List.drop_eq_getElem_cons h, risB, leastK_succ, getElem!_pos l k h]
theorem ris_end (l : List Wr) (n : Int) : risB n (l.drop l.length) = true := by simp [risB]
/-- what stands in writes that rise -/
theorem ris_at : ∀ (l : List Wr) (n : Int), risB n l = true → ∀ x ∈ l, n ≤ x.block ∧ x.block ≤ 16 ∧ x.text.size ≤ 400
  | [], _, _, x, h => by cases h
  | y :: l, n, h, x, hx => by
    rw [risB, Bool.and_eq_true, decide_eq_true_eq] at h
    rcases List.mem_cons.1 hx with rfl | hx
    · exact h.1
    · have := ris_at l _ h.2 x hx
      omega

def outT (x : Wr) : ByteArray := varT x.block ++ pieceT x.text
def outsT : List Wr → ByteArray
  | [] => ⟨#[]⟩
  | x :: l => outT x ++ outsT l
theorem outsT_snoc (l : List Wr) (x : Wr) : outsT (l ++ [x]) = outsT l ++ outT x := by
  induction l with
  | nil => simp only [List.nil_append, outsT]; rw [app_nil]; exact (list_ext (by simp))
  | cons y l ih => simp only [List.cons_append, outsT, ih, app_assoc]
theorem outT_size (x : Wr) (h : x.text.size ≤ 400) : (outT x).size ≤ 414 := by
  unfold outT
  rw [app_size]
  have := varT_size x.block
  have := pieceT_size x.text
  omega
theorem outsT_size (l : List Wr) (h : ∀ x ∈ l, x.text.size ≤ 400) : (outsT l).size ≤ 414 * l.length := by
  induction l with
  | nil => simp [outsT, ByteArray.size]
  | cons e l ih =>
    simp only [outsT]
    rw [app_size, List.length_cons]
    have := outT_size e (h e (by simp))
    have := ih fun x hx => h x (by simp [hx])
    omega
/-- what stands ahead of the writes -/
def thdT (t : Tx) : ByteArray := (⟨#[116]⟩ : ByteArray) ++ varT t.seq ++ varT t.outs.length
theorem thdT_size (t : Tx) : (thdT t).size ≤ 15 := by
  unfold thdT
  simp only [app_size]
  have := varT_size t.seq
  have := varT_size t.outs.length
  have : (⟨#[116]⟩ : ByteArray).size = 1 := rfl
  omega
/-- the text behind k writes -/
def txT (t : Tx) (k : Nat) : ByteArray := thdT t ++ outsT (t.outs.take k)
theorem txT_zero (t : Tx) : txT t 0 = thdT t := by unfold txT; simp only [List.take_zero, outsT]; exact app_nil _
theorem txT_step (t : Tx) (k : Nat) (h : k < t.outs.length) : txT t (k + 1) = txT t k ++ (varT t.outs[k]!.block ++ pieceT t.outs[k]!.text) := by
  unfold txT
  rw [List.take_succ_eq_append_getElem h, outsT_snoc, getElem!_pos t.outs k h, ← app_assoc]; rfl
def bodyT (t : Tx) : ByteArray := thdT t ++ outsT t.outs
theorem txT_all (t : Tx) : txT t t.outs.length = bodyT t := by unfold txT bodyT; rw [List.take_length]
theorem txT_size (t : Tx) (h : ∀ x ∈ t.outs, x.text.size ≤ 400) (hl : t.outs.length ≤ 17) (k : Nat) : (txT t k).size ≤ 8000 := by
  unfold txT
  rw [app_size]
  have := thdT_size t
  have h2 := outsT_size (t.outs.take k) fun x hx => h x (List.mem_of_mem_take hx)
  have h3 : (t.outs.take k).length ≤ 17 := by rw [List.length_take]; omega
  omega
def sumT (s : ByteArray) : ByteArray := (⟨(fixL 4 (crcV s)).toArray⟩ : ByteArray) ++ s
theorem fix4_len (n : Int) (h0 : 0 ≤ n) (h1 : n ≤ 4294967295) : (fixL 4 n).length = 4 := by
  unfold fixL
  rw [if_pos (by omega), beB_length]
theorem sumT_size (s : ByteArray) : (sumT s).size = 4 + s.size := by
  unfold sumT
  rw [app_size]
  have := fix4_len (crcV s) (crcV_in s).1 (crcV_in s).2
  have e : (⟨(fixL 4 (crcV s)).toArray⟩ : ByteArray).size = (fixL 4 (crcV s)).length := by simp [ByteArray.size]
  rw [e, this]
/-- what ShowTxn answers -/
def cutT (s : ByteArray) : ByteArray := if 4000 < s.size then ⟨#[]⟩ else s
def showN (t : Tx) : ByteArray := if txnB t = true then cutT (sumT (bodyT t)) else ⟨#[]⟩
theorem showN_no {t : Tx} (h : txnB t = false) : showN t = ⟨#[]⟩ := by unfold showN; rw [if_neg (by rw [h]; decide)]
theorem showN_yes {t : Tx} (h : txnB t = true) : showN t = cutT (sumT (bodyT t)) := by unfold showN; rw [if_pos h]


theorem txnB_parts {t : Tx} (h : txnB t = true) : (1 ≤ t.seq ∧ t.seq ≤ 1000000) ∧ (1 ≤ t.outs.length ∧ t.outs.length ≤ 17) ∧ risB 0 t.outs = true := by
  unfold txnB at h
  rw [Bool.and_eq_true, Bool.and_eq_true] at h
  have h1 := inB_le h.1
  have h2 := inB_le h.2.1
  exact ⟨h1, by omega, h.2.2⟩

/-! how the program reads it -/
def outR (l : List UInt8) : Option (Wr × List UInt8) := (numR l).bind fun p => (pieR p.2).bind fun q => some (⟨p.1, bA q.1⟩, q.2)
def outsR : Nat → List UInt8 → Option (List Wr × List UInt8)
  | 0, l => some ([], l)
  | n + 1, l => (outR l).bind fun p => (outsR n p.2).bind fun q => some (p.1 :: q.1, q.2)
def txnRd (l : List UInt8) : Option Tx := (takR 4 l).bind fun a => (mrkR 116 a.2).bind fun r => (numR r).bind fun s => (numR s.2).bind fun n => (outsR n.1.toNat n.2).bind fun o => some ⟨s.1, o.1⟩
theorem outT_list (x : Wr) : (outT x).data.toList = varB x.block ++ pieB x.text := by unfold outT varB pieB; simp
theorem outR_app (x : Wr) (t : List UInt8) (h0 : 0 ≤ x.block) (h1 : x.block ≤ 16) (h2 : x.text.size ≤ 400) : outR ((outT x).data.toList ++ t) = some (x, t) := by
  rw [outT_list, List.append_assoc]
  unfold outR
  rw [numR_var _ _ h0 (by omega)]
  simp only [Option.bind_some]
  rw [pieR_app _ _ (by omega)]
  simp only [Option.bind_some, bA_of]
theorem outsR_app : ∀ (l : List Wr) (t : List UInt8), (∀ x ∈ l, 0 ≤ x.block ∧ x.block ≤ 16 ∧ x.text.size ≤ 400) → outsR l.length ((outsT l).data.toList ++ t) = some (l, t)
  | [], t, _ => by simp [outsR, outsT]
  | x :: l, t, h => by
    have e1 : (outsT (x :: l)).data.toList ++ t = (outT x).data.toList ++ ((outsT l).data.toList ++ t) := by simp [outsT]
    have hx := h x (by simp)
    rw [List.length_cons, outsR, e1, outR_app x _ hx.1 hx.2.1 hx.2.2]
    simp only [Option.bind_some]
    rw [outsR_app l t fun y hy => h y (by simp [hy])]
    rfl
theorem bodyT_list (t : Tx) : (bodyT t).data.toList = 116 :: (varB t.seq ++ (varB t.outs.length ++ (outsT t.outs).data.toList)) := by
  unfold bodyT thdT varB; simp
theorem sumT_list (s : ByteArray) : (sumT s).data.toList = fixL 4 (crcV s) ++ s.data.toList := by unfold sumT; simp
theorem txnRd_sum {t : Tx} (h : txnB t = true) : txnRd (sumT (bodyT t)).data.toList = some t := by
  obtain ⟨h1, h2, h3⟩ := txnB_parts h
  have hx := ris_at _ _ h3
  have h4 := fix4_len (crcV (bodyT t)) (crcV_in _).1 (crcV_in _).2
  have ho := outsR_app t.outs [] hx
  rw [List.append_nil] at ho
  unfold txnRd
  rw [sumT_list]
  have e4 : takR 4 (fixL 4 (crcV (bodyT t)) ++ (bodyT t).data.toList) = some (fixL 4 (crcV (bodyT t)), (bodyT t).data.toList) := by
    have := takR_app (fixL 4 (crcV (bodyT t))) (bodyT t).data.toList
    rwa [h4] at this
  rw [e4]
  simp only [Option.bind_some]
  rw [bodyT_list, mrkR_cons]
  simp only [Option.bind_some]
  rw [numR_var _ _ (by omega) (by omega)]
  simp only [Option.bind_some]
  rw [numR_var _ _ (by omega) (by omega)]
  simp only [Option.bind_some]
  rw [Int.toNat_natCast, ho]
  rfl

/-! how the specification reads it -/
def outS (l : List UInt8) (p : Int) : Option (Wr × Int) := if (takS l (varsS l 1 p).2).2 < 0 then none else some (⟨(varsS l 1 p).1[0]!, bA (takS l (varsS l 1 p).2).1⟩, (takS l (varsS l 1 p).2).2)
def outsS (l : List UInt8) : Nat → Int → Option (List Wr × Int)
  | 0, p => some ([], p)
  | n + 1, p => (outS l p).bind fun e => (outsS l n e.2).bind fun r => some (e.1 :: r.1, r.2)
def txnS (l : List UInt8) : Option Tx :=
  if (varsS l 2 5).2 < 0 ∨ 17 < (varsS l 2 5).1[1]! then none else (outsS l (varsS l 2 5).1[1]!.toNat (varsS l 2 5).2).bind fun e => some ⟨(varsS l 2 5).1[0]!, e.1⟩
theorem out_at {l : List UInt8} {p : Nat} {x : Wr} {t : List UInt8} (h : Rest l p ((outT x).data.toList ++ t)) (h0 : 0 ≤ x.block) (h1 : x.block ≤ 16) (h2 : x.text.size ≤ 400) :
    outS l (p : Int) = some (x, ((p + (outT x).data.toList.length : Nat) : Int)) := by
  have e1 := outT_list x
  rw [e1, List.append_assoc] at h
  have v1 := vars_one h h0 (by omega)
  have h3 := h.next
  have v2 := tak_at h3 (by omega)
  unfold outS
  rw [v1]
  simp only
  rw [v2]
  simp only
  rw [if_neg (by omega), bA_of, e1, List.length_append]
  have e0 : ([x.block] : List Int)[0]! = x.block := rfl
  rw [e0, show p + (varB x.block).length + (pieB x.text).length = p + ((varB x.block).length + (pieB x.text).length) by omega]
theorem outs_at : ∀ (d : List Wr) {l : List UInt8} {p : Nat} {t : List UInt8}, Rest l p ((outsT d).data.toList ++ t) → (∀ x ∈ d, 0 ≤ x.block ∧ x.block ≤ 16 ∧ x.text.size ≤ 400) → outsS l d.length (p : Int) = some (d, ((p + (outsT d).data.toList.length : Nat) : Int))
  | [], l, p, t, h, _ => by simp [outsS, outsT]
  | x :: d, l, p, t, h, hx => by
    have e1 : (outsT (x :: d)).data.toList ++ t = (outT x).data.toList ++ ((outsT d).data.toList ++ t) := by simp [outsT]
    have e2 : (outsT (x :: d)).data.toList.length = (outT x).data.toList.length + (outsT d).data.toList.length := by simp [outsT]
    rw [e1] at h
    have hb := hx x (by simp)
    rw [List.length_cons, outsS, out_at h hb.1 hb.2.1 hb.2.2]
    simp only [Option.bind_some]
    rw [outs_at d h.next fun y hy => hx y (by simp [hy])]
    simp only [Option.bind_some]
    rw [e2, Nat.add_assoc]
theorem txnS_sum {t : Tx} (h : txnB t = true) : txnS (sumT (bodyT t)).data.toList = some t := by
  obtain ⟨h1, h2, h3⟩ := txnB_parts h
  have hx := ris_at _ _ h3
  have h4 := fix4_len (crcV (bodyT t)) (crcV_in _).1 (crcV_in _).2
  have hl : (sumT (bodyT t)).data.toList = (fixL 4 (crcV (bodyT t)) ++ [116]) ++ (varB t.seq ++ (varB t.outs.length ++ ((outsT t.outs).data.toList ++ []))) := by
    rw [sumT_list, bodyT_list]; simp
  have hR0 : Rest (sumT (bodyT t)).data.toList 0 ((fixL 4 (crcV (bodyT t)) ++ [116]) ++ (varB t.seq ++ (varB t.outs.length ++ ((outsT t.outs).data.toList ++ [])))) := ⟨Nat.zero_le _, by rw [List.drop_zero]; exact hl⟩
  have hR5 := hR0.next
  rw [List.length_append, h4] at hR5
  have hR5 : Rest (sumT (bodyT t)).data.toList 5 (varB t.seq ++ (varB t.outs.length ++ ((outsT t.outs).data.toList ++ []))) := hR5
  generalize (sumT (bodyT t)).data.toList = l at *
  have s1 := vars_step hR5 (by omega) (by omega) 1
  have s2 := vars_one hR5.next (by omega) (by omega)
  have s3 := outs_at t.outs hR5.next.next hx
  rw [s2] at s1
  have s1 : varsS l 2 5 = ([t.seq, (t.outs.length : Int)], ((5 + (varB t.seq).length + (varB (t.outs.length : Int)).length : Nat) : Int)) := s1
  unfold txnS
  rw [s1]
  have e1 : ([t.seq, (t.outs.length : Int)] : List Int)[1]! = (t.outs.length : Int) := rfl
  have e0 : ([t.seq, (t.outs.length : Int)] : List Int)[0]! = t.seq := rfl
  simp only [e1, e0]
  rw [if_neg (by omega), Int.toNat_natCast, s3]
  rfl
/-- what ReadTxn answers -/
def readT (s : ByteArray) : Option Tx := if 4000 < s.size then none else (txnRd s.data.toList).bind fun t => if showN t = s then some t else none
theorem emp_size : (⟨#[]⟩ : ByteArray).size = 0 := rfl
theorem cutT_back {s x : ByteArray} (h : cutT x = s) (hs : 0 < s.size) : x = s ∧ s.size ≤ 4000 := by
  unfold cutT at h
  split at h
  · rw [← h, emp_size] at hs; omega
  · rename_i h1; exact ⟨h, by rw [← h]; omega⟩
theorem showN_back {t : Tx} {s : ByteArray} (h : showN t = s) (hs : 0 < s.size) : txnB t = true ∧ sumT (bodyT t) = s ∧ s.size ≤ 4000 := by
  cases ht : txnB t with
  | false => rw [showN_no ht] at h; rw [← h, emp_size] at hs; omega
  | true =>
    rw [showN_yes ht] at h
    exact ⟨rfl, cutT_back h hs⟩
/-- a text that ShowTxn makes is read as the transaction -/
theorem readT_show {t : Tx} {s : ByteArray} (h : showN t = s) (hs : 0 < s.size) : readT s = some t := by
  obtain ⟨h1, h2, h3⟩ := showN_back h hs
  unfold readT
  rw [if_neg (by omega), ← h2, txnRd_sum h1]
  simp only [Option.bind_some]
  rw [h2, if_pos h]
theorem txnRd_pos {s : ByteArray} {t : Tx} (h : txnRd s.data.toList = some t) : 0 < s.size := by
  rcases Nat.eq_zero_or_pos s.size with h0 | h0
  · have : s.data.toList = [] := List.length_eq_zero_iff.1 (by rw [size_list]; exact h0)
    rw [this] at h
    cases h
  · exact h0
theorem txnS_pos {s : ByteArray} {t : Tx} (h : txnS s.data.toList = some t) : 0 < s.size := by
  rcases Nat.eq_zero_or_pos s.size with h0 | h0
  · have : s.data.toList = [] := List.length_eq_zero_iff.1 (by rw [size_list]; exact h0)
    rw [this] at h
    cases h
  · exact h0
/-- what is read is what is shown -/
theorem readT_is {s : ByteArray} {t : Tx} (h : readT s = some t) : showN t = s ∧ 0 < s.size ∧ s.size ≤ 4000 := by
  unfold readT at h
  split at h
  · cases h
  · rename_i h1
    cases ht : txnRd s.data.toList with
    | none => rw [ht] at h; cases h
    | some t' =>
      rw [ht] at h
      simp only [Option.bind_some] at h
      split at h
      · cases h; exact ⟨by assumption, txnRd_pos ht, by omega⟩
      · cases h
/-- the specification's way tells the same -/
theorem readT_S (s : ByteArray) : readT s = if 4000 < s.size then none else (txnS s.data.toList).bind fun t => if showN t = s then some t else none := by
  by_cases h1 : 4000 < s.size
  · unfold readT; rw [if_pos h1, if_pos h1]
  · rw [if_neg h1]
    cases hr : readT s with
    | some t =>
      obtain ⟨h2, h3, h4⟩ := readT_is hr
      obtain ⟨k1, k2, k3⟩ := showN_back h2 h3
      rw [← k2, txnS_sum k1]
      simp only [Option.bind_some]
      rw [k2, if_pos h2]
    | none =>
      cases ht : txnS s.data.toList with
      | none => rfl
      | some t =>
        simp only [Option.bind_some]
        by_cases h2 : showN t = s
        · rw [readT_show h2 (txnS_pos ht)] at hr; cases hr
        · rw [if_neg h2]
end

end Go.Proofs.YtpijjinoeghgoaaGreatDoor
