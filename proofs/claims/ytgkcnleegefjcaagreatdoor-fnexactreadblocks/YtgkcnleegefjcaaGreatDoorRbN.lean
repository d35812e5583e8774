/- Blocks: how texts are read. Pure. -/
import Derived.Test.YtgkcnleegefjcaaGreatDoorBkT
namespace Go.Proofs.YtgkcnleegefjcaaGreatDoor
open Go.RowKit

theorem varL_pos (f : Nat) (n : Int) : 1 ≤ (varL f n).length := by
  cases f with
  | zero => simp [varL]
  | succ f => unfold varL; split <;> simp
theorem leV_of_varL : ∀ f n, 0 ≤ n → fits f n → leV (varL f n) = n
  | 0, n, h0, h => by
    unfold fits at h
    simp [varL, leV]; omega
  | f + 1, n, h0, h => by
    by_cases hs : n < 128
    · rw [varL_small _ _ hs]; simp [leV]; omega
    · obtain ⟨g, hg, hfg⟩ := fits_step _ n h (by omega)
      obtain rfl : f = g := by omega
      rw [varL_great _ _ (by omega), leV, leV_of_varL f (n / 128) (by omega) hfg]
      simp
      omega
theorem isV_of_varL (n : Int) (h0 : 0 ≤ n) (h1 : n ≤ 562949953421311) : isV (varL 6 n) = true := by
  have hl := leV_of_varL 6 n h0 (by unfold fits; omega)
  refine (varL_isV (varL 6 n) 6 (varL_le7 6 n) (fun h => by have := varL_pos 6 n; rw [h] at this; simp at this)).1 ?_
  rw [hl]
theorem rdVar_back (n : Int) (t : List UInt8) (h0 : 0 ≤ n) (h1 : n ≤ 562949953421311) : RdVar (varL 6 n ++ t) n (varL 6 n).length := by
  have e : (varL 6 n ++ t).take (varL 6 n).length = varL 6 n := by rw [List.take_append_of_le_length (Nat.le_refl _), List.take_length]
  refine Or.inl ⟨(varL 6 n).length, varL_pos 6 n, varL_le7 6 n, by simp, ?_, ?_, rfl⟩
  · rw [e]; exact isV_of_varL n h0 h1
  · rw [e]; exact (leV_of_varL 6 n h0 (by unfold fits; omega)).symm

/-- of how many bytes the number at the head of l is, 0 where there is none -/
def rdK (l : List UInt8) : Nat := ((List.range 8).find? fun j => decide (1 ≤ j) && decide (j ≤ l.length) && isV (l.take j)).getD 0
/-- the number at the head of l -/
def rdN (l : List UInt8) : Int := leV (l.take (rdK l))
theorem rd_is (l : List UInt8) : RdVar l (rdN l) (rdK l) := by
  unfold rdN rdK
  cases h : (List.range 8).find? fun j => decide (1 ≤ j) && decide (j ≤ l.length) && isV (l.take j) with
  | some j =>
    have h1 := List.find?_some h
    have h2 := List.mem_of_find?_eq_some h
    simp only [Bool.and_eq_true, decide_eq_true_eq] at h1
    have := List.mem_range.1 h2
    exact .inl ⟨j, h1.1.1, by omega, h1.1.2, h1.2, rfl, rfl⟩
  | none =>
    rw [List.find?_eq_none] at h
    refine .inr ⟨fun j h1 h2 h3 => ?_, by simp [leV], rfl⟩
    have := h j (List.mem_range.2 (by omega))
    simpa [h1, h3] using this
theorem rd_eq {l : List UInt8} {n k : Int} (h : RdVar l n k) : n = rdN l ∧ k = rdK l := RdVar_one l _ _ _ _ h (rd_is l)
theorem rd_var (n : Int) (t : List UInt8) (h0 : 0 ≤ n) (h1 : n ≤ 562949953421311) : rdN (varL 6 n ++ t) = n ∧ rdK (varL 6 n ++ t) = (varL 6 n).length := by
  have h := rd_eq (rdVar_back n t h0 h1)
  exact ⟨h.1.symm, by have := h.2; omega⟩
theorem rdK_le (l : List UInt8) : rdK l ≤ l.length ∧ rdK l ≤ 7 := by
  rcases rd_is l with ⟨j, h1, h2, h3, h4, h5, h6⟩ | ⟨h1, h2, h3⟩ <;> omega
theorem rdN_in (l : List UInt8) : 0 ≤ rdN l ∧ rdN l ≤ 562949953421311 := by
  have h := leV_bd (l.take (rdK l)) 7 (by have := rdK_le l; rw [List.length_take]; omega)
  unfold rdN; omega

/-- the bytes of a number's text -/
def varB (n : Int) : List UInt8 := (varT n).data.toList
theorem varB_is {n : Int} (h0 : 0 ≤ n) (h1 : n ≤ 562949953421311) : varB n = varL 6 n := by
  unfold varB varT; rw [if_pos (inB_mk h0 h1)]
def bA (l : List UInt8) : ByteArray := ⟨l.toArray⟩
theorem bA_of (s : ByteArray) : bA s.data.toList = s := list_ext (by simp [bA])
theorem bA_list (l : List UInt8) : (bA l).data.toList = l := by simp [bA]
theorem bA_size (l : List UInt8) : (bA l).size = l.length := by simp [bA, ByteArray.size]

/-! the program's cursor -/
def numR (l : List UInt8) : Option (Int × List UInt8) := if rdK l = 0 then none else some (rdN l, l.drop (rdK l))
def takR (n : Int) (l : List UInt8) : Option (List UInt8 × List UInt8) := if (l.length : Int) < n then none else some (l.take n.toNat, l.drop n.toNat)
def pieR (l : List UInt8) : Option (List UInt8 × List UInt8) := (numR l).bind fun p => takR p.1 p.2
def entR (l : List UInt8) : Option (En × List UInt8) := (numR l).bind fun p => (pieR p.2).bind fun q => (numR q.2).bind fun r => some (⟨hashN (bA q.1), p.1, bA q.1, r.1⟩, r.2)
def entsR : Nat → List UInt8 → Option (List En × List UInt8)
  | 0, l => some ([], l)
  | n + 1, l => (entR l).bind fun p => (entsR n p.2).bind fun q => some (p.1 :: q.1, q.2)
def mrkR (m : UInt8) (l : List UInt8) : Option (List UInt8) := match l with
  | [] => none
  | b :: r => if b = m then some r else none
theorem mrkR_cons (m : UInt8) (t : List UInt8) : mrkR m (m :: t) = some t := by simp [mrkR]
def inoRd (l : List UInt8) : Option Ino := (mrkR 105 l).bind fun l0 => (numR l0).bind fun a => (numR a.2).bind fun b => (numR b.2).bind fun c => (pieR c.2).bind fun d => (numR d.2).bind fun n => (entsR n.1.toNat n.2).bind fun e => some ⟨a.1, b.1, c.1, bA d.1, e.1⟩
def headRd (l : List UInt8) : Option (Int × Int) := (mrkR 117 l).bind fun l0 => (numR l0).bind fun a => (numR a.2).bind fun b => some (a.1, b.1)
def inosRd : List ByteArray → Option (List Ino)
  | [] => some []
  | t :: l => (inoRd t.data.toList).bind fun y => (inosRd l).bind fun r => some (y :: r)
def volRd (L : List ByteArray) : Option Vo := (headRd L[0]!.data.toList).bind fun h => (inosRd ((L.drop 1).take (min h.2.toNat 16))).bind fun r => some ⟨h.1, r⟩

theorem numR_var (n : Int) (t : List UInt8) (h0 : 0 ≤ n) (h1 : n ≤ 562949953421311) : numR (varB n ++ t) = some (n, t) := by
  rw [varB_is h0 h1]
  unfold numR
  have h := rd_var n t h0 h1
  rw [h.1, h.2, if_neg (by have := varL_pos 6 n; omega)]
  simp
theorem takR_app (a t : List UInt8) : takR (a.length : Int) (a ++ t) = some (a, t) := by
  unfold takR
  rw [if_neg (by rw [List.length_append]; omega)]
  simp
theorem app_list (a b : ByteArray) : (a ++ b).data.toList = a.data.toList ++ b.data.toList := by simp
/-- a piece's bytes -/
def pieB (s : ByteArray) : List UInt8 := (pieceT s).data.toList
theorem pieB_is (s : ByteArray) : pieB s = varB s.size ++ s.data.toList := by unfold pieB pieceT varB; exact app_list _ _
theorem size_list (s : ByteArray) : s.data.toList.length = s.size := by rw [Array.length_toList]; rfl
theorem pieR_app (s : ByteArray) (t : List UInt8) (hs : s.size ≤ 1048576) : pieR (pieB s ++ t) = some (s.data.toList, t) := by
  unfold pieR
  rw [pieB_is, List.append_assoc, numR_var _ _ (by omega) (by omega)]
  show takR _ _ = _
  rw [← size_list s]
  exact takR_app _ _
/-- an entry as it is read anew -/
structure EntOk (e : En) : Prop where
  index : 0 ≤ e.index ∧ e.index ≤ 100000
  id : 0 ≤ e.id ∧ e.id ≤ 100000
  name : e.name.size ≤ 24
  hash : e.hash = hashN e.name
theorem entR_app (e : En) (t : List UInt8) (h : EntOk e) : entR ((entT e).data.toList ++ t) = some (e, t) := by
  have e1 : (entT e).data.toList = varB e.index ++ (pieB e.name ++ varB e.id) := by unfold entT pieB varB; simp
  unfold entR
  rw [e1, List.append_assoc, List.append_assoc, numR_var _ _ h.index.1 (by have := h.index.2; omega)]
  simp only [Option.bind_some]
  rw [pieR_app _ _ (by have := h.name; omega)]
  simp only [Option.bind_some]
  rw [numR_var _ _ h.id.1 (by have := h.id.2; omega)]
  simp only [Option.bind_some, bA_of]
  rw [← h.hash]
theorem entsR_app : ∀ (l : List En) (t : List UInt8), (∀ e ∈ l, EntOk e) → entsR l.length ((entsT l).data.toList ++ t) = some (l, t)
  | [], t, _ => by simp [entsR, entsT]
  | e :: l, t, h => by
    have e1 : (entsT (e :: l)).data.toList ++ t = (entT e).data.toList ++ ((entsT l).data.toList ++ t) := by simp [entsT]
    rw [List.length_cons, entsR, e1, entR_app e _ (h e (by simp))]
    simp only [Option.bind_some]
    rw [entsR_app l t fun x hx => h x (by simp [hx])]
    rfl
/-- an inode as it is read anew -/
structure InoOk (y : Ino) : Prop where
  id : 0 ≤ y.id ∧ y.id ≤ 100000
  kind : 0 ≤ y.kind ∧ y.kind ≤ 100000
  links : 0 ≤ y.links ∧ y.links ≤ 100000
  data : y.data.size ≤ 20
  ents : ∀ e ∈ y.ents, EntOk e
  len : y.ents.length ≤ 12
/-- an inode's bytes -/
theorem inoT_list (y : Ino) : (inoT y).data.toList = 105 :: (varB y.id ++ (varB y.kind ++ (varB y.links ++ (pieB y.data ++ (varB y.ents.length ++ (entsT y.ents).data.toList))))) := by
  unfold inoT inoH varB pieB; simp
theorem inoRd_app (y : Ino) (h : InoOk y) : inoRd (inoT y).data.toList = some y := by
  have he := entsR_app y.ents [] h.ents
  rw [List.append_nil] at he
  rw [inoT_list]
  unfold inoRd
  rw [mrkR_cons]
  simp only [Option.bind_some]
  rw [numR_var _ _ h.id.1 (by have := h.id.2; omega)]
  simp only [Option.bind_some]
  rw [numR_var _ _ h.kind.1 (by have := h.kind.2; omega)]
  simp only [Option.bind_some]
  rw [numR_var _ _ h.links.1 (by have := h.links.2; omega)]
  simp only [Option.bind_some]
  rw [pieR_app _ _ (by have := h.data; omega)]
  simp only [Option.bind_some]
  rw [numR_var _ _ (by omega) (by have := h.len; omega)]
  simp only [Option.bind_some]
  rw [Int.toNat_natCast, he]
  simp only [Option.bind_some, bA_of]
theorem headT_list (x : Vo) : (headT x).data.toList = 117 :: (varB x.next ++ varB x.ins.length) := by unfold headT varB; simp
theorem headRd_app (x : Vo) (h0 : 0 ≤ x.next) (h1 : x.next ≤ 100000) (h2 : x.ins.length ≤ 100000) : headRd (headT x).data.toList = some (x.next, (x.ins.length : Int)) := by
  rw [headT_list]
  unfold headRd
  rw [mrkR_cons]
  simp only [Option.bind_some]
  rw [numR_var _ _ h0 (by omega)]
  simp only [Option.bind_some]
  have h := numR_var (x.ins.length : Int) [] (by omega) (by omega)
  rw [List.append_nil] at h
  rw [h]
  rfl
theorem inosRd_map : ∀ (l : List Ino), (∀ y ∈ l, InoOk y) → inosRd (l.map inoT) = some l
  | [], _ => rfl
  | y :: l, h => by
    rw [List.map_cons, inosRd, inoRd_app y (h y (by simp))]
    simp only [Option.bind_some]
    rw [inosRd_map l fun x hx => h x (by simp [hx])]
    rfl
theorem slots_take (x : Vo) (h : x.ins.length ≤ 16) : ((blocksN x).drop 1).take x.ins.length = x.ins.map inoT := by
  apply List.ext_getElem
  · simp [blocksN]; omega
  · intro i h1 h2
    have hi : i < x.ins.length := by simpa using h2
    simp only [blocksN, List.drop_succ_cons, List.drop_zero, List.getElem_take, List.getElem_map, List.getElem_range]
    unfold slotT
    rw [if_pos hi, getElem!_pos x.ins i hi]
theorem volRd_blocks (x : Vo) (h0 : 0 ≤ x.next) (h1 : x.next ≤ 100000) (h2 : x.ins.length ≤ 16) (h : ∀ y ∈ x.ins, InoOk y) : volRd (blocksN x) = some x := by
  unfold volRd
  have e : (blocksN x)[0]! = headT x := rfl
  rw [e, headRd_app x h0 h1 (by omega)]
  simp only [Option.bind_some]
  rw [Int.toNat_natCast, Nat.min_eq_left h2, slots_take x h2, inosRd_map x.ins h]
  rfl

/-! right volumes -/
theorem cntE_le (d : List En) (id : Int) : cntN d id ≤ d.length := by unfold cntN; exact List.countP_le_length
theorem named_le {v : Vo} (h : ∀ y ∈ v.ins, y.ents.length ≤ 12) (id : Int) : namedV v id ≤ 12 * v.ins.length := by
  unfold namedV
  generalize v.ins = l at h
  induction l with
  | nil => simp
  | cons y l ih =>
    rw [List.map_cons, List.sum_cons, List.length_cons]
    have h1 := cntE_le y.ents id
    have h2 := h y (by simp)
    have h3 := ih fun x hx => h x (by simp [hx])
    omega
theorem right_ok {v : Vo} (h : RightV v) {p : Ino} (hp : p ∈ v.ins) : InoOk p := by
  have hs := right_small h hp
  have hi := h.ids p hp
  have hx := h.next
  have hn := named_le (fun y hy => (right_small h hy).len) p.id
  have hl := h.len
  by_cases hk : p.kind = 2
  · obtain ⟨h1, h2, h3, -⟩ := dir_of h hp hk
    refine ⟨by omega, by omega, by omega, by omega, fun e he => ?_, hs.len⟩
    have h4 := entB_iff.1 (h3.each e he)
    exact ⟨by omega, by omega, names_le h4.1, h4.2.1⟩
  · obtain ⟨h1, h2, h3, h4⟩ := file_of h hp hk
    exact ⟨by omega, by omega, by omega, h3, fun e he => (by rw [h2] at he; cases he), hs.len⟩
theorem blocksN_size {v : Vo} (h : RightV v) : ∀ t ∈ blocksN v, t.size ≤ 600 := fun t ht => by
  unfold blocksN at ht
  rcases List.mem_cons.1 ht with rfl | ht
  · have := headT_size v; omega
  · obtain ⟨i, _, rfl⟩ := List.mem_map.1 ht
    unfold slotT
    split
    · rename_i hi
      exact inoT_size (right_small h (by rw [getElem!_pos v.ins i hi]; exact List.getElem_mem hi))
    · simp [ByteArray.size]
theorem volRd_right {v : Vo} (h : RightV v) : volRd (blocksN v) = some v := volRd_blocks v (by have := h.next; omega) (by have := h.next; omega) h.len fun y hy => right_ok h hy
theorem blocks_inj {a b : Vo} (ha : RightV a) (hb : RightV b) (h : blocksN a = blocksN b) : a = b := by
  have h1 := volRd_right ha
  rw [h, volRd_right hb] at h1
  exact (Option.some.inj h1).symm

end Go.Proofs.YtgkcnleegefjcaaGreatDoor
