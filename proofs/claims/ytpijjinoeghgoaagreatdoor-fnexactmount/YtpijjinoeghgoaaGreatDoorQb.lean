/- Blocks: the texts of a volume. Pure. Blocks: how texts are read. Pure. Blocks: how the specification reads texts. Pure. -/
import Derived.Test.YtpijjinoeghgoaaGreatDoorRows
import Derived.Test.YtpijjinoeghgoaaGreatDoorMvr
import Derived.Test.YtpijjinoeghgoaaGreatDoorNb
namespace Go.Proofs.YtpijjinoeghgoaaGreatDoor

section
open Go.RowKit

def entT (e : En) : ByteArray := varT e.index ++ pieceT e.name ++ varT e.id
def entsT : List En → ByteArray
  | [] => ⟨#[]⟩
  | e :: l => entT e ++ entsT l
theorem entsT_snoc (l : List En) (e : En) : entsT (l ++ [e]) = entsT l ++ entT e := by
  induction l with
  | nil => simp only [List.nil_append, entsT]; rw [app_nil]; exact (list_ext (by simp))
  | cons x l ih => simp only [List.cons_append, entsT, ih, app_assoc]
theorem entT_size (e : En) (h : e.name.size ≤ 24) : (entT e).size ≤ 45 := by
  unfold entT
  rw [app_size, app_size]
  have := varT_size e.index
  have := varT_size e.id
  have := pieceT_size e.name
  omega
theorem entsT_size (l : List En) (h : ∀ e ∈ l, e.name.size ≤ 24) : (entsT l).size ≤ 45 * l.length := by
  induction l with
  | nil => simp [entsT, ByteArray.size]
  | cons e l ih =>
    simp only [entsT]
    rw [app_size, List.length_cons]
    have := entT_size e (h e (by simp))
    have := ih fun x hx => h x (by simp [hx])
    omega
def inoH (y : Ino) : ByteArray := (⟨#[105]⟩ : ByteArray) ++ varT y.id ++ varT y.kind ++ varT y.links ++ pieceT y.data ++ varT y.ents.length
theorem inoH_size (y : Ino) : (inoH y).size ≤ 36 + y.data.size := by
  unfold inoH
  simp only [app_size]
  have := varT_size y.id
  have := varT_size y.kind
  have := varT_size y.links
  have := pieceT_size y.data
  have := varT_size y.ents.length
  have : (⟨#[105]⟩ : ByteArray).size = 1 := rfl
  omega
def inoT (y : Ino) : ByteArray := inoH y ++ entsT y.ents
def headT (x : Vo) : ByteArray := (⟨#[117]⟩ : ByteArray) ++ varT x.next ++ varT x.ins.length
theorem headT_size (x : Vo) : (headT x).size ≤ 15 := by
  unfold headT
  simp only [app_size]
  have := varT_size x.next
  have := varT_size x.ins.length
  have : (⟨#[117]⟩ : ByteArray).size = 1 := rfl
  omega
/-- the text at place 1 + i -/
def slotT (x : Vo) (i : Nat) : ByteArray := if i < x.ins.length then inoT x.ins[i]! else ⟨#[]⟩
def blocksN (x : Vo) : List ByteArray := headT x :: (List.range 16).map (slotT x)
theorem blocksN_len (x : Vo) : (blocksN x).length = 17 := by simp [blocksN]
noncomputable def volBlocksN (x : Vo) : List ByteArray := if rightB x = true then blocksN x else []
theorem volBlocksN_len (x : Vo) : (volBlocksN x).length ≤ 17 := by
  unfold volBlocksN; split
  · rw [blocksN_len]; omega
  · simp

/-- an inode with few entries and short texts -/
structure InoS (y : Ino) : Prop where
  len : y.ents.length ≤ 12
  names : ∀ e ∈ y.ents, e.name.size ≤ 24
  data : y.data.size ≤ 20
theorem inoT_size {y : Ino} (h : InoS y) : (inoT y).size ≤ 600 := by
  unfold inoT
  rw [app_size]
  have := inoH_size y
  have := entsT_size y.ents h.names
  have := h.len
  have := h.data
  omega
theorem names_le {s : ByteArray} (h : (nameL s).isSome = true) : s.size ≤ 24 := by
  cases hc : inB (s.size : Int) 1 24 with
  | false => rw [nameL_short hc] at h; simp at h
  | true => unfold inB at hc; simp only [Bool.and_eq_true, decide_eq_true_eq] at hc; omega
theorem right_small {v : Vo} (h : RightV v) {p : Ino} (hp : p ∈ v.ins) : InoS p := by
  by_cases hk : p.kind = 2
  · obtain ⟨h1, -, h3, -⟩ := dir_of h hp hk
    exact ⟨h3.len, fun e he => names_le (entB_iff.1 (h3.each e he)).1, by omega⟩
  · obtain ⟨h1, h2, h3, -⟩ := file_of h hp hk
    exact ⟨by rw [h2]; simp, fun e he => (by rw [h2] at he; cases he), by omega⟩
end

section
open Go.RowKit

def entR (l : List UInt8) : Option (En × List UInt8) := (numR l).bind fun p => (pieR p.2).bind fun q => (numR q.2).bind fun r => some (⟨hashN (bA q.1), p.1, bA q.1, r.1⟩, r.2)
def entsR : Nat → List UInt8 → Option (List En × List UInt8)
  | 0, l => some ([], l)
  | n + 1, l => (entR l).bind fun p => (entsR n p.2).bind fun q => some (p.1 :: q.1, q.2)
def inoRd (l : List UInt8) : Option Ino := (mrkR 105 l).bind fun l0 => (numR l0).bind fun a => (numR a.2).bind fun b => (numR b.2).bind fun c => (pieR c.2).bind fun d => (numR d.2).bind fun n => (entsR n.1.toNat n.2).bind fun e => some ⟨a.1, b.1, c.1, bA d.1, e.1⟩
def headRd (l : List UInt8) : Option (Int × Int) := (mrkR 117 l).bind fun l0 => (numR l0).bind fun a => (numR a.2).bind fun b => some (a.1, b.1)
def inosRd : List ByteArray → Option (List Ino)
  | [] => some []
  | t :: l => (inoRd t.data.toList).bind fun y => (inosRd l).bind fun r => some (y :: r)
def volRd (L : List ByteArray) : Option Vo := (headRd L[0]!.data.toList).bind fun h => (inosRd ((L.drop 1).take (min h.2.toNat 16))).bind fun r => some ⟨h.1, r⟩

/-- an entry as it is read anew -/
structure EntOk (e : En) : Prop where
  index : 0 ≤ e.index ∧ e.index ≤ 100000
  id : 0 ≤ e.id ∧ e.id ≤ 100000
  name : e.name.size ≤ 24
  hash : e.hash = hashN e.name
theorem entR_app (e : En) (t : List UInt8) (h : EntOk e) : entR ((entT e).data.toList ++ t) = some (e, t) := by
  have e1 : (entT e).data.toList = varB e.index ++ (pieB e.name ++ varB e.id) := by unfold entT pieB varB; simp
  unfold entR
  rw [e1, List.append_assoc, List.append_assoc, numR_var _ _ h.index.1 (by have := h.index.2; omega)]
  simp only [Option.bind_some]
  rw [pieR_app _ _ (by have := h.name; omega)]
  simp only [Option.bind_some]
  rw [numR_var _ _ h.id.1 (by have := h.id.2; omega)]
  simp only [Option.bind_some, bA_of]
  rw [← h.hash]
theorem entsR_app : ∀ (l : List En) (t : List UInt8), (∀ e ∈ l, EntOk e) → entsR l.length ((entsT l).data.toList ++ t) = some (l, t)
  | [], t, _ => by simp [entsR, entsT]
  | e :: l, t, h => by
    have e1 : (entsT (e :: l)).data.toList ++ t = (entT e).data.toList ++ ((entsT l).data.toList ++ t) := by simp [entsT]
    rw [List.length_cons, entsR, e1, entR_app e _ (h e (by simp))]
    simp only [Option.bind_some]
    rw [entsR_app l t fun x hx => h x (by simp [hx])]
    rfl
/-- an inode as it is read anew -/
structure InoOk (y : Ino) : Prop where
  id : 0 ≤ y.id ∧ y.id ≤ 100000
  kind : 0 ≤ y.kind ∧ y.kind ≤ 100000
  links : 0 ≤ y.links ∧ y.links ≤ 100000
  data : y.data.size ≤ 20
  ents : ∀ e ∈ y.ents, EntOk e
  len : y.ents.length ≤ 12
/-- an inode's bytes -/
theorem inoT_list (y : Ino) : (inoT y).data.toList = 105 :: (varB y.id ++ (varB y.kind ++ (varB y.links ++ (pieB y.data ++ (varB y.ents.length ++ (entsT y.ents).data.toList))))) := by
  unfold inoT inoH varB pieB; simp
theorem inoRd_app (y : Ino) (h : InoOk y) : inoRd (inoT y).data.toList = some y := by
  have he := entsR_app y.ents [] h.ents
  rw [List.append_nil] at he
  rw [inoT_list]
  unfold inoRd
  rw [mrkR_cons]
  simp only [Option.bind_some]
  rw [numR_var _ _ h.id.1 (by have := h.id.2; omega)]
  simp only [Option.bind_some]
  rw [numR_var _ _ h.kind.1 (by have := h.kind.2; omega)]
  simp only [Option.bind_some]
  rw [numR_var _ _ h.links.1 (by have := h.links.2; omega)]
  simp only [Option.bind_some]
  rw [pieR_app _ _ (by have := h.data; omega)]
  simp only [Option.bind_some]
  rw [numR_var _ _ (by omega) (by have := h.len; omega)]
  simp only [Option.bind_some]
  rw [Int.toNat_natCast, he]
  simp only [Option.bind_some, bA_of]
theorem headT_list (x : Vo) : (headT x).data.toList = 117 :: (varB x.next ++ varB x.ins.length) := by unfold headT varB; simp
theorem headRd_app (x : Vo) (h0 : 0 ≤ x.next) (h1 : x.next ≤ 100000) (h2 : x.ins.length ≤ 100000) : headRd (headT x).data.toList = some (x.next, (x.ins.length : Int)) := by
  rw [headT_list]
  unfold headRd
  rw [mrkR_cons]
  simp only [Option.bind_some]
  rw [numR_var _ _ h0 (by omega)]
  simp only [Option.bind_some]
  have h := numR_var (x.ins.length : Int) [] (by omega) (by omega)
  rw [List.append_nil] at h
  rw [h]
  rfl
theorem inosRd_map : ∀ (l : List Ino), (∀ y ∈ l, InoOk y) → inosRd (l.map inoT) = some l
  | [], _ => rfl
  | y :: l, h => by
    rw [List.map_cons, inosRd, inoRd_app y (h y (by simp))]
    simp only [Option.bind_some]
    rw [inosRd_map l fun x hx => h x (by simp [hx])]
    rfl
theorem slots_take (x : Vo) (h : x.ins.length ≤ 16) : ((blocksN x).drop 1).take x.ins.length = x.ins.map inoT := by
  apply List.ext_getElem
  · simp [blocksN]; omega
  · intro i h1 h2
    have hi : i < x.ins.length := by simpa using h2
    simp only [blocksN, List.drop_succ_cons, List.drop_zero, List.getElem_take, List.getElem_map, List.getElem_range]
    unfold slotT
    rw [if_pos hi, getElem!_pos x.ins i hi]
theorem volRd_blocks (x : Vo) (h0 : 0 ≤ x.next) (h1 : x.next ≤ 100000) (h2 : x.ins.length ≤ 16) (h : ∀ y ∈ x.ins, InoOk y) : volRd (blocksN x) = some x := by
  unfold volRd
  have e : (blocksN x)[0]! = headT x := rfl
  rw [e, headRd_app x h0 h1 (by omega)]
  simp only [Option.bind_some]
  rw [Int.toNat_natCast, Nat.min_eq_left h2, slots_take x h2, inosRd_map x.ins h]
  rfl

/-! right volumes -/
theorem cntE_le (d : List En) (id : Int) : cntN d id ≤ d.length := by unfold cntN; exact List.countP_le_length
theorem named_le {v : Vo} (h : ∀ y ∈ v.ins, y.ents.length ≤ 12) (id : Int) : namedV v id ≤ 12 * v.ins.length := by
  unfold namedV
  generalize v.ins = l at h
  induction l with
  | nil => simp
  | cons y l ih =>
    rw [List.map_cons, List.sum_cons, List.length_cons]
    have h1 := cntE_le y.ents id
    have h2 := h y (by simp)
    have h3 := ih fun x hx => h x (by simp [hx])
    omega
theorem right_ok {v : Vo} (h : RightV v) {p : Ino} (hp : p ∈ v.ins) : InoOk p := by
  have hs := right_small h hp
  have hi := h.ids p hp
  have hx := h.next
  have hn := named_le (fun y hy => (right_small h hy).len) p.id
  have hl := h.len
  by_cases hk : p.kind = 2
  · obtain ⟨h1, h2, h3, -⟩ := dir_of h hp hk
    refine ⟨by omega, by omega, by omega, by omega, fun e he => ?_, hs.len⟩
    have h4 := entB_iff.1 (h3.each e he)
    exact ⟨by omega, by omega, names_le h4.1, h4.2.1⟩
  · obtain ⟨h1, h2, h3, h4⟩ := file_of h hp hk
    exact ⟨by omega, by omega, by omega, h3, fun e he => (by rw [h2] at he; cases he), hs.len⟩
theorem blocksN_size {v : Vo} (h : RightV v) : ∀ t ∈ blocksN v, t.size ≤ 600 := fun t ht => by
  unfold blocksN at ht
  rcases List.mem_cons.1 ht with rfl | ht
  · have := headT_size v; omega
  · obtain ⟨i, _, rfl⟩ := List.mem_map.1 ht
    unfold slotT
    split
    · rename_i hi
      exact inoT_size (right_small h (by rw [getElem!_pos v.ins i hi]; exact List.getElem_mem hi))
    · simp [ByteArray.size]
theorem volRd_right {v : Vo} (h : RightV v) : volRd (blocksN v) = some v := volRd_blocks v (by have := h.next; omega) (by have := h.next; omega) h.len fun y hy => right_ok h hy
theorem blocks_inj {a b : Vo} (ha : RightV a) (hb : RightV b) (h : blocksN a = blocksN b) : a = b := by
  have h1 := volRd_right ha
  rw [h, volRd_right hb] at h1
  exact (Option.some.inj h1).symm
end

section
open Go.RowKit

def entS (l : List UInt8) (p : Int) : Option (En × Int) :=
  if (varsS l 1 (takS l (varsS l 1 p).2).2).2 < 0 then none else some (⟨hashN (bA (takS l (varsS l 1 p).2).1), (varsS l 1 p).1[0]!, bA (takS l (varsS l 1 p).2).1, (varsS l 1 (takS l (varsS l 1 p).2).2).1[0]!⟩, (varsS l 1 (takS l (varsS l 1 p).2).2).2)
def entsS (l : List UInt8) : Nat → Int → Option (List En × Int)
  | 0, p => some ([], p)
  | n + 1, p => (entS l p).bind fun e => (entsS l n e.2).bind fun r => some (e.1 :: r.1, r.2)
def parS (l : List UInt8) : Option Ino :=
  if (varsS l 1 (takS l (varsS l 3 1).2).2).2 < 0 ∨ 12 < (varsS l 1 (takS l (varsS l 3 1).2).2).1[0]! then none else
    (entsS l (varsS l 1 (takS l (varsS l 3 1).2).2).1[0]!.toNat (varsS l 1 (takS l (varsS l 3 1).2).2).2).bind fun e => if e.2 = l.length then some ⟨(varsS l 3 1).1[0]!, (varsS l 3 1).1[1]!, (varsS l 3 1).1[2]!, bA (takS l (varsS l 3 1).2).1, e.1⟩ else none
def inosS : List ByteArray → Option (List Ino)
  | [] => some []
  | t :: l => (parS t.data.toList).bind fun y => (inosS l).bind fun r => some (y :: r)
def volS (L : List ByteArray) : Option Vo :=
  if (varsS L[0]!.data.toList 2 1).2 < 0 ∨ 16 < (varsS L[0]!.data.toList 2 1).1[1]! then none else
    (inosS ((L.drop 1).take (varsS L[0]!.data.toList 2 1).1[1]!.toNat)).bind fun r => some ⟨(varsS L[0]!.data.toList 2 1).1[0]!, r⟩

theorem entT_list (e : En) : (entT e).data.toList = varB e.index ++ (pieB e.name ++ varB e.id) := by unfold entT pieB varB; simp
theorem ent_at {l : List UInt8} {p : Nat} {e : En} {t : List UInt8} (h : Rest l p ((entT e).data.toList ++ t)) (he : EntOk e) :
    entS l (p : Int) = some (e, ((p + (entT e).data.toList.length : Nat) : Int)) := by
  have e1 := entT_list e
  have h2 := h
  rw [e1, List.append_assoc, List.append_assoc] at h
  have v1 := vars_one h he.index.1 (by have := he.index.2; omega)
  have h3 := h.next
  have v2 := tak_at h3 (by have := he.name; omega)
  have h4 := h3.next
  have v3 := vars_one h4 he.id.1 (by have := he.id.2; omega)
  unfold entS
  rw [v1]
  simp only
  rw [v2]
  simp only
  rw [v3]
  simp only
  rw [if_neg (by omega), bA_of, ← he.hash]
  have e0 : ∀ z : Int, ([z] : List Int)[0]! = z := fun _ => rfl
  rw [e0, e0, e1, List.length_append, List.length_append]
  rw [show p + (varB e.index).length + (pieB e.name).length + (varB e.id).length = p + ((varB e.index).length + ((pieB e.name).length + (varB e.id).length)) by omega]
theorem ents_at : ∀ (d : List En) {l : List UInt8} {p : Nat} {t : List UInt8}, Rest l p ((entsT d).data.toList ++ t) → (∀ e ∈ d, EntOk e) → entsS l d.length (p : Int) = some (d, ((p + (entsT d).data.toList.length : Nat) : Int))
  | [], l, p, t, h, _ => by simp [entsS, entsT]
  | e :: d, l, p, t, h, hd => by
    have e1 : (entsT (e :: d)).data.toList = (entT e).data.toList ++ (entsT d).data.toList := by simp [entsT]
    rw [e1, List.append_assoc] at h
    rw [List.length_cons, entsS, ent_at h (hd e (by simp))]
    simp only [Option.bind_some]
    rw [ents_at d h.next fun x hx => hd x (by simp [hx])]
    simp only [Option.bind_some]
    rw [e1, List.length_append]
    rw [show p + (entT e).data.toList.length + (entsT d).data.toList.length = p + ((entT e).data.toList.length + (entsT d).data.toList.length) by omega]
theorem par_app (y : Ino) (h : InoOk y) : parS (inoT y).data.toList = some y := by
  have hL := inoT_list y
  generalize hG : (inoT y).data.toList = l at hL
  have r1 : Rest l 1 (varB y.id ++ (varB y.kind ++ (varB y.links ++ (pieB y.data ++ (varB y.ents.length ++ (entsT y.ents).data.toList))))) := ⟨by rw [hL]; simp, by rw [hL]; simp⟩
  have r2 := r1.next
  have r3 := r2.next
  have r4 := r3.next
  have r5 := r4.next
  have r6 := r5.next
  have v1 : varsS l 3 ((1 : Nat) : Int) = ([y.id, y.kind, y.links], ((1 + (varB y.id).length + (varB y.kind).length + (varB y.links).length : Nat) : Int)) := by
    rw [vars_step r1 h.id.1 (by have := h.id.2; omega), vars_step r2 h.kind.1 (by have := h.kind.2; omega), vars_step r3 h.links.1 (by have := h.links.2; omega)]
    rfl
  have v2 := tak_at r4 (by have := h.data; omega)
  have v3 := vars_one r5 (by omega) (by have := h.len; omega)
  have r6' := r6
  rw [← List.append_nil (entsT y.ents).data.toList] at r6'
  have v4 := ents_at y.ents r6' h.ents
  have hend := congrArg List.length r6.eq
  rw [List.length_drop] at hend
  have hle := r6.le
  unfold parS
  rw [show (1 : Int) = ((1 : Nat) : Int) by rfl, v1]
  simp only
  rw [v2]
  simp only
  rw [v3]
  simp only
  have e0 : ∀ z : Int, ([z] : List Int)[0]! = z := fun _ => rfl
  have hlen := h.len
  rw [e0, if_neg (by omega), Int.toNat_natCast, v4]
  simp only [Option.bind_some]
  rw [if_pos (by omega), bA_of]
  rfl
theorem inosS_map : ∀ (l : List Ino), (∀ y ∈ l, InoOk y) → inosS (l.map inoT) = some l
  | [], _ => rfl
  | y :: l, h => by
    rw [List.map_cons, inosS, par_app y (h y (by simp))]
    simp only [Option.bind_some]
    rw [inosS_map l fun x hx => h x (by simp [hx])]
    rfl
theorem volS_right {v : Vo} (h : RightV v) : volS (blocksN v) = some v := by
  have hx := h.next
  have hl := h.len
  have hL := headT_list v
  have r1 : Rest (headT v).data.toList 1 (varB v.next ++ (varB v.ins.length ++ [])) := ⟨by rw [hL]; simp, by rw [hL]; simp⟩
  have r2 := r1.next
  have v1 : varsS (headT v).data.toList 2 ((1 : Nat) : Int) = ([v.next, (v.ins.length : Int)], ((1 + (varB v.next).length + (varB v.ins.length).length : Nat) : Int)) := by
    rw [vars_step r1 (by omega) (by omega), vars_step r2 (by omega) (by omega)]
    rfl
  unfold volS
  have e : (blocksN v)[0]! = headT v := rfl
  rw [e, show (1 : Int) = ((1 : Nat) : Int) by rfl, v1]
  simp only
  have e1 : ([v.next, (v.ins.length : Int)] : List Int)[1]! = (v.ins.length : Int) := rfl
  have e2 : ([v.next, (v.ins.length : Int)] : List Int)[0]! = v.next := rfl
  rw [e1, e2, if_neg (by omega), Int.toNat_natCast, slots_take v hl, inosS_map v.ins fun y hy => right_ok h hy]
  rfl

/-- the right volume of which these are the blocks -/
noncomputable def readN (L : List ByteArray) : Option Vo := open Classical in if h : ∃ v, RightV v ∧ blocksN v = L then some h.choose else none
theorem readN_some {L : List ByteArray} {v : Vo} (h : RightV v) (hb : blocksN v = L) : readN L = some v := by
  unfold readN
  have hex : ∃ v, RightV v ∧ blocksN v = L := ⟨v, h, hb⟩
  rw [dif_pos hex]
  exact congrArg some (blocks_inj hex.choose_spec.1 h (hex.choose_spec.2.trans hb.symm))
theorem readN_none {L : List ByteArray} (h : ∀ v, RightV v → blocksN v ≠ L) : readN L = none := by
  unfold readN
  exact dif_neg fun ⟨v, h1, h2⟩ => h v h1 h2
theorem readN_is {L : List ByteArray} {v : Vo} (h : readN L = some v) : RightV v ∧ blocksN v = L := by
  unfold readN at h
  split at h
  · rename_i hex
    cases h
    exact hex.choose_spec
  · cases h
/-- where the specification's reading says nothing, nor where its volume has other blocks, there is none -/
theorem readN_S {L : List ByteArray} (h : ∀ v, volS L = some v → volBlocksN v ≠ L) : readN L = none := readN_none fun v hv hb => by
  have h1 := volS_right hv
  rw [hb] at h1
  refine h v h1 ?_
  unfold volBlocksN
  rw [if_pos (rightB_iff.2 hv), hb]
theorem readN_R {L : List ByteArray} (h : ∀ v, volRd L = some v → volBlocksN v ≠ L) : readN L = none := readN_none fun v hv hb => by
  have h1 := volRd_right hv
  rw [hb] at h1
  refine h v h1 ?_
  unfold volBlocksN
  rw [if_pos (rightB_iff.2 hv), hb]
theorem readN_yes {L : List ByteArray} {v : Vo} (hL : L ≠ []) (h : volBlocksN v = L) : readN L = some v := by
  unfold volBlocksN at h
  split at h
  · rename_i hr; exact readN_some (rightB_iff.1 hr) h
  · exact absurd h.symm hL
end

end Go.Proofs.YtpijjinoeghgoaaGreatDoor
