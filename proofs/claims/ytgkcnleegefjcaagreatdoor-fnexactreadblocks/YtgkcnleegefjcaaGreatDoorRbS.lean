/- Blocks: how the specification reads texts. Pure. -/
import Derived.Test.YtgkcnleegefjcaaGreatDoorRbN
namespace Go.Proofs.YtgkcnleegefjcaaGreatDoor
open Go.RowKit

def varsS (l : List UInt8) : Nat → Int → List Int × Int
  | 0, p => ([], p)
  | n + 1, p => if p < 0 ∨ (l.length : Int) < p then ([], -1) else if rdK (l.drop p.toNat) = 0 then ([], -1) else
    (rdN (l.drop p.toNat) :: (varsS l n (p + rdK (l.drop p.toNat))).1, (varsS l n (p + rdK (l.drop p.toNat))).2)
def takS (l : List UInt8) (p : Int) : List UInt8 × Int :=
  if (varsS l 1 p).2 < 0 ∨ (l.length : Int) - (varsS l 1 p).2 < (varsS l 1 p).1[0]! then ([], -1) else ((l.drop (varsS l 1 p).2.toNat).take (varsS l 1 p).1[0]!.toNat, (varsS l 1 p).2 + (varsS l 1 p).1[0]!)
def entS (l : List UInt8) (p : Int) : Option (En × Int) :=
  if (varsS l 1 (takS l (varsS l 1 p).2).2).2 < 0 then none else some (⟨hashN (bA (takS l (varsS l 1 p).2).1), (varsS l 1 p).1[0]!, bA (takS l (varsS l 1 p).2).1, (varsS l 1 (takS l (varsS l 1 p).2).2).1[0]!⟩, (varsS l 1 (takS l (varsS l 1 p).2).2).2)
def entsS (l : List UInt8) : Nat → Int → Option (List En × Int)
  | 0, p => some ([], p)
  | n + 1, p => (entS l p).bind fun e => (entsS l n e.2).bind fun r => some (e.1 :: r.1, r.2)
def parS (l : List UInt8) : Option Ino :=
  if (varsS l 1 (takS l (varsS l 3 1).2).2).2 < 0 ∨ 12 < (varsS l 1 (takS l (varsS l 3 1).2).2).1[0]! then none else
    (entsS l (varsS l 1 (takS l (varsS l 3 1).2).2).1[0]!.toNat (varsS l 1 (takS l (varsS l 3 1).2).2).2).bind fun e => if e.2 = l.length then some ⟨(varsS l 3 1).1[0]!, (varsS l 3 1).1[1]!, (varsS l 3 1).1[2]!, bA (takS l (varsS l 3 1).2).1, e.1⟩ else none
def inosS : List ByteArray → Option (List Ino)
  | [] => some []
  | t :: l => (parS t.data.toList).bind fun y => (inosS l).bind fun r => some (y :: r)
def volS (L : List ByteArray) : Option Vo :=
  if (varsS L[0]!.data.toList 2 1).2 < 0 ∨ 16 < (varsS L[0]!.data.toList 2 1).1[1]! then none else
    (inosS ((L.drop 1).take (varsS L[0]!.data.toList 2 1).1[1]!.toNat)).bind fun r => some ⟨(varsS L[0]!.data.toList 2 1).1[0]!, r⟩

/-- t stands at place p -/
structure Rest (l : List UInt8) (p : Nat) (t : List UInt8) : Prop where
  le : p ≤ l.length
  eq : l.drop p = t
theorem Rest.next {l : List UInt8} {p : Nat} {a t : List UInt8} (h : Rest l p (a ++ t)) : Rest l (p + a.length) t := by
  have h1 := congrArg List.length h.eq
  rw [List.length_drop, List.length_append] at h1
  have := h.le
  refine ⟨by omega, ?_⟩
  rw [← List.drop_drop, h.eq]; simp
theorem vars_step {l : List UInt8} {p : Nat} {n : Int} {t : List UInt8} (h : Rest l p (varB n ++ t)) (h0 : 0 ≤ n) (h1 : n ≤ 562949953421311) (m : Nat) :
    varsS l (m + 1) (p : Int) = (n :: (varsS l m ((p + (varB n).length : Nat) : Int)).1, (varsS l m ((p + (varB n).length : Nat) : Int)).2) := by
  have hle := h.le
  rw [varsS, if_neg (by omega), Int.toNat_natCast, h.eq, varB_is h0 h1]
  have hr := rd_var n t h0 h1
  have hp := varL_pos 6 n
  rw [hr.1, hr.2, if_neg (by omega)]
  rw [show (p : Int) + ((varL 6 n).length : Int) = ((p + (varL 6 n).length : Nat) : Int) by omega]
theorem vars_one {l : List UInt8} {p : Nat} {n : Int} {t : List UInt8} (h : Rest l p (varB n ++ t)) (h0 : 0 ≤ n) (h1 : n ≤ 562949953421311) :
    varsS l 1 (p : Int) = ([n], ((p + (varB n).length : Nat) : Int)) := by
  rw [vars_step h h0 h1]; rfl
theorem tak_at {l : List UInt8} {p : Nat} {s : ByteArray} {t : List UInt8} (h : Rest l p (pieB s ++ t)) (hs : s.size ≤ 1048576) :
    takS l (p : Int) = (s.data.toList, ((p + (pieB s).length : Nat) : Int)) := by
  have h2 := h
  rw [pieB_is, List.append_assoc] at h
  have hv := vars_one h (by omega) (by omega)
  have hn := h.next
  have hl := congrArg List.length hn.eq
  have hle := hn.le
  rw [List.length_drop, List.length_append, size_list] at hl
  unfold takS
  rw [hv]
  have e0 : ([(s.size : Int)] : List Int)[0]! = (s.size : Int) := rfl
  simp only [e0]
  rw [if_neg (by omega), Int.toNat_natCast, Int.toNat_natCast, hn.eq]
  refine Prod.ext ?_ ?_
  · show ((s.data.toList ++ t).take s.size) = _
    rw [← size_list s]; simp
  · show ((p + (varB s.size).length : Nat) : Int) + (s.size : Int) = _
    rw [pieB_is, List.length_append, size_list]; omega
theorem entT_list (e : En) : (entT e).data.toList = varB e.index ++ (pieB e.name ++ varB e.id) := by unfold entT pieB varB; simp
theorem ent_at {l : List UInt8} {p : Nat} {e : En} {t : List UInt8} (h : Rest l p ((entT e).data.toList ++ t)) (he : EntOk e) :
    entS l (p : Int) = some (e, ((p + (entT e).data.toList.length : Nat) : Int)) := by
  have e1 := entT_list e
  have h2 := h
  rw [e1, List.append_assoc, List.append_assoc] at h
  have v1 := vars_one h he.index.1 (by have := he.index.2; omega)
  have h3 := h.next
  have v2 := tak_at h3 (by have := he.name; omega)
  have h4 := h3.next
  have v3 := vars_one h4 he.id.1 (by have := he.id.2; omega)
  unfold entS
  rw [v1]
  simp only
  rw [v2]
  simp only
  rw [v3]
  simp only
  rw [if_neg (by omega), bA_of, ← he.hash]
  have e0 : ∀ z : Int, ([z] : List Int)[0]! = z := fun _ => rfl
  rw [e0, e0, e1, List.length_append, List.length_append]
  rw [show p + (varB e.index).length + (pieB e.name).length + (varB e.id).length = p + ((varB e.index).length + ((pieB e.name).length + (varB e.id).length)) by omega]
theorem ents_at : ∀ (d : List En) {l : List UInt8} {p : Nat} {t : List UInt8}, Rest l p ((entsT d).data.toList ++ t) → (∀ e ∈ d, EntOk e) → entsS l d.length (p : Int) = some (d, ((p + (entsT d).data.toList.length : Nat) : Int))
  | [], l, p, t, h, _ => by simp [entsS, entsT]
  | e :: d, l, p, t, h, hd => by
    have e1 : (entsT (e :: d)).data.toList = (entT e).data.toList ++ (entsT d).data.toList := by simp [entsT]
    rw [e1, List.append_assoc] at h
    rw [List.length_cons, entsS, ent_at h (hd e (by simp))]
    simp only [Option.bind_some]
    rw [ents_at d h.next fun x hx => hd x (by simp [hx])]
    simp only [Option.bind_some]
    rw [e1, List.length_append]
    rw [show p + (entT e).data.toList.length + (entsT d).data.toList.length = p + ((entT e).data.toList.length + (entsT d).data.toList.length) by omega]
theorem par_app (y : Ino) (h : InoOk y) : parS (inoT y).data.toList = some y := by
  have hL := inoT_list y
  generalize hG : (inoT y).data.toList = l at hL
  have r1 : Rest l 1 (varB y.id ++ (varB y.kind ++ (varB y.links ++ (pieB y.data ++ (varB y.ents.length ++ (entsT y.ents).data.toList))))) := ⟨by rw [hL]; simp, by rw [hL]; simp⟩
  have r2 := r1.next
  have r3 := r2.next
  have r4 := r3.next
  have r5 := r4.next
  have r6 := r5.next
  have v1 : varsS l 3 ((1 : Nat) : Int) = ([y.id, y.kind, y.links], ((1 + (varB y.id).length + (varB y.kind).length + (varB y.links).length : Nat) : Int)) := by
    rw [vars_step r1 h.id.1 (by have := h.id.2; omega), vars_step r2 h.kind.1 (by have := h.kind.2; omega), vars_step r3 h.links.1 (by have := h.links.2; omega)]
    rfl
  have v2 := tak_at r4 (by have := h.data; omega)
  have v3 := vars_one r5 (by omega) (by have := h.len; omega)
  have r6' := r6
  rw [← List.append_nil (entsT y.ents).data.toList] at r6'
  have v4 := ents_at y.ents r6' h.ents
  have hend := congrArg List.length r6.eq
  rw [List.length_drop] at hend
  have hle := r6.le
  unfold parS
  rw [show (1 : Int) = ((1 : Nat) : Int) by rfl, v1]
  simp only
  rw [v2]
  simp only
  rw [v3]
  simp only
  have e0 : ∀ z : Int, ([z] : List Int)[0]! = z := fun _ => rfl
  have hlen := h.len
  rw [e0, if_neg (by omega), Int.toNat_natCast, v4]
  simp only [Option.bind_some]
  rw [if_pos (by omega), bA_of]
  rfl
theorem inosS_map : ∀ (l : List Ino), (∀ y ∈ l, InoOk y) → inosS (l.map inoT) = some l
  | [], _ => rfl
  | y :: l, h => by
    rw [List.map_cons, inosS, par_app y (h y (by simp))]
    simp only [Option.bind_some]
    rw [inosS_map l fun x hx => h x (by simp [hx])]
    rfl
theorem volS_right {v : Vo} (h : RightV v) : volS (blocksN v) = some v := by
  have hx := h.next
  have hl := h.len
  have hL := headT_list v
  have r1 : Rest (headT v).data.toList 1 (varB v.next ++ (varB v.ins.length ++ [])) := ⟨by rw [hL]; simp, by rw [hL]; simp⟩
  have r2 := r1.next
  have v1 : varsS (headT v).data.toList 2 ((1 : Nat) : Int) = ([v.next, (v.ins.length : Int)], ((1 + (varB v.next).length + (varB v.ins.length).length : Nat) : Int)) := by
    rw [vars_step r1 (by omega) (by omega), vars_step r2 (by omega) (by omega)]
    rfl
  unfold volS
  have e : (blocksN v)[0]! = headT v := rfl
  rw [e, show (1 : Int) = ((1 : Nat) : Int) by rfl, v1]
  simp only
  have e1 : ([v.next, (v.ins.length : Int)] : List Int)[1]! = (v.ins.length : Int) := rfl
  have e2 : ([v.next, (v.ins.length : Int)] : List Int)[0]! = v.next := rfl
  rw [e1, e2, if_neg (by omega), Int.toNat_natCast, slots_take v hl, inosS_map v.ins fun y hy => right_ok h hy]
  rfl

/-- the right volume of which these are the blocks -/
noncomputable def readN (L : List ByteArray) : Option Vo := open Classical in if h : ∃ v, RightV v ∧ blocksN v = L then some h.choose else none
theorem readN_some {L : List ByteArray} {v : Vo} (h : RightV v) (hb : blocksN v = L) : readN L = some v := by
  unfold readN
  have hex : ∃ v, RightV v ∧ blocksN v = L := ⟨v, h, hb⟩
  rw [dif_pos hex]
  exact congrArg some (blocks_inj hex.choose_spec.1 h (hex.choose_spec.2.trans hb.symm))
theorem readN_none {L : List ByteArray} (h : ∀ v, RightV v → blocksN v ≠ L) : readN L = none := by
  unfold readN
  exact dif_neg fun ⟨v, h1, h2⟩ => h v h1 h2
theorem readN_is {L : List ByteArray} {v : Vo} (h : readN L = some v) : RightV v ∧ blocksN v = L := by
  unfold readN at h
  split at h
  · rename_i hex
    cases h
    exact hex.choose_spec
  · cases h
/-- where the specification's reading says nothing, nor where its volume has other blocks, there is none -/
theorem readN_S {L : List ByteArray} (h : ∀ v, volS L = some v → volBlocksN v ≠ L) : readN L = none := readN_none fun v hv hb => by
  have h1 := volS_right hv
  rw [hb] at h1
  refine h v h1 ?_
  unfold volBlocksN
  rw [if_pos (rightB_iff.2 hv), hb]
theorem readN_R {L : List ByteArray} (h : ∀ v, volRd L = some v → volBlocksN v ≠ L) : readN L = none := readN_none fun v hv hb => by
  have h1 := volRd_right hv
  rw [hb] at h1
  refine h v h1 ?_
  unfold volBlocksN
  rw [if_pos (rightB_iff.2 hv), hb]
theorem readN_yes {L : List ByteArray} {v : Vo} (hL : L ≠ []) (h : volBlocksN v = L) : readN L = some v := by
  unfold volBlocksN at h
  split at h
  · rename_i hr; exact readN_some (rightB_iff.1 hr) h
  · exact absurd h.symm hL

end Go.Proofs.YtgkcnleegefjcaaGreatDoor
