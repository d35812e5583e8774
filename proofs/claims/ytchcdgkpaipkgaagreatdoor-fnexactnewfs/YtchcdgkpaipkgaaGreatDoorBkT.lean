/- Blocks: the texts of a volume. Pure. -/
import Derived.Test.YtchcdgkpaipkgaaGreatDoorRows
import Derived.Test.YtchcdgkpaipkgaaGreatDoorMvr
import Derived.Test.YtchcdgkpaipkgaaGreatDoorNb
namespace Go.Proofs.YtchcdgkpaipkgaaGreatDoor
open Go.RowKit

def entT (e : En) : ByteArray := varT e.index ++ pieceT e.name ++ varT e.id
def entsT : List En → ByteArray
  | [] => ⟨#[]⟩
  | e :: l => entT e ++ entsT l
theorem entsT_snoc (l : List En) (e : En) : entsT (l ++ [e]) = entsT l ++ entT e := by
  induction l with
  | nil => simp only [List.nil_append, entsT]; rw [app_nil]; exact (list_ext (by simp))
  | cons x l ih => simp only [List.cons_append, entsT, ih, app_assoc]
theorem entT_size (e : En) (h : e.name.size ≤ 24) : (entT e).size ≤ 45 := by
  unfold entT
  rw [app_size, app_size]
  have := varT_size e.index
  have := varT_size e.id
  have := pieceT_size e.name
  omega
theorem entsT_size (l : List En) (h : ∀ e ∈ l, e.name.size ≤ 24) : (entsT l).size ≤ 45 * l.length := by
  induction l with
  | nil => simp [entsT, ByteArray.size]
  | cons e l ih =>
    simp only [entsT]
    rw [app_size, List.length_cons]
    have := entT_size e (h e (by simp))
    have := ih fun x hx => h x (by simp [hx])
    omega
def inoH (y : Ino) : ByteArray := (⟨#[105]⟩ : ByteArray) ++ varT y.id ++ varT y.kind ++ varT y.links ++ pieceT y.data ++ varT y.ents.length
theorem inoH_size (y : Ino) : (inoH y).size ≤ 36 + y.data.size := by
  unfold inoH
  simp only [app_size]
  have := varT_size y.id
  have := varT_size y.kind
  have := varT_size y.links
  have := pieceT_size y.data
  have := varT_size y.ents.length
  have : (⟨#[105]⟩ : ByteArray).size = 1 := rfl
  omega
def inoT (y : Ino) : ByteArray := inoH y ++ entsT y.ents
def headT (x : Vo) : ByteArray := (⟨#[117]⟩ : ByteArray) ++ varT x.next ++ varT x.ins.length
theorem headT_size (x : Vo) : (headT x).size ≤ 15 := by
  unfold headT
  simp only [app_size]
  have := varT_size x.next
  have := varT_size x.ins.length
  have : (⟨#[117]⟩ : ByteArray).size = 1 := rfl
  omega
/-- the text at place 1 + i -/
def slotT (x : Vo) (i : Nat) : ByteArray := if i < x.ins.length then inoT x.ins[i]! else ⟨#[]⟩
def blocksN (x : Vo) : List ByteArray := headT x :: (List.range 16).map (slotT x)
theorem blocksN_len (x : Vo) : (blocksN x).length = 17 := by simp [blocksN]
noncomputable def volBlocksN (x : Vo) : List ByteArray := if rightB x = true then blocksN x else []
theorem volBlocksN_len (x : Vo) : (volBlocksN x).length ≤ 17 := by
  unfold volBlocksN; split
  · rw [blocksN_len]; omega
  · simp

/-- an inode with few entries and short texts -/
structure InoS (y : Ino) : Prop where
  len : y.ents.length ≤ 12
  names : ∀ e ∈ y.ents, e.name.size ≤ 24
  data : y.data.size ≤ 20
theorem inoT_size {y : Ino} (h : InoS y) : (inoT y).size ≤ 600 := by
  unfold inoT
  rw [app_size]
  have := inoH_size y
  have := entsT_size y.ents h.names
  have := h.len
  have := h.data
  omega
theorem names_le {s : ByteArray} (h : (nameL s).isSome = true) : s.size ≤ 24 := by
  cases hc : inB (s.size : Int) 1 24 with
  | false => rw [nameL_short hc] at h; simp at h
  | true => unfold inB at hc; simp only [Bool.and_eq_true, decide_eq_true_eq] at hc; omega
theorem right_small {v : Vo} (h : RightV v) {p : Ino} (hp : p ∈ v.ins) : InoS p := by
  by_cases hk : p.kind = 2
  · obtain ⟨h1, -, h3, -⟩ := dir_of h hp hk
    exact ⟨h3.len, fun e he => names_le (entB_iff.1 (h3.each e he)).1, by omega⟩
  · obtain ⟨h1, h2, h3, -⟩ := file_of h hp hk
    exact ⟨by rw [h2]; simp, fun e he => (by rw [h2] at he; cases he), by omega⟩

end Go.Proofs.YtchcdgkpaipkgaaGreatDoor
