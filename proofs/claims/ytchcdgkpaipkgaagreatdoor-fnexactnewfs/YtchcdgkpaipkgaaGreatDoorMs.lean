/- Directories: spec.l5Drop, Drop: what they answer. Directories: spec.l5Respell, Drop, Respell: what they answer. Directories: spec.Drop, Respell: what they answer. Directories: spec.l5Add: what it answers. Directories: spec.l5Add: the walk. Directories: spec.l5Add: the walk where an entry is added. Directories: spec.Add: what it answers. -/
import Derived.Test.YtchcdgkpaipkgaaGreatDoorRows
import Derived.Test.YtchcdgkpaipkgaaGreatDoorMr
import Derived.Test.YtchcdgkpaipkgaaGreatDoorMq
namespace Go.Proofs.YtchcdgkpaipkgaaGreatDoor

section
open Go.RowKit

theorem ents_take {w : World} {g o n cap' : Nat} {d : List En} (hva : ∀ t, t < n → CellsE w g (o + t * 4) d[t]!) (hg : g < w.heap.size) (hn : n = d.length) (i : Nat) (hi : i ≤ n) : EntsAt w (.slice (some ⟨g, o, none⟩) i cap') (d.take i) := by
  refine ⟨_, _, by rw [List.length_take]; congr; omega, fun h => (by cases h), fun t ht => ⟨g, o, rfl, hg, ?_⟩⟩
  rw [List.length_take] at ht
  have e : (d.take i)[t]! = d[t]! := by
    rw [getElem!_pos _ t (by rw [List.length_take]; exact ht), getElem!_pos d t (by omega), List.getElem_take]
  rw [e]; exact hva t (by omega)
theorem ents_drop {w : World} {g o n cap : Nat} {d : List En} (hva : ∀ t, t < n → CellsE w g (o + t * 4) d[t]!) (hg : g < w.heap.size) (hn : n = d.length) (i m : Nat) (hi : i ≤ n) (hm : m = n - i) (o' : Nat) (ho : m = 0 ∨ o' = o + i * 4) : EntsAt w (.slice (some ⟨g, o', none⟩) m cap) (d.drop i) := by
  refine ⟨_, _, by rw [List.length_drop, hm, hn], fun h => (by cases h), fun t ht => ⟨g, o', rfl, hg, ?_⟩⟩
  rw [List.length_drop] at ht
  have e : (d.drop i)[t]! = d[i + t]! := by
    rw [getElem!_pos _ t (by rw [List.length_drop]; exact ht), getElem!_pos d (i + t) (by omega), List.getElem_drop]
  rcases ho with h0 | rfl
  · omega
  · rw [e, show o + i * 4 + t * 4 = o + (i + t) * 4 by omega]; exact hva (i + t) (by omega)

def dropL (d : List En) (s : ByteArray) : List En := match atN d s with | some i => d.eraseIdx i | none => d
theorem dropN_eq {d : List En} (hr : dirB d = true) (s : ByteArray) : dropN d s = (dropL d s, (atN d s).isSome) := by
  unfold dropN dropL; rw [if_pos hr]; cases atN d s <;> rfl
end

section
open Go.RowKit

theorem flatE_set2 : ∀ (l : List En) (t : Nat) (s : ByteArray) (id : Int), t < l.length → ((flatE l).set (t * 4 + 2) (.string s)).set (t * 4 + 3) (.int .i64 id) = flatE (l.set t (respE l[t]! s id))
  | [], t, s, id, h => by simp at h
  | x :: l, 0, s, id, _ => by simp [flatE_cons, encE, respE]
  | x :: l, t + 1, s, id, h => by
    have ih := flatE_set2 l t s id (by simpa using h)
    have e : (x :: l)[t + 1]! = l[t]! := rfl
    rw [e, List.set_cons_succ, flatE_cons, flatE_cons, ← ih]
    simp only [encE, List.cons_append, List.nil_append]
    rw [show (t + 1) * 4 = t * 4 + 1 + 1 + 1 + 1 by omega]
    simp only [List.set_cons_succ]

def respL (d : List En) (s : ByteArray) (id : Int) : List En := match atN d s with | some i => if idB id then d.set i (respE d[i]! s id) else d | none => d
def respB (d : List En) (s : ByteArray) (id : Int) : Bool := (atN d s).isSome && idB id
theorem respN_eq {d : List En} (hr : dirB d = true) (s : ByteArray) (id : Int) : respN d s id = (respL d s id, respB d s id) := by
  unfold respN respL respB; rw [if_pos hr]
  cases atN d s with
  | none => rfl
  | some i => cases h : idB id <;> simp
end

section
open Go.RowKit
end

section
open Go.RowKit

theorem ins_all {l : List En} {e : En} (h : ∀ x ∈ l, lessB x e.hash e.index = true) : insN l e = l ++ [e] := by
  unfold insN
  have h1 := List.takeWhile_append_of_pos (p := fun x => lessB x e.hash e.index) (l₂ := []) h
  have h2 := List.dropWhile_append_of_pos (p := fun x => lessB x e.hash e.index) (l₂ := []) h
  rw [List.append_nil] at h1 h2
  rw [h1, h2]; simp
theorem ins_new {l : List En} {e x : En} (h : ∀ y ∈ l, lessB y e.hash e.index = true) (hx : lessB x e.hash e.index = false) : insN (l ++ [x]) e = l ++ [e] ++ [x] := by
  unfold insN
  rw [List.takeWhile_append_of_pos h, List.dropWhile_append_of_pos h, List.takeWhile_cons, List.dropWhile_cons, hx]
  simp
theorem ins_on {l : List En} {e : En} (h : ∃ y ∈ l, lessB y e.hash e.index = false) (x : En) : insN (l ++ [x]) e = insN l e ++ [x] := by
  induction l with
  | nil => obtain ⟨y, hy, _⟩ := h; cases hy
  | cons z l ih =>
    by_cases hz : lessB z e.hash e.index = true
    · have h' : ∃ y ∈ l, lessB y e.hash e.index = false := by
        obtain ⟨y, hy, h2⟩ := h
        rcases List.mem_cons.1 hy with rfl | hy
        · rw [hz] at h2; cases h2
        · exact ⟨y, hy, h2⟩
      have := ih h'
      unfold insN at this ⊢
      simp only [List.cons_append, List.takeWhile_cons, List.dropWhile_cons, hz, if_true]
      rw [this]
    · have hz' : lessB z e.hash e.index = false := by simpa using hz
      unfold insN
      simp [hz']
/-- has the new entry been put, at place j? -/
def putB (d : List En) (e : En) (j : Nat) : Bool := (d.take j).any fun x => !lessB x e.hash e.index
/-- the row so far -/
def putL (d : List En) (e : En) (j : Nat) : List En := if putB d e j then insN (d.take j) e else d.take j
theorem putB_zero (d : List En) (e : En) : putB d e 0 = false := by unfold putB; simp
theorem putL_zero (d : List En) (e : En) : putL d e 0 = [] := by unfold putL; rw [putB_zero]; simp
theorem ents_snoc {d : List En} {j : Nat} (hj : j < d.length) : d.take (j + 1) = d.take j ++ [d[j]!] := by
  rw [List.take_succ_eq_append_getElem hj, getElem!_pos d j hj]
theorem putB_step {d : List En} {e : En} {j : Nat} (hj : j < d.length) : putB d e (j + 1) = (putB d e j || !lessB d[j]! e.hash e.index) := by
  unfold putB; rw [ents_snoc hj]; simp
theorem put_not {d : List En} {e : En} {j : Nat} (h : putB d e j = false) : ∀ x ∈ d.take j, lessB x e.hash e.index = true := by
  unfold putB at h
  rw [List.any_eq_false] at h
  intro x hx
  simpa using h x hx
theorem put_is {d : List En} {e : En} {j : Nat} (h : putB d e j = true) : ∃ x ∈ d.take j, lessB x e.hash e.index = false := by
  unfold putB at h
  rw [List.any_eq_true] at h
  obtain ⟨x, hx, h2⟩ := h
  exact ⟨x, hx, by simpa using h2⟩
theorem putL_on {d : List En} {e : En} {j : Nat} (hj : j < d.length) (h : putB d e j = true) : putL d e j ++ [d[j]!] = putL d e (j + 1) ∧ putB d e (j + 1) = true := by
  have h2 : putB d e (j + 1) = true := by rw [putB_step hj, h]; rfl
  refine ⟨?_, h2⟩
  unfold putL
  rw [h, h2, if_pos rfl, if_pos rfl, ents_snoc hj, ins_on (put_is h)]
theorem putL_new {d : List En} {e : En} {j : Nat} (hj : j < d.length) (h : putB d e j = false) (hx : lessB d[j]! e.hash e.index = false) : putL d e j ++ [e] ++ [d[j]!] = putL d e (j + 1) ∧ putB d e (j + 1) = true := by
  have h2 : putB d e (j + 1) = true := by rw [putB_step hj, hx]; simp
  refine ⟨?_, h2⟩
  unfold putL
  rw [h, h2, if_pos rfl, if_neg Bool.false_ne_true, ents_snoc hj, ins_new (put_not h) hx]
theorem putL_less {d : List En} {e : En} {j : Nat} (hj : j < d.length) (h : putB d e j = false) (hx : lessB d[j]! e.hash e.index = true) : putL d e j ++ [d[j]!] = putL d e (j + 1) ∧ putB d e (j + 1) = false := by
  have h2 : putB d e (j + 1) = false := by rw [putB_step hj, hx, h]; rfl
  refine ⟨?_, h2⟩
  unfold putL
  rw [h, h2, if_neg Bool.false_ne_true, if_neg Bool.false_ne_true, ents_snoc hj]
theorem putL_end (d : List En) (e : En) : (putB d e d.length = true → putL d e d.length = insN d e) ∧ (putB d e d.length = false → putL d e d.length ++ [e] = insN d e) := by
  constructor
  · intro h; unfold putL; rw [h, if_pos rfl, List.take_length]
  · intro h
    have := put_not h
    unfold putL; rw [h, if_neg Bool.false_ne_true]
    rw [List.take_length] at this ⊢
    exact (ins_all this).symm
theorem putL_len (d : List En) (e : En) (j : Nat) : (putL d e j).length ≤ d.length + 1 := by
  unfold putL
  split
  · rw [ins_len, List.length_take]; omega
  · rw [List.length_take]; omega

def addL (d : List En) (s : ByteArray) (id : Int) : List En := if addOk d s id then insN d (newE d s id) else d
theorem addN_eq {d : List En} (hr : dirB d = true) (s : ByteArray) (id : Int) : addN d s id = (addL d s id, addOk d s id) := by
  unfold addN addL; rw [if_pos hr]; cases addOk d s id <;> rfl
theorem addL_no {d : List En} {s : ByteArray} {id : Int} (h : addOk d s id = false) : addL d s id = d := by unfold addL; rw [h]; rfl
theorem addL_yes {d : List En} {s : ByteArray} {id : Int} (h : addOk d s id = true) : addL d s id = insN d (newE d s id) := by unfold addL; rw [h]; rfl
end

section
open Go.RowKit

theorem addOk_no {d : List En} {s : ByteArray} {id : Int} (h : (nameL s).isSome = false ∨ (atN d s).isSome = true ∨ idB id = false ∨ 12 ≤ d.length) : addOk d s id = false := by
  cases ho : addOk d s id
  · rfl
  · obtain ⟨h1, h2, h3, h4⟩ := addOk_iff.1 ho
    rcases h with h | h | h | h
    · rw [h] at h1; cases h1
    · rw [h2] at h; cases h
    · rw [h] at h3; cases h3
    · omega
end

section
open Go.RowKit

theorem lst_take {d : List En} {h : Int} {j : Nat} (hj : j < d.length) : lstN h 0 (d.take (j + 1)) = if d[j]!.hash = h ∧ d[j]!.index = lstN h 0 (d.take j) then lstN h 0 (d.take j) + 1 else lstN h 0 (d.take j) := by
  rw [ents_snoc hj, lstN_snoc]
theorem lst_take_range (d : List En) (h : Int) (j : Nat) : 0 ≤ lstN h 0 (d.take j) ∧ lstN h 0 (d.take j) ≤ d.length := by
  have := lstN_range h 0 (d.take j)
  have h2 : (d.take j).length ≤ d.length := by rw [List.length_take]; omega
  omega
end

section
open Go.RowKit
end

end Go.Proofs.YtchcdgkpaipkgaaGreatDoor
