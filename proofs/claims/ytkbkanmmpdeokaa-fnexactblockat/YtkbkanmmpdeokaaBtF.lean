/- A bitmap: spec.FindRun, FreeOf, SetRun. -/
import Derived.Test.YtkbkanmmpdeokaaRows
import Derived.Test.YtkbkanmmpdeokaaBtS
namespace Go.Proofs.Ytkbkanmmpdeokaa
open Go.RowKit Go.Sort

theorem findN_yes {b : List Bool} {n : Int} (hn : 1 ≤ n) {t : Nat} (ht : t < (runsN b).length) (h : n ≤ (runsN b)[t]!.n) (hf : ∀ s, s < t → ¬ n ≤ (runsN b)[s]!.n) : findN b n = (runsN b)[t]!.p := by
  unfold findN
  rw [if_pos hn]
  have e : (runsN b).find? (fun r => decide (n ≤ r.n)) = some (runsN b)[t]! := by
    rw [List.find?_eq_some_iff_getElem]
    refine ⟨decide_eq_true h, t, ht, by rw [getElem!_pos _ t ht], fun s hs => ?_⟩
    have := hf s hs
    rw [getElem!_pos _ s (by omega)] at this
    simpa using this
  rw [e]
theorem findN_no {b : List Bool} {n : Int} (h : n < 1 ∨ ∀ t, t < (runsN b).length → ¬ n ≤ (runsN b)[t]!.n) : findN b n = -1 := by
  unfold findN
  by_cases hn : 1 ≤ n
  · rw [if_pos hn]
    have e : (runsN b).find? (fun r => decide (n ≤ r.n)) = none := by
      rw [List.find?_eq_none]
      intro r hr
      obtain ⟨t, ht, rfl⟩ := List.getElem_of_mem hr
      rcases h with h | h
      · omega
      · have := h t ht
        rw [getElem!_pos _ t ht] at this
        simpa using this
    rw [e]
  · rw [if_neg hn]


theorem rnSum_take (l : List Rn) (k : Nat) (h : k < l.length) : rnSum (l.take (k + 1)) = rnSum (l.take k) + l[k]!.n := by
  rw [List.take_succ_eq_append_getElem h, rnSum_append, getElem!_pos l k h]
  simp [rnSum]
theorem RnR.take {l : List Rn} (h : RnR l) (k : Nat) : RnR (l.take k) := ⟨h.gap.sublist (List.take_sublist _ _), fun r hr => h.one r (List.mem_of_mem_take hr)⟩
theorem runsN_sum (b : List Bool) (k : Nat) : 0 ≤ rnSum ((runsN b).take k) ∧ rnSum ((runsN b).take k) ≤ 24 := by
  by_cases hb : b.length = 24
  · have h := (runsN_right hb).1.take k
    obtain ⟨h1, h2⟩ := rnSum_bd _ h
    exact ⟨h1, by have := h2 0 (fun r hr => (h.one r hr).1) (by omega); omega⟩
  · unfold runsN; rw [if_neg hb]; simp [rnSum]


theorem setRunN_no {b : List Bool} {p n : Int} {v : Bool} (hb : b.length ≠ 24) : setRunN b p n v = [] ∧ setRunB b p n v = false := by
  unfold setRunN setRunB
  rw [if_neg hb]
  exact ⟨rfl, by simp [hb]⟩
theorem setRunN_can {b : List Bool} {p n : Int} {v : Bool} (hb : b.length = 24) (h : canSet b p n v) : setRunN b p n v = setB b p n v ∧ setRunB b p n v = true := by
  unfold setRunN setRunB
  rw [if_pos hb, if_pos h]
  exact ⟨rfl, by simp [hb, h]⟩
theorem setRunN_cannot {b : List Bool} {p n : Int} {v : Bool} (hb : b.length = 24) (h : ¬ canSet b p n v) : setRunN b p n v = b ∧ setRunB b p n v = false := by
  unfold setRunN setRunB
  rw [if_pos hb, if_neg h]
  exact ⟨rfl, by simp [h]⟩
theorem setRunN_len (b : List Bool) (p n : Int) (v : Bool) : (setRunN b p n v).length ≤ 24 := by
  by_cases hb : b.length = 24
  · by_cases h : canSet b p n v
    · rw [(setRunN_can hb h).1, setB_len]; omega
    · rw [(setRunN_cannot hb h).1]; omega
  · rw [(setRunN_no hb).1]; simp

def SaysSt (w : World) (l : List Bool) (r : Bool) (e : Ending) (w' : World) : Prop := ∃ u, e = .returned (.tuple #[u, .bool r]) ∧ BoRow w' w.heap.size u l ∧ Below w.heap.size w w'

end Go.Proofs.Ytkbkanmmpdeokaa
