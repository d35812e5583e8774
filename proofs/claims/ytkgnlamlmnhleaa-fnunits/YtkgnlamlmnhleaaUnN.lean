/- Signs in rows: what Units comes to. No word of the program. -/
import Derived.Test.YtkgnlamlmnhleaaRows
import Derived.Test.YtkgnlamlmnhleaaSgn
namespace Go.Proofs.Ytkgnlamlmnhleaa

/-- rows of signs, each begun by a letter or by the first sign of all -/
structure UnR (l : List Int) (us : List (List Int)) : Prop where
  all : us.flatten = l
  one : ∀ u ∈ us, ∃ a t, u = a :: t ∧ ∀ x ∈ t, clsN x ≠ 0
  beg : ∀ u ∈ us.tail, clsN (u.headD 0) = 0
def unitsN : List Int → List (List Int)
  | [] => []
  | x :: l => match unitsN l with
    | [] => [[x]]
    | u :: us => if clsN (u.headD 0) = 0 then [x] :: u :: us else (x :: u) :: us
theorem units_right : ∀ l, UnR l (unitsN l)
  | [] => ⟨rfl, fun u h => (by cases h), fun u h => (by cases h)⟩
  | x :: l => by
    have ih := units_right l
    unfold unitsN
    cases h : unitsN l with
    | nil =>
      rw [h] at ih
      have hl : l = [] := ih.all.symm
      refine ⟨by rw [hl]; rfl, fun u hu => ?_, fun u hu => (by cases hu)⟩
      obtain rfl : u = [x] := by simpa using hu
      exact ⟨x, [], rfl, fun y hy => by cases hy⟩
    | cons u us =>
      rw [h] at ih
      obtain ⟨a, t, e, ht⟩ := ih.one u (by simp)
      dsimp only
      by_cases hc : clsN (u.headD 0) = 0
      · rw [if_pos hc]
        refine ⟨by rw [← ih.all]; rfl, fun v hv => ?_, fun v hv => ?_⟩
        · rcases List.mem_cons.1 hv with rfl | hv
          · exact ⟨x, [], rfl, fun y hy => by cases hy⟩
          · exact ih.one v hv
        · rcases List.mem_cons.1 hv with rfl | hv
          · exact hc
          · exact ih.beg v hv
      · rw [if_neg hc]
        refine ⟨by rw [← ih.all]; rfl, fun v hv => ?_, fun v hv => ih.beg v hv⟩
        rcases List.mem_cons.1 hv with rfl | hv
        · refine ⟨x, u, rfl, fun y hy => ?_⟩
          rw [e] at hy hc
          rcases List.mem_cons.1 hy with rfl | hy
          · exact hc
          · exact ht y hy
        · exact ih.one v (by simp [hv])
theorem units_uniq : ∀ (us : List (List Int)) (l : List Int), UnR l us → us = unitsN l
  | [], l, h => by rw [← h.all]; rfl
  | u :: us, l, h => by
    obtain ⟨a, t, rfl, ht⟩ := h.one u (by simp)
    have hrest : UnR us.flatten us := ⟨rfl, fun v hv => h.one v (by simp [hv]), fun v hv => h.beg v (List.mem_of_mem_tail hv)⟩
    have hu := units_uniq us us.flatten hrest
    have key : ∀ (t : List Int) (a : Int), (∀ x ∈ t, clsN x ≠ 0) → unitsN (a :: (t ++ us.flatten)) = (a :: t) :: us := by
      intro t
      induction t with
      | nil =>
        intro a _
        show unitsN (a :: us.flatten) = _
        unfold unitsN
        rw [← hu]
        cases us with
        | nil => rfl
        | cons v vs => dsimp only; rw [if_pos (h.beg v (by simp))]
      | cons b t ih =>
        intro a hb
        have := ih b fun x hx => hb x (by simp [hx])
        show unitsN (a :: b :: (t ++ us.flatten)) = _
        unfold unitsN
        rw [this]
        dsimp only
        rw [if_neg]
        exact hb b (by simp)
    rw [← h.all]
    exact (key t a ht).symm
theorem units_len (l : List Int) : (unitsN l).length ≤ l.length := by
  have h := units_right l
  have key : ∀ us : List (List Int), (∀ u ∈ us, ∃ a t, u = a :: t ∧ ∀ x ∈ t, clsN x ≠ 0) → us.length ≤ us.flatten.length := by
    intro us
    induction us with
    | nil => intro _; exact Nat.le_refl _
    | cons u us ih =>
      intro hu
      obtain ⟨a, t, rfl, _⟩ := hu u (by simp)
      have := ih fun v hv => hu v (by simp [hv])
      simp at this ⊢
      omega
  have := key _ h.one
  rwa [h.all] at this
/-- a row more -/
theorem UnR.more {l : List Int} {us : List (List Int)} {m : List Int} (h : UnR l us) (a : Int) (t : List Int) (hm : m = a :: t) (ht : ∀ x ∈ t, clsN x ≠ 0) (hb : us ≠ [] → clsN a = 0) : UnR (l ++ m) (us ++ [m]) := by
  refine ⟨by simp [h.all], fun u hu => ?_, fun u hu => ?_⟩
  · rcases List.mem_append.1 hu with hu | hu
    · exact h.one u hu
    · rw [List.mem_singleton.1 hu]; exact ⟨a, t, hm, ht⟩
  · cases us with
    | nil => cases hu
    | cons v vs =>
      rcases List.mem_append.1 (show u ∈ vs ++ [m] from hu) with hu | hu
      · exact h.beg u hu
      · rw [List.mem_singleton.1 hu, hm]; exact hb (by simp)
theorem UnR.nil : UnR [] [] := ⟨rfl, fun u h => (by cases h), fun u h => (by cases h)⟩
end Go.Proofs.Ytkgnlamlmnhleaa
