/- Signs put together: what Pair comes to. No word of the program. -/
import Derived.Test.YtkgnlamlmnhleaaRows
import Derived.Test.YtkgnlamlmnhleaaSgn
import Derived.Test.YtkgnlamlmnhleaaTak
import Derived.Test.YtkgnlamlmnhleaaApt
namespace Go.Proofs.Ytkgnlamlmnhleaa

/-- the sign whose two parts they are, by the table -/
def pairT (a b : Int) : Option Int := (pTab.find? fun r => r.2.1 == a && (r.2.2 == b && r.2.2 != 0)).map (·.1)
def pairN (a b : Int) : Option Int :=
  if inB a 4352 4370 && inB b 4449 4469 then some (44032 + (a - 4352) * 588 + (b - 4449) * 28)
  else if inB a 44032 55203 && (decide ((a - 44032) % 28 = 0) && inB b 4520 4546) then some (a + b - 4519)
  else pairT a b

theorem ptab_two : ∀ r ∈ pTab, r.2.2 ≠ 0 → partsN r.1 = [r.2.1, r.2.2] ∧ ((192 ≤ r.1 ∧ r.1 ≤ 255) ∨ (469 ≤ r.1 ∧ r.1 ≤ 470) ∨ (902 ≤ r.1 ∧ r.1 ≤ 974) ∨ (7840 ≤ r.1 ∧ r.1 ≤ 7853)) := by decide
theorem ptab_one : ∀ r ∈ pTab, r.2.2 = 0 → (partsN r.1).length ≠ 2 := by decide
theorem pair_key {a b c : Int} (h : pairT a b = some c) : partsN c = [a, b] ∧ ((192 ≤ c ∧ c ≤ 255) ∨ (469 ≤ c ∧ c ≤ 470) ∨ (902 ≤ c ∧ c ≤ 974) ∨ (7840 ≤ c ∧ c ≤ 7853)) := by
  unfold pairT at h
  obtain ⟨r, hr, rfl⟩ := Option.map_eq_some_iff.1 h
  have hp := List.find?_some hr
  have hm := List.mem_of_find?_eq_some hr
  simp only [Bool.and_eq_true, beq_iff_eq, bne_iff_ne] at hp
  have := ptab_two r hm hp.2.2
  rw [hp.1, hp.2.1] at this
  exact this
set_option maxRecDepth 100000 in
theorem ptab_uniq : ∀ r ∈ pTab, ∀ q ∈ pTab, r.2 = q.2 → r.1 = q.1 := by decide
theorem pair_is {a b c : Int} (h : partsN c = [a, b]) (hc : c < 44032) : pairT a b = some c := by
  rcases partsN_cases c with ⟨j, hj, rfl⟩ | ⟨h1, h2, _⟩ | h0
  · have hm : pRow j ∈ pTab := by rw [pTab_range]; exact List.mem_map.2 ⟨j, List.mem_range.2 hj, rfl⟩
    have hz : (pRow j).2.2 ≠ 0 := fun e => ptab_one _ hm e (by rw [h]; rfl)
    have h2 := (ptab_two _ hm hz).1
    rw [h] at h2
    injection h2 with e1 e2
    injection e2 with e2 _
    unfold pairT
    cases hf : pTab.find? fun r => r.2.1 == a && (r.2.2 == b && r.2.2 != 0) with
    | none =>
      have := List.find?_eq_none.1 hf _ hm
      rw [e1, e2] at this
      exact absurd (by simp [hz]) this
    | some r =>
      have hp := List.find?_some hf
      have hr := List.mem_of_find?_eq_some hf
      simp only [Bool.and_eq_true, beq_iff_eq, bne_iff_ne] at hp
      show some r.1 = _
      rw [ptab_uniq r hr _ hm (Prod.ext (by rw [hp.1, e1]) (by rw [hp.2.1, e2]))]
  · omega
  · rw [h] at h0; cases h0

theorem keys_low : ∀ x ∈ keysAll, x < 44032 := by decide
theorem parts_han (c : Int) (h0 : 44032 ≤ c) (h1 : c ≤ 55203) : partsN c = hanN c := by
  rw [partsN_rest c fun h => by have := keys_low c h; omega, inB_mk h0 h1]; rfl
theorem take1_of_parts (c a : Int) (h : a ∈ partsN c) : take1 a = takeN a := by
  by_cases e : partsN a = []
  · rw [take1_leaf a e, takeN_leaf a e]
  · have key : ∀ l : List Int, (∀ x ∈ l, partsN x = []) → l.flatMap take1 = l := by
      intro l
      induction l with
      | nil => intro _; rfl
      | cons x l ih => intro hl; rw [List.flatMap_cons, take1_leaf x (hl x (by simp)), ih fun y hy => hl y (by simp [hy])]; rfl
    have k1 : ∀ l : List Int, l.flatMap (fun d => [d]) = l := by
      intro l
      induction l with
      | nil => rfl
      | cons x l ih => rw [List.flatMap_cons, ih]; rfl
    unfold take1 takeN takeBy
    rw [if_neg e, if_neg e, key _ fun x hx => parts_two c a x h hx, k1]
theorem takeN_parts (c : Int) (h : partsN c ≠ []) : takeN c = (partsN c).flatMap takeN := by
  have key : ∀ l : List Int, (∀ x ∈ l, x ∈ partsN c) → l.flatMap take1 = l.flatMap takeN := by
    intro l
    induction l with
    | nil => intro _; rfl
    | cons x l ih => intro hl; rw [List.flatMap_cons, List.flatMap_cons, take1_of_parts c x (hl x (by simp)), ih fun y hy => hl y (by simp [hy])]
  rw [show takeN c = (partsN c).flatMap take1 by unfold takeN takeBy; rw [if_neg h]]
  exact key _ fun x hx => hx
theorem takeN_jamo (d : Int) (h0 : 4352 ≤ d) (h1 : d ≤ 4546) : takeN d = [d] := takeN_leaf d (partsN_jamo d h0 h1)

/-- a sign that two make is taken apart to what both are -/
theorem pair_take {a b c : Int} (h : pairN a b = some c) : takeN c = takeN a ++ takeN b := by
  unfold pairN at h
  split at h
  · rename_i hc
    simp only [Bool.and_eq_true] at hc
    have ha := inB_le hc.1
    have hb := inB_le hc.2
    injection h with h
    subst h
    have hp : partsN (44032 + (a - 4352) * 588 + (b - 4449) * 28) = [a, b] := by
      rw [parts_han _ (by omega) (by omega)]
      unfold hanN
      rw [if_neg (by omega)]
      congr 1
      · omega
      · congr 1; omega
    rw [takeN_parts _ (by rw [hp]; simp), hp]
    simp
  · split at h
    · rename_i hc
      simp only [Bool.and_eq_true, decide_eq_true_eq] at hc
      have ha := inB_le hc.1
      have hb := inB_le hc.2.2
      have hd := hc.2.1
      injection h with h
      subst h
      have hp : partsN (a + b - 4519) = [4352 + (a - 44032) / 588, 4449 + (a - 44032) % 588 / 28, b] := by
        rw [parts_han _ (by omega) (by omega)]
        unfold hanN
        rw [if_pos (by omega)]
        congr 1
        · omega
        · congr 1
          · omega
          · congr 1; omega
      have hq : partsN a = [4352 + (a - 44032) / 588, 4449 + (a - 44032) % 588 / 28] := by
        rw [parts_han _ (by omega) (by omega)]
        unfold hanN
        rw [if_neg (by omega)]
      rw [takeN_parts _ (by rw [hp]; simp), hp, takeN_parts a (by rw [hq]; simp), hq]
      simp
    · have hp := (pair_key h).1
      rw [takeN_parts _ (by rw [hp]; simp), hp]
      simp
theorem pair_apart {a b c : Int} (h : pairN a b = some c) : apartN [c] = apartN [a, b] := by
  unfold apartN
  simp [pair_take h]
end Go.Proofs.Ytkgnlamlmnhleaa
