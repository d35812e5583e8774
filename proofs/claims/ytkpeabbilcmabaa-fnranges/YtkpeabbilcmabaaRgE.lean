/- Ranges of signs, pure: both together and the one without the other are there; they add up. -/
import Derived.Test.YtkpeabbilcmabaaRows
import Derived.Test.YtkpeabbilcmabaaRgN
namespace Go.Proofs.Ytkpeabbilcmabaa
open Go.RowKit

theorem un_all {a b : List Rg} (ha : RgR a) (hb : RgR b) : ∀ (n i k : Nat) (l : List Rg), UnI a b i k l → i ≤ a.length → k ≤ b.length → (a.length - i) + (b.length - k) = n → ∃ m, UnI a b a.length b.length m
  | 0, i, k, l, h, hi, hk, hn => by
    obtain rfl : i = a.length := by omega
    obtain rfl : k = b.length := by omega
    exact ⟨l, h⟩
  | n + 1, i, k, l, h, hi, hk, hn => by
    by_cases h1 : i < a.length
    · by_cases h2 : k < b.length
      · by_cases h3 : a[i]!.a ≤ b[k]!.a
        · exact un_all ha hb n (i + 1) k _ (h.one ha h1 fun _ => h3) (by omega) hk (by omega)
        · exact un_all ha hb n i (k + 1) _ (h.two hb h2 fun _ => by omega) hi (by omega) (by omega)
      · exact un_all ha hb n (i + 1) k _ (h.one ha h1 fun h => absurd h h2) (by omega) hk (by omega)
    · exact un_all ha hb n i (k + 1) _ (h.two hb (by omega) fun h => absurd h h1) hi (by omega) (by omega)
theorem rgUnion_right {a b : List Rg} (ha : RgR a) (hb : RgR b) : RgR (rgUnion a b) ∧ ∀ c, RgIn (rgUnion a b) c ↔ RgIn a c ∨ RgIn b c := by
  obtain ⟨m, h⟩ := un_all ha hb _ 0 0 [] (UnI.nil a b) (Nat.zero_le _) (Nat.zero_le _) rfl
  rw [h.done ha hb]
  exact ⟨h.right, fun c => by rw [h.mem, List.take_length, List.take_length]⟩
theorem mi_in {a b : List Rg} (ha : RgR a) (hb : RgR b) {i : Nat} (hi : i < a.length) : ∀ (n k : Nat) (f : Int) (l : List Rg), MiI a b i k f l → k ≤ b.length → b.length - k = n → ∃ f' m, MiI a b i b.length f' m
  | 0, k, f, l, h, hk, hn => by
    obtain rfl : k = b.length := by omega
    exact ⟨f, l, h⟩
  | n + 1, k, f, l, h, hk, hn => by
    by_cases h1 : b[k]!.b < f
    · exact mi_in ha hb hi n (k + 1) f l (h.skip (.inl h1)) (by omega) (by omega)
    · by_cases h2 : a[i]!.b < b[k]!.a
      · exact mi_in ha hb hi n (k + 1) f l (h.skip (.inr h2)) (by omega) (by omega)
      · exact mi_in ha hb hi n (k + 1) _ _ (h.cut ha hb hi (by omega) h1 h2) (by omega) (by omega)
theorem mi_all {a b : List Rg} (ha : RgR a) (hb : RgR b) : ∀ (n i : Nat) (l : List Rg), MiO a b i l → i ≤ a.length → a.length - i = n → ∃ m, MiO a b a.length m
  | 0, i, l, h, hi, hn => by
    obtain rfl : i = a.length := by omega
    exact ⟨l, h⟩
  | n + 1, i, l, h, hi, hn => by
    obtain ⟨f, m, h2⟩ := mi_in ha hb (show i < a.length by omega) _ 0 _ l (h.start ha (by omega)) (Nat.zero_le _) rfl
    exact mi_all ha hb n (i + 1) _ (h2.done ha (by omega)) (by omega) (by omega)
theorem rgMinus_right {a b : List Rg} (ha : RgR a) (hb : RgR b) : RgR (rgMinus a b) ∧ ∀ c, RgIn (rgMinus a b) c ↔ RgIn a c ∧ ¬ RgIn b c := by
  obtain ⟨m, h⟩ := mi_all ha hb _ 0 [] (MiO.nil a b) (Nat.zero_le _) rfl
  rw [h.done ha hb]
  exact ⟨h.right, fun c => by rw [h.mem, List.take_length]⟩
theorem rgUnion_len (a b : List Rg) : (rgUnion a b).length ≤ 2097152 := by
  by_cases h : RgR a ∧ RgR b
  · have := (rgUnion_right h.1 h.2).1.len; omega
  · rw [rgUnion_no h]; simp
theorem rgMinus_len (a b : List Rg) : (rgMinus a b).length ≤ 2097152 := by
  by_cases h : RgR a ∧ RgR b
  · have := (rgMinus_right h.1 h.2).1.len; omega
  · rw [rgMinus_no h]; simp
theorem rgInN_right {l : List Rg} (h : RgR l) (c : Int) : rgInN l c = rgInB l c := by unfold rgInN; rw [(rgsB_iff l).2 h]; rfl
/-- what FnRanges asks of right ranges -/
structure RgFacts (a b : List Rg) : Prop where
  ru : rgsB (rgUnion a b) = true
  rm : rgsB (rgMinus a b) = true
  iu : ∀ c, rgInN (rgUnion a b) c = (rgInN a c || rgInN b c)
  im : ∀ c, rgInN (rgMinus a b) c = (rgInN a c && !rgInN b c)
  sw : rgUnion b a = rgUnion a b
  mb : rgUnion (rgMinus a b) b = rgUnion a b
  ct : rgCount (rgUnion a b) = rgCount b + rgCount (rgMinus a b)
  bd : (0 ≤ rgCount b ∧ rgCount b ≤ 1114112) ∧ (0 ≤ rgCount (rgMinus a b) ∧ rgCount (rgMinus a b) ≤ 1114112)
theorem rg_facts {a b : List Rg} (ha : RgR a) (hb : RgR b) : RgFacts a b := by
  obtain ⟨u1, u2⟩ := rgUnion_right ha hb
  obtain ⟨m1, m2⟩ := rgMinus_right ha hb
  have cB := fun {l : List Rg} (h : RgR l) => show rgCount l = rgSum l by unfold rgCount; rw [(rgsB_iff l).2 h]; rfl
  refine ⟨(rgsB_iff _).2 u1, (rgsB_iff _).2 m1, fun c => ?_, fun c => ?_, ?_, ?_, ?_, ?_⟩
  · rw [rgInN_right u1, rgInN_right ha, rgInN_right hb, Bool.eq_iff_iff]
    rw [Bool.or_eq_true, rgInB_iff, rgInB_iff, rgInB_iff]; exact u2 c
  · rw [rgInN_right m1, rgInN_right ha, rgInN_right hb, Bool.eq_iff_iff]
    rw [Bool.and_eq_true, Bool.not_eq_true', Bool.eq_false_iff, ne_eq, rgInB_iff, rgInB_iff, rgInB_iff]; exact m2 c
  · exact rgUnion_is hb ha u1 fun c => (u2 c).trans or_comm
  · refine rgUnion_is m1 hb u1 fun c => ?_
    rw [u2, m2]
    by_cases h : RgIn b c <;> simp [h]
  · rw [cB u1, cB hb, cB m1]
    refine rgSum_two hb m1 u1 (fun c => ?_) (fun c h => ((m2 c).1 h.2).2 h.1)
    rw [u2, m2]
    by_cases h : RgIn b c <;> simp [h]
  · rw [cB hb, cB m1]; exact ⟨rgSum_le hb, rgSum_le m1⟩

end Go.Proofs.Ytkpeabbilcmabaa
