/- The ranges of known signs, pure. Made in NOTES 41's way. -/
import Derived.Test.YtkpeabbilcmabaaDoorRows
import Derived.Test.YtkpeabbilcmabaaDoorRgU
import Derived.Test.YtkpeabbilcmabaaDoorKno
namespace Go.Proofs.YtkpeabbilcmabaaDoor
open Go.RowKit

/-- the right ranges of all known signs -/
def knR : List Rg := [⟨32, 46⟩, ⟨48, 126⟩, ⟨161, 255⟩, ⟨469, 470⟩, ⟨768, 772⟩, ⟨776, 776⟩, ⟨778, 778⟩, ⟨803, 803⟩, ⟨807, 807⟩, ⟨902, 902⟩, ⟨904, 906⟩, ⟨908, 908⟩, ⟨910, 911⟩, ⟨913, 929⟩, ⟨931, 937⟩, ⟨940, 943⟩, ⟨945, 969⟩, ⟨972, 974⟩, ⟨1040, 1103⟩, ⟨4352, 4370⟩, ⟨4449, 4469⟩, ⟨4520, 4546⟩, ⟨7840, 7841⟩, ⟨7852, 7853⟩, ⟨8486, 8486⟩, ⟨8491, 8491⟩, ⟨44032, 55203⟩]
theorem knR_ok : rgsB knR = true := by decide
theorem knR_right : RgR knR := (rgsB_iff knR).1 knR_ok
theorem knR_in (c : Int) : RgIn knR c ↔ knB c = true := by
  constructor
  · rintro ⟨r, hr, h1, h2⟩
    have key : ∀ t, t < 26 → knF.getD t 0 ≤ r.a → r.b ≤ knT.getD t 0 → (r.b < 47 ∨ 47 < r.a) → knB c = true := fun t ht e1 e2 e3 => by
      unfold knB
      rw [knAny_yes c t ht (inB_mk (by omega) (by omega))]
      simp; omega
    simp only [knR, List.mem_cons, List.not_mem_nil, or_false] at hr
    rcases hr with rfl | rfl | rfl | rfl | rfl | rfl | rfl | rfl | rfl | rfl | rfl | rfl | rfl | rfl | rfl | rfl | rfl | rfl | rfl | rfl | rfl | rfl | rfl | rfl | rfl | rfl | rfl
    · exact key 0 (by omega) (by decide) (by decide) (by decide)
    · exact key 0 (by omega) (by decide) (by decide) (by decide)
    · exact key 1 (by omega) (by decide) (by decide) (by decide)
    · exact key 17 (by omega) (by decide) (by decide) (by decide)
    · exact key 2 (by omega) (by decide) (by decide) (by decide)
    · exact key 3 (by omega) (by decide) (by decide) (by decide)
    · exact key 4 (by omega) (by decide) (by decide) (by decide)
    · exact key 5 (by omega) (by decide) (by decide) (by decide)
    · exact key 6 (by omega) (by decide) (by decide) (by decide)
    · exact key 7 (by omega) (by decide) (by decide) (by decide)
    · exact key 8 (by omega) (by decide) (by decide) (by decide)
    · exact key 9 (by omega) (by decide) (by decide) (by decide)
    · exact key 10 (by omega) (by decide) (by decide) (by decide)
    · exact key 11 (by omega) (by decide) (by decide) (by decide)
    · exact key 12 (by omega) (by decide) (by decide) (by decide)
    · exact key 13 (by omega) (by decide) (by decide) (by decide)
    · exact key 14 (by omega) (by decide) (by decide) (by decide)
    · exact key 15 (by omega) (by decide) (by decide) (by decide)
    · exact key 16 (by omega) (by decide) (by decide) (by decide)
    · exact key 22 (by omega) (by decide) (by decide) (by decide)
    · exact key 23 (by omega) (by decide) (by decide) (by decide)
    · exact key 24 (by omega) (by decide) (by decide) (by decide)
    · exact key 18 (by omega) (by decide) (by decide) (by decide)
    · exact key 19 (by omega) (by decide) (by decide) (by decide)
    · exact key 20 (by omega) (by decide) (by decide) (by decide)
    · exact key 21 (by omega) (by decide) (by decide) (by decide)
    · exact key 25 (by omega) (by decide) (by decide) (by decide)
  · intro h
    unfold knB at h
    obtain ⟨h1, h2⟩ := (Bool.and_eq_true _ _).mp h
    obtain ⟨t, ht, h3⟩ := List.any_eq_true.1 h1
    have ht := List.mem_range.1 ht
    have h47 : c ≠ 47 := by simpa using h2
    obtain ⟨e1, e2⟩ := inB_le h3
    have key : ∀ r, r ∈ knR → r.a ≤ c → c ≤ r.b → RgIn knR c := fun r hr a b => ⟨r, hr, a, b⟩
    clear h h1 h2 h3
    match t, ht with
    | 0, _ => 
      have e1 : (32 : Int) ≤ c := e1
      have e2 : c ≤ 126 := e2
      by_cases hc : c < 47
      · exact key ⟨32, 46⟩ (by decide) (by show (32 : Int) ≤ c; omega) (by show c ≤ 46; omega)
      · exact key ⟨48, 126⟩ (by decide) (by show (48 : Int) ≤ c; omega) (by show c ≤ 126; omega)
    | 1, _ => 
      have e1 : (161 : Int) ≤ c := e1
      have e2 : c ≤ 255 := e2
      exact key ⟨161, 255⟩ (by decide) (by show (161 : Int) ≤ c; omega) (by show c ≤ 255; omega)
    | 2, _ => 
      have e1 : (768 : Int) ≤ c := e1
      have e2 : c ≤ 772 := e2
      exact key ⟨768, 772⟩ (by decide) (by show (768 : Int) ≤ c; omega) (by show c ≤ 772; omega)
    | 3, _ => 
      have e1 : (776 : Int) ≤ c := e1
      have e2 : c ≤ 776 := e2
      exact key ⟨776, 776⟩ (by decide) (by show (776 : Int) ≤ c; omega) (by show c ≤ 776; omega)
    | 4, _ => 
      have e1 : (778 : Int) ≤ c := e1
      have e2 : c ≤ 778 := e2
      exact key ⟨778, 778⟩ (by decide) (by show (778 : Int) ≤ c; omega) (by show c ≤ 778; omega)
    | 5, _ => 
      have e1 : (803 : Int) ≤ c := e1
      have e2 : c ≤ 803 := e2
      exact key ⟨803, 803⟩ (by decide) (by show (803 : Int) ≤ c; omega) (by show c ≤ 803; omega)
    | 6, _ => 
      have e1 : (807 : Int) ≤ c := e1
      have e2 : c ≤ 807 := e2
      exact key ⟨807, 807⟩ (by decide) (by show (807 : Int) ≤ c; omega) (by show c ≤ 807; omega)
    | 7, _ => 
      have e1 : (902 : Int) ≤ c := e1
      have e2 : c ≤ 902 := e2
      exact key ⟨902, 902⟩ (by decide) (by show (902 : Int) ≤ c; omega) (by show c ≤ 902; omega)
    | 8, _ => 
      have e1 : (904 : Int) ≤ c := e1
      have e2 : c ≤ 906 := e2
      exact key ⟨904, 906⟩ (by decide) (by show (904 : Int) ≤ c; omega) (by show c ≤ 906; omega)
    | 9, _ => 
      have e1 : (908 : Int) ≤ c := e1
      have e2 : c ≤ 908 := e2
      exact key ⟨908, 908⟩ (by decide) (by show (908 : Int) ≤ c; omega) (by show c ≤ 908; omega)
    | 10, _ => 
      have e1 : (910 : Int) ≤ c := e1
      have e2 : c ≤ 911 := e2
      exact key ⟨910, 911⟩ (by decide) (by show (910 : Int) ≤ c; omega) (by show c ≤ 911; omega)
    | 11, _ => 
      have e1 : (913 : Int) ≤ c := e1
      have e2 : c ≤ 929 := e2
      exact key ⟨913, 929⟩ (by decide) (by show (913 : Int) ≤ c; omega) (by show c ≤ 929; omega)
    | 12, _ => 
      have e1 : (931 : Int) ≤ c := e1
      have e2 : c ≤ 937 := e2
      exact key ⟨931, 937⟩ (by decide) (by show (931 : Int) ≤ c; omega) (by show c ≤ 937; omega)
    | 13, _ => 
      have e1 : (940 : Int) ≤ c := e1
      have e2 : c ≤ 943 := e2
      exact key ⟨940, 943⟩ (by decide) (by show (940 : Int) ≤ c; omega) (by show c ≤ 943; omega)
    | 14, _ => 
      have e1 : (945 : Int) ≤ c := e1
      have e2 : c ≤ 969 := e2
      exact key ⟨945, 969⟩ (by decide) (by show (945 : Int) ≤ c; omega) (by show c ≤ 969; omega)
    | 15, _ => 
      have e1 : (972 : Int) ≤ c := e1
      have e2 : c ≤ 974 := e2
      exact key ⟨972, 974⟩ (by decide) (by show (972 : Int) ≤ c; omega) (by show c ≤ 974; omega)
    | 16, _ => 
      have e1 : (1040 : Int) ≤ c := e1
      have e2 : c ≤ 1103 := e2
      exact key ⟨1040, 1103⟩ (by decide) (by show (1040 : Int) ≤ c; omega) (by show c ≤ 1103; omega)
    | 17, _ => 
      have e1 : (469 : Int) ≤ c := e1
      have e2 : c ≤ 470 := e2
      exact key ⟨469, 470⟩ (by decide) (by show (469 : Int) ≤ c; omega) (by show c ≤ 470; omega)
    | 18, _ => 
      have e1 : (7840 : Int) ≤ c := e1
      have e2 : c ≤ 7841 := e2
      exact key ⟨7840, 7841⟩ (by decide) (by show (7840 : Int) ≤ c; omega) (by show c ≤ 7841; omega)
    | 19, _ => 
      have e1 : (7852 : Int) ≤ c := e1
      have e2 : c ≤ 7853 := e2
      exact key ⟨7852, 7853⟩ (by decide) (by show (7852 : Int) ≤ c; omega) (by show c ≤ 7853; omega)
    | 20, _ => 
      have e1 : (8486 : Int) ≤ c := e1
      have e2 : c ≤ 8486 := e2
      exact key ⟨8486, 8486⟩ (by decide) (by show (8486 : Int) ≤ c; omega) (by show c ≤ 8486; omega)
    | 21, _ => 
      have e1 : (8491 : Int) ≤ c := e1
      have e2 : c ≤ 8491 := e2
      exact key ⟨8491, 8491⟩ (by decide) (by show (8491 : Int) ≤ c; omega) (by show c ≤ 8491; omega)
    | 22, _ => 
      have e1 : (4352 : Int) ≤ c := e1
      have e2 : c ≤ 4370 := e2
      exact key ⟨4352, 4370⟩ (by decide) (by show (4352 : Int) ≤ c; omega) (by show c ≤ 4370; omega)
    | 23, _ => 
      have e1 : (4449 : Int) ≤ c := e1
      have e2 : c ≤ 4469 := e2
      exact key ⟨4449, 4469⟩ (by decide) (by show (4449 : Int) ≤ c; omega) (by show c ≤ 4469; omega)
    | 24, _ => 
      have e1 : (4520 : Int) ≤ c := e1
      have e2 : c ≤ 4546 := e2
      exact key ⟨4520, 4546⟩ (by decide) (by show (4520 : Int) ≤ c; omega) (by show c ≤ 4546; omega)
    | 25, _ => 
      have e1 : (44032 : Int) ≤ c := e1
      have e2 : c ≤ 55203 := e2
      exact key ⟨44032, 55203⟩ (by decide) (by show (44032 : Int) ≤ c; omega) (by show c ≤ 55203; omega)
    | t + 26, ht => exact absurd ht (by omega)
/-- every known sign is in one of the stretches -/
theorem knB_in (c : Int) (h : knB c = true) : (0 ≤ c ∧ c ≤ 544) ∨ (767 ≤ c ∧ c ≤ 1120) ∨ (4336 ≤ c ∧ c ≤ 4608) ∨ (7824 ≤ c ∧ c ≤ 7952) ∨ (8464 ≤ c ∧ c ≤ 8512) ∨ (44032 ≤ c ∧ c ≤ 55203) := by
  obtain ⟨r, hr, h1, h2⟩ := (knR_in c).2 h
  simp only [knR, List.mem_cons, List.not_mem_nil, or_false] at hr
  rcases hr with rfl | rfl | rfl | rfl | rfl | rfl | rfl | rfl | rfl | rfl | rfl | rfl | rfl | rfl | rfl | rfl | rfl | rfl | rfl | rfl | rfl | rfl | rfl | rfl | rfl | rfl | rfl <;> dsimp only at h1 h2 <;> omega
theorem knB_hangul (c : Int) (h1 : 44032 ≤ c) (h2 : c ≤ 55203) : knB c = true :=
  (knR_in c).1 ⟨⟨44032, 55203⟩, by decide, h1, h2⟩

end Go.Proofs.YtkpeabbilcmabaaDoor
