/- Ranges of signs, pure: what stands while one row is taken from another. -/
import Derived.Test.YtkpeabbilcmabaaRows
import Derived.Test.YtkpeabbilcmabaaRgU
namespace Go.Proofs.Ytkpeabbilcmabaa
open Go.RowKit

theorem RgIn_at (b : List Rg) (c : Int) : RgIn b c ↔ ∃ j, j < b.length ∧ b[j]!.a ≤ c ∧ c ≤ b[j]!.b := by
  constructor
  · rintro ⟨r, hr, h⟩
    obtain ⟨t, ht, rfl⟩ := List.getElem_of_mem hr
    exact ⟨t, ht, by rw [getElem!_pos b t ht]; exact h⟩
  · rintro ⟨t, ht, h⟩
    rw [getElem!_pos b t ht] at h
    exact ⟨b[t], List.getElem_mem ht, h⟩
structure MiO (a b : List Rg) (i : Nat) (l : List Rg) : Prop where
  right : RgR l
  mem : ∀ c, RgIn l c ↔ RgIn (a.take i) c ∧ ¬ RgIn b c
  lt : i < a.length → ∀ q ∈ l, q.b + 1 < a[i]!.a
structure MiI (a b : List Rg) (i k : Nat) (f : Int) (l : List Rg) : Prop where
  right : RgR l
  mem : ∀ c, RgIn l c ↔ (RgIn (a.take i) c ∨ (a[i]!.a ≤ c ∧ c ≤ a[i]!.b ∧ c < f)) ∧ ¬ RgIn b c
  lt : ∀ q ∈ l, q.b + 1 < f ∧ q.b ≤ a[i]!.b
  beg : a[i]!.a ≤ f ∧ f ≤ 1114112
  past : ∀ j, j < k → b[j]!.b < f ∨ a[i]!.b < b[j]!.a
theorem MiO.nil (a b : List Rg) : MiO a b 0 [] := ⟨RgR.nil, fun c => by simp [RgIn], fun _ q h => (by cases h)⟩
theorem MiO.start {a b l : List Rg} {i : Nat} (h : MiO a b i l) (ha : RgR a) (hi : i < a.length) : MiI a b i 0 a[i]!.a l := by
  have h1 := ha.at hi
  refine ⟨h.right, fun c => ?_, fun q hq => ?_, ⟨Int.le_refl _, by omega⟩, fun j hj => by omega⟩
  · rw [h.mem]
    constructor
    · exact fun h => ⟨.inl h.1, h.2⟩
    · rintro ⟨h | h, h2⟩
      · exact ⟨h, h2⟩
      · omega
  · have := h.lt hi q hq; omega
theorem MiI.skip {a b l : List Rg} {i k : Nat} {f : Int} (h : MiI a b i k f l) (hs : b[k]!.b < f ∨ a[i]!.b < b[k]!.a) : MiI a b i (k + 1) f l :=
  ⟨h.right, h.mem, h.lt, h.beg, fun j hj => by
    by_cases e : j = k
    · rw [e]; exact hs
    · exact h.past j (by omega)⟩
/-- a piece ahead of what is taken away, or none -/
theorem MiI.cut {a b l : List Rg} {i k : Nat} {f : Int} (h : MiI a b i k f l) (ha : RgR a) (hb : RgR b) (hi : i < a.length) (hk : k < b.length) (h1 : ¬ b[k]!.b < f) (h2 : ¬ a[i]!.b < b[k]!.a) :
    MiI a b i (k + 1) (b[k]!.b + 1) (if f < b[k]!.a then l ++ [⟨f, b[k]!.a - 1⟩] else l) := by
  have x1 := ha.at hi
  have x2 := hb.at hk
  have x3 := h.beg
  have inb : ∀ c, b[k]!.a ≤ c → c ≤ b[k]!.b → RgIn b c := fun c e1 e2 => (RgIn_at b c).2 ⟨k, hk, e1, e2⟩
  have nob : ∀ c, f ≤ c → c < b[k]!.a → ¬ RgIn b c := fun c e1 e2 hc => by
    obtain ⟨j, hj, y1, y2⟩ := (RgIn_at b c).1 hc
    rcases Nat.lt_trichotomy j k with e | e | e
    · rcases h.past j e with z | z <;> omega
    · subst e; omega
    · have := hb.lt e hj; omega
  by_cases e : f < b[k]!.a
  · rw [if_pos e]
    refine ⟨h.right.push _ (by dsimp only; omega) fun q hq => ?_, fun c => ?_, fun q hq => ?_, ⟨by omega, by omega⟩, fun j hj => ?_⟩
    · have := h.lt q hq; dsimp only; omega
    · rw [RgIn_append, RgIn_one, h.mem]
      dsimp only
      constructor
      · rintro (⟨z | z, z2⟩ | z)
        · exact ⟨.inl z, z2⟩
        · exact ⟨.inr (by omega), z2⟩
        · exact ⟨.inr (by omega), nob c (by omega) (by omega)⟩
      · rintro ⟨z | z, z2⟩
        · exact .inl ⟨.inl z, z2⟩
        · by_cases y : c < f
          · exact .inl ⟨.inr (by omega), z2⟩
          · by_cases y2 : c < b[k]!.a
            · exact .inr (by omega)
            · exact absurd (inb c (by omega) (by omega)) z2
    · rcases List.mem_append.1 hq with hq | hq
      · have := h.lt q hq; omega
      · obtain rfl := List.mem_singleton.1 hq; dsimp only; omega
    · by_cases y : j = k
      · subst y; exact .inl (by omega)
      · rcases h.past j (by omega) with z | z
        · exact .inl (by omega)
        · exact .inr z
  · rw [if_neg e]
    refine ⟨h.right, fun c => ?_, fun q hq => ?_, ⟨by omega, by omega⟩, fun j hj => ?_⟩
    · rw [h.mem]
      constructor
      · rintro ⟨z | z, z2⟩
        · exact ⟨.inl z, z2⟩
        · exact ⟨.inr (by omega), z2⟩
      · rintro ⟨z | z, z2⟩
        · exact ⟨.inl z, z2⟩
        · by_cases y : c < f
          · exact ⟨.inr (by omega), z2⟩
          · exact absurd (inb c (by omega) (by omega)) z2
    · have := h.lt q hq; omega
    · by_cases y : j = k
      · subst y; exact .inl (by omega)
      · rcases h.past j (by omega) with z | z
        · exact .inl (by omega)
        · exact .inr z
theorem MiI.done {a b l : List Rg} {i : Nat} {f : Int} (h : MiI a b i b.length f l) (ha : RgR a) (hi : i < a.length) : MiO a b (i + 1) (if f ≤ a[i]!.b then l ++ [⟨f, a[i]!.b⟩] else l) := by
  have x1 := ha.at hi
  have x3 := h.beg
  have nob : ∀ c, f ≤ c → c ≤ a[i]!.b → ¬ RgIn b c := fun c e1 e2 hc => by
    obtain ⟨j, hj, y1, y2⟩ := (RgIn_at b c).1 hc
    rcases h.past j hj with z | z <;> omega
  by_cases e : f ≤ a[i]!.b
  · rw [if_pos e]
    refine ⟨h.right.push _ (by dsimp only; omega) fun q hq => ?_, fun c => ?_, fun h2 q hq => ?_⟩
    · have := h.lt q hq; dsimp only; omega
    · rw [RgIn_append, RgIn_one, h.mem, RgIn_take a i hi]
      dsimp only
      constructor
      · rintro (⟨z | z, z2⟩ | z)
        · exact ⟨.inl z, z2⟩
        · exact ⟨.inr (by omega), z2⟩
        · exact ⟨.inr (by omega), nob c (by omega) (by omega)⟩
      · rintro ⟨z | z, z2⟩
        · exact .inl ⟨.inl z, z2⟩
        · by_cases y : c < f
          · exact .inl ⟨.inr (by omega), z2⟩
          · exact .inr (by omega)
    · have h3 := ha.lt (show i < i + 1 by omega) h2
      rcases List.mem_append.1 hq with hq | hq
      · have := h.lt q hq; omega
      · obtain rfl := List.mem_singleton.1 hq; exact h3
  · rw [if_neg e]
    refine ⟨h.right, fun c => ?_, fun h2 q hq => ?_⟩
    · rw [h.mem, RgIn_take a i hi]
      constructor
      · rintro ⟨z | z, z2⟩
        · exact ⟨.inl z, z2⟩
        · exact ⟨.inr (by omega), z2⟩
      · rintro ⟨z | z, z2⟩
        · exact ⟨.inl z, z2⟩
        · exact ⟨.inr (by omega), z2⟩
    · have h3 := ha.lt (show i < i + 1 by omega) h2
      have := h.lt q hq; omega
theorem MiO.done {a b l : List Rg} (ha : RgR a) (hb : RgR b) (h : MiO a b a.length l) : rgMinus a b = l :=
  rgMinus_is ha hb h.right fun c => by rw [h.mem, List.take_length]

end Go.Proofs.Ytkpeabbilcmabaa
