/- Directories: what chapter 5 answers, of rows of entries. No walk. Directories: an entry added, dropped, spelled anew, the next one: what each leaves. No walk. Directories: what is added is found, what is dropped is not; who goes through while it changes. No walk. -/
import Derived.Test.YtpijjinoeghgoaaGreatDoorRows
import Derived.Test.YtpijjinoeghgoaaGreatDoorMo
import Derived.Test.YtpijjinoeghgoaaGreatDoorMin
namespace Go.Proofs.YtpijjinoeghgoaaGreatDoor

section
open Go.RowKit

def lessB (e : En) (h k : Int) : Bool := decide (e.hash < h) || (decide (e.hash = h) && decide (e.index < k))
theorem lessB_iff {e : En} {h k : Int} : lessB e h k = true ↔ e.hash < h ∨ (e.hash = h ∧ e.index < k) := by
  unfold lessB; simp

theorem lessB_trans {a b : En} {h k : Int} (h1 : lessB a b.hash b.index = true) (h2 : lessB b h k = true) : lessB a h k = true := by
  rw [lessB_iff] at h1 h2 ⊢; omega

def entB (e : En) : Bool := (nameL e.name).isSome && decide (e.hash = hashN e.name) && (decide (0 ≤ e.index) && decide (e.index ≤ 12)) && (decide (1 ≤ e.id) && decide (e.id ≤ 100000))
theorem entB_iff {e : En} : entB e = true ↔ (nameL e.name).isSome = true ∧ e.hash = hashN e.name ∧ (0 ≤ e.index ∧ e.index ≤ 12) ∧ (1 ≤ e.id ∧ e.id ≤ 100000) := by
  unfold entB
  simp only [Bool.and_eq_true, decide_eq_true_eq]
  constructor
  · rintro ⟨⟨⟨a, b⟩, c⟩, d⟩; exact ⟨a, b, c, d⟩
  · rintro ⟨a, b, c, d⟩; exact ⟨⟨⟨a, b⟩, c⟩, d⟩


/-- each entry right, they rise, no two are one: of a row of any length -/
structure RightP (d : List En) : Prop where
  each : ∀ e ∈ d, entB e = true
  rise : d.Pairwise fun a b => lessB a b.hash b.index = true
  apart : d.Pairwise fun a b => alikeB a.name b.name = false
structure Right (d : List En) : Prop extends RightP d where
  len : d.length ≤ 12
def dirB (d : List En) : Bool := decide (d.length ≤ 12) && d.all entB && decide (d.Pairwise fun a b => lessB a b.hash b.index = true) && decide (d.Pairwise fun a b => alikeB a.name b.name = false)
theorem dirB_iff {d : List En} : dirB d = true ↔ Right d := by
  unfold dirB
  simp only [Bool.and_eq_true, decide_eq_true_eq, List.all_eq_true]
  constructor
  · rintro ⟨⟨⟨a, b⟩, c⟩, e⟩; exact ⟨⟨b, c, e⟩, a⟩
  · rintro ⟨⟨b, c, e⟩, a⟩; exact ⟨⟨⟨a, b⟩, c⟩, e⟩
theorem RightP.nil : RightP [] := ⟨by simp, List.Pairwise.nil, List.Pairwise.nil⟩
theorem Right.nil : Right [] := ⟨RightP.nil, by simp⟩

/-- one entry more behind a right row -/
theorem right_snoc {d : List En} {e : En} : RightP (d ++ [e]) ↔ RightP d ∧ entB e = true ∧ (∀ x ∈ d, lessB x e.hash e.index = true) ∧ (∀ x ∈ d, alikeB x.name e.name = false) := by
  constructor
  · rintro ⟨a, b, c⟩
    rw [List.pairwise_append] at b c
    exact ⟨⟨fun x hx => a x (by simp [hx]), b.1, c.1⟩, a e (by simp), fun x hx => b.2.2 x hx e (by simp), fun x hx => c.2.2 x hx e (by simp)⟩
  · rintro ⟨⟨a, b, c⟩, h1, h2, h3⟩
    refine ⟨?_, ?_, ?_⟩
    · intro x hx
      rw [List.mem_append, List.mem_singleton] at hx
      rcases hx with hx | rfl
      · exact a x hx
      · exact h1
    · rw [List.pairwise_append]
      exact ⟨b, by simp, fun x hx y hy => by rw [List.mem_singleton.1 hy]; exact h2 x hx⟩
    · rw [List.pairwise_append]
      exact ⟨c, by simp, fun x hx y hy => by rw [List.mem_singleton.1 hy]; exact h3 x hx⟩
theorem right_take {d : List En} {i : Nat} (hi : i < d.length) : RightP (d.take (i + 1)) ↔ RightP (d.take i) ∧ entB d[i]! = true ∧ (i = 0 ∨ lessB d[i - 1]! d[i]!.hash d[i]!.index = true) ∧ (∀ k, k < i → alikeB d[k]!.name d[i]!.name = false) := by
  have e : d.take (i + 1) = d.take i ++ [d[i]!] := by
    rw [List.take_succ_eq_append_getElem hi, getElem!_pos d i hi]
  rw [e, right_snoc]
  constructor
  · rintro ⟨a, b, c, f⟩
    refine ⟨a, b, ?_, ?_⟩
    · by_cases h0 : i = 0
      · exact .inl h0
      · refine .inr (c _ ?_)
        rw [getElem!_pos d (i - 1) (by omega), List.mem_take_iff_getElem]
        exact ⟨i - 1, by omega, rfl⟩
    · intro k hk
      refine f _ ?_
      rw [getElem!_pos d k (by omega), List.mem_take_iff_getElem]
      exact ⟨k, by omega, rfl⟩
  · rintro ⟨a, b, c, f⟩
    refine ⟨a, b, ?_, ?_⟩
    · intro x hx
      rw [List.mem_take_iff_getElem] at hx
      obtain ⟨k, hk, rfl⟩ := hx
      rcases c with h0 | c
      · omega
      · by_cases hk' : k = i - 1
        · subst hk'; rw [getElem!_pos d (i - 1) (by omega)] at c; exact c
        · refine lessB_trans ?_ c
          have := List.pairwise_iff_getElem.1 a.rise k (i - 1) (by simp; omega) (by simp; omega) (by omega)
          rw [List.getElem_take, List.getElem_take] at this
          rw [getElem!_pos d (i - 1) (by omega)]; exact this
    · intro x hx
      rw [List.mem_take_iff_getElem] at hx
      obtain ⟨k, hk, rfl⟩ := hx
      have := f k (by omega)
      rw [getElem!_pos d k (by omega)] at this
      exact this
theorem right_part {d : List En} (h : RightP d) (i : Nat) : RightP (d.take i) :=
  ⟨fun e he => h.each e (List.mem_of_mem_take he), h.rise.sublist (List.take_sublist _ _), h.apart.sublist (List.take_sublist _ _)⟩
end

section
open Go.RowKit

def idB (id : Int) : Bool := decide (1 ≤ id) && decide (id ≤ 100000)
end

section
open Go.RowKit

/-! what each answers in a right directory -/
end

end Go.Proofs.YtpijjinoeghgoaaGreatDoor
