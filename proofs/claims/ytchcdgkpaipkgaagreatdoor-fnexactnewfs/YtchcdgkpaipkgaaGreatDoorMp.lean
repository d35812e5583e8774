/- Directories: what chapter 5 answers, of rows of entries. No walk. Directories: an entry added, dropped, spelled anew, the next one: what each leaves. No walk. Directories: what is added is found, what is dropped is not; who goes through while it changes. No walk. -/
import Derived.Test.YtchcdgkpaipkgaaGreatDoorRows
import Derived.Test.YtchcdgkpaipkgaaGreatDoorMo
import Derived.Test.YtchcdgkpaipkgaaGreatDoorMin
namespace Go.Proofs.YtchcdgkpaipkgaaGreatDoor

section
open Go.RowKit

def lessB (e : En) (h k : Int) : Bool := decide (e.hash < h) || (decide (e.hash = h) && decide (e.index < k))
theorem lessB_iff {e : En} {h k : Int} : lessB e h k = true ↔ e.hash < h ∨ (e.hash = h ∧ e.index < k) := by
  unfold lessB; simp
theorem lessB_not {e : En} {h k : Int} : lessB e h k = false ↔ h < e.hash ∨ (e.hash = h ∧ k ≤ e.index) := by
  rw [← Bool.not_eq_true, lessB_iff]
  omega
theorem lessB_trans {a b : En} {h k : Int} (h1 : lessB a b.hash b.index = true) (h2 : lessB b h k = true) : lessB a h k = true := by
  rw [lessB_iff] at h1 h2 ⊢; omega

def entB (e : En) : Bool := (nameL e.name).isSome && decide (e.hash = hashN e.name) && (decide (0 ≤ e.index) && decide (e.index ≤ 12)) && (decide (1 ≤ e.id) && decide (e.id ≤ 100000))
theorem entB_iff {e : En} : entB e = true ↔ (nameL e.name).isSome = true ∧ e.hash = hashN e.name ∧ (0 ≤ e.index ∧ e.index ≤ 12) ∧ (1 ≤ e.id ∧ e.id ≤ 100000) := by
  unfold entB
  simp only [Bool.and_eq_true, decide_eq_true_eq]
  constructor
  · rintro ⟨⟨⟨a, b⟩, c⟩, d⟩; exact ⟨a, b, c, d⟩
  · rintro ⟨a, b, c, d⟩; exact ⟨⟨⟨a, b⟩, c⟩, d⟩

theorem hashN_range {s : ByteArray} (h : (nameL s).isSome = true) : 0 ≤ hashN s ∧ hashN s < 16 := by
  unfold hashN
  rw [keyN_is, h]
  have := crcN_lt (keyN s).1 (keyN s).1.size
  unfold crcV
  simp only [if_true]
  rw [Int.tmod_eq_emod_of_nonneg (by omega)]
  omega

/-- each entry right, they rise, no two are one: of a row of any length -/
structure RightP (d : List En) : Prop where
  each : ∀ e ∈ d, entB e = true
  rise : d.Pairwise fun a b => lessB a b.hash b.index = true
  apart : d.Pairwise fun a b => alikeB a.name b.name = false
structure Right (d : List En) : Prop extends RightP d where
  len : d.length ≤ 12
def dirB (d : List En) : Bool := decide (d.length ≤ 12) && d.all entB && decide (d.Pairwise fun a b => lessB a b.hash b.index = true) && decide (d.Pairwise fun a b => alikeB a.name b.name = false)
theorem dirB_iff {d : List En} : dirB d = true ↔ Right d := by
  unfold dirB
  simp only [Bool.and_eq_true, decide_eq_true_eq, List.all_eq_true]
  constructor
  · rintro ⟨⟨⟨a, b⟩, c⟩, e⟩; exact ⟨⟨b, c, e⟩, a⟩
  · rintro ⟨⟨b, c, e⟩, a⟩; exact ⟨⟨⟨a, b⟩, c⟩, e⟩
theorem RightP.nil : RightP [] := ⟨by simp, List.Pairwise.nil, List.Pairwise.nil⟩
theorem Right.nil : Right [] := ⟨RightP.nil, by simp⟩

/-- one entry more behind a right row -/
theorem right_snoc {d : List En} {e : En} : RightP (d ++ [e]) ↔ RightP d ∧ entB e = true ∧ (∀ x ∈ d, lessB x e.hash e.index = true) ∧ (∀ x ∈ d, alikeB x.name e.name = false) := by
  constructor
  · rintro ⟨a, b, c⟩
    rw [List.pairwise_append] at b c
    exact ⟨⟨fun x hx => a x (by simp [hx]), b.1, c.1⟩, a e (by simp), fun x hx => b.2.2 x hx e (by simp), fun x hx => c.2.2 x hx e (by simp)⟩
  · rintro ⟨⟨a, b, c⟩, h1, h2, h3⟩
    refine ⟨?_, ?_, ?_⟩
    · intro x hx
      rw [List.mem_append, List.mem_singleton] at hx
      rcases hx with hx | rfl
      · exact a x hx
      · exact h1
    · rw [List.pairwise_append]
      exact ⟨b, by simp, fun x hx y hy => by rw [List.mem_singleton.1 hy]; exact h2 x hx⟩
    · rw [List.pairwise_append]
      exact ⟨c, by simp, fun x hx y hy => by rw [List.mem_singleton.1 hy]; exact h3 x hx⟩
theorem right_take {d : List En} {i : Nat} (hi : i < d.length) : RightP (d.take (i + 1)) ↔ RightP (d.take i) ∧ entB d[i]! = true ∧ (i = 0 ∨ lessB d[i - 1]! d[i]!.hash d[i]!.index = true) ∧ (∀ k, k < i → alikeB d[k]!.name d[i]!.name = false) := by
  have e : d.take (i + 1) = d.take i ++ [d[i]!] := by
    rw [List.take_succ_eq_append_getElem hi, getElem!_pos d i hi]
  rw [e, right_snoc]
  constructor
  · rintro ⟨a, b, c, f⟩
    refine ⟨a, b, ?_, ?_⟩
    · by_cases h0 : i = 0
      · exact .inl h0
      · refine .inr (c _ ?_)
        rw [getElem!_pos d (i - 1) (by omega), List.mem_take_iff_getElem]
        exact ⟨i - 1, by omega, rfl⟩
    · intro k hk
      refine f _ ?_
      rw [getElem!_pos d k (by omega), List.mem_take_iff_getElem]
      exact ⟨k, by omega, rfl⟩
  · rintro ⟨a, b, c, f⟩
    refine ⟨a, b, ?_, ?_⟩
    · intro x hx
      rw [List.mem_take_iff_getElem] at hx
      obtain ⟨k, hk, rfl⟩ := hx
      rcases c with h0 | c
      · omega
      · by_cases hk' : k = i - 1
        · subst hk'; rw [getElem!_pos d (i - 1) (by omega)] at c; exact c
        · refine lessB_trans ?_ c
          have := List.pairwise_iff_getElem.1 a.rise k (i - 1) (by simp; omega) (by simp; omega) (by omega)
          rw [List.getElem_take, List.getElem_take] at this
          rw [getElem!_pos d (i - 1) (by omega)]; exact this
    · intro x hx
      rw [List.mem_take_iff_getElem] at hx
      obtain ⟨k, hk, rfl⟩ := hx
      have := f k (by omega)
      rw [getElem!_pos d k (by omega)] at this
      exact this
theorem right_part {d : List En} (h : RightP d) (i : Nat) : RightP (d.take i) :=
  ⟨fun e he => h.each e (List.mem_of_mem_take he), h.rise.sublist (List.take_sublist _ _), h.apart.sublist (List.take_sublist _ _)⟩

/-- the place of the name that is one with s -/
def atN (d : List En) (s : ByteArray) : Option Nat := d.findIdx? fun e => alikeB e.name s
theorem atN_some {d : List En} {s : ByteArray} {i : Nat} (hi : i < d.length) (h : alikeB d[i]!.name s = true) (hb : ∀ k, k < i → alikeB d[k]!.name s = false) : atN d s = some i := by
  unfold atN
  rw [List.findIdx?_eq_some_iff_getElem]
  refine ⟨hi, by rw [getElem!_pos d i hi] at h; exact h, fun k hk => ?_⟩
  have := hb k hk
  rw [getElem!_pos d k (by omega)] at this
  rw [this]; simp
theorem atN_none {d : List En} {s : ByteArray} (h : ∀ k, k < d.length → alikeB d[k]!.name s = false) : atN d s = none := by
  unfold atN
  rw [List.findIdx?_eq_none_iff]
  intro e he
  obtain ⟨k, hk, rfl⟩ := List.getElem_of_mem he
  have := h k hk
  rw [getElem!_pos d k hk] at this
  exact this
theorem atN_is {d : List En} {s : ByteArray} {i : Nat} (h : atN d s = some i) : ∃ hi : i < d.length, alikeB (d[i]).name s = true := by
  unfold atN at h
  rw [List.findIdx?_eq_some_iff_getElem] at h
  exact ⟨h.1, h.2.1⟩
theorem atN_no {d : List En} {s : ByteArray} (h : atN d s = none) : ∀ e ∈ d, alikeB e.name s = false := by
  unfold atN at h
  rw [List.findIdx?_eq_none_iff] at h
  exact h
/-- in a right row there is one place at most -/
theorem atN_eq {d : List En} (hr : RightP d) {s : ByteArray} {i : Nat} (hi : i < d.length) (h : alikeB (d[i]).name s = true) : atN d s = some i := by
  refine atN_some hi (by rw [getElem!_pos d i hi]; exact h) fun k hk => ?_
  rw [getElem!_pos d k (by omega)]
  cases hc : alikeB (d[k]).name s
  · rfl
  · have h1 := List.pairwise_iff_getElem.1 hr.apart k i (by omega) hi hk
    have h2 : alikeB (d[k]).name (d[i]).name = true := by
      rw [alike_sym] at hc
      have := alike_next hc (d[i]).name
      rw [this, alike_sym]; exact h
    rw [h1] at h2; cases h2

/-- the least index that no entry of this hash has, of the indexes from k on -/
def lstN (h : Int) : Int → List En → Int
  | k, [] => k
  | k, e :: d => lstN h (if e.hash = h ∧ e.index = k then k + 1 else k) d
theorem lstN_snoc (h : Int) (k : Int) (d : List En) (e : En) : lstN h k (d ++ [e]) = if e.hash = h ∧ e.index = lstN h k d then lstN h k d + 1 else lstN h k d := by
  induction d generalizing k with
  | nil => rfl
  | cons x d ih => exact ih _
theorem lstN_range (h : Int) (k : Int) (d : List En) : k ≤ lstN h k d ∧ lstN h k d ≤ k + d.length := by
  induction d generalizing k with
  | nil => simp [lstN]
  | cons x d ih =>
    by_cases hc : x.hash = h ∧ x.index = k
    · have := ih (k + 1)
      simp only [lstN, hc, and_self, if_true, List.length_cons]; omega
    · have := ih k
      simp only [lstN, hc, if_false, List.length_cons]; omega
theorem lstN_past {h : Int} {k : Int} {d : List En} (hg : ∀ e ∈ d, e.hash = h → k < e.index) : lstN h k d = k := by
  induction d generalizing k with
  | nil => rfl
  | cons x d ih =>
    have hx := hg x (by simp)
    have : ¬ (x.hash = h ∧ x.index = k) := fun hc => by have := hx hc.1; omega
    simp only [lstN, this, if_false]
    exact ih fun e he => hg e (by simp [he])
theorem lstN_free {h : Int} {k : Int} {d : List En} (hr : d.Pairwise fun a b => lessB a b.hash b.index = true) (hg : ∀ e ∈ d, e.hash = h → k ≤ e.index) : ∀ e ∈ d, e.hash = h → e.index ≠ lstN h k d := by
  induction d generalizing k with
  | nil => simp
  | cons x d ih =>
    have hx := hg x (by simp)
    rw [List.pairwise_cons] at hr
    have hl : ∀ e ∈ d, e.hash = h → x.hash = h → x.index < e.index := fun e he h1 h2 => by
      have := lessB_iff.1 (hr.1 e he); omega
    intro e he hh
    rw [List.mem_cons] at he
    by_cases hc : x.hash = h ∧ x.index = k
    · simp only [lstN, hc, and_self, if_true]
      rcases he with rfl | he
      · have := (lstN_range h (k + 1) d).1; omega
      · exact ih hr.2 (fun e he h1 => by have := hl e he h1 hc.1; omega) e he hh
    · simp only [lstN, hc, if_false]
      by_cases hxh : x.hash = h
      · have hp : lstN h k d = k := lstN_past fun e he h1 => by have := hl e he h1 hxh; have := hx hxh; omega
        rw [hp]
        rcases he with rfl | he
        · exact fun h2 => hc ⟨hh, h2⟩
        · have := hl e he hh hxh; have := hx hxh; omega
      · rcases he with rfl | he
        · exact absurd hh hxh
        · exact ih hr.2 (fun e he => hg e (by simp [he])) e he hh
theorem lstN_least {h : Int} {k : Int} {d : List En} : ∀ j, k ≤ j → j < lstN h k d → ∃ e ∈ d, e.hash = h ∧ e.index = j := by
  induction d generalizing k with
  | nil => intro j h1 h2; simp [lstN] at h2; omega
  | cons x d ih =>
    intro j h1 h2
    by_cases hc : x.hash = h ∧ x.index = k
    · by_cases hj : j = k
      · exact ⟨x, by simp, hc.1, by omega⟩
      · simp only [lstN, hc, and_self, if_true] at h2
        obtain ⟨e, he, h3⟩ := ih j (by omega) h2
        exact ⟨e, by simp [he], h3⟩
    · simp only [lstN, hc, if_false] at h2
      obtain ⟨e, he, h3⟩ := ih j h1 h2
      exact ⟨e, by simp [he], h3⟩
/-- whoever finds the least free index finds this one -/
theorem lstN_eq {d : List En} (hr : RightP d) {h r : Int} (h0 : 0 ≤ r) (hf : ∀ e ∈ d, e.hash = h → e.index ≠ r) (hl : ∀ j, 0 ≤ j → j < r → ∃ e ∈ d, e.hash = h ∧ e.index = j) : lstN h 0 d = r := by
  have hg : ∀ e ∈ d, e.hash = h → 0 ≤ e.index := fun e he _ => (entB_iff.1 (hr.each e he)).2.2.1.1
  have h1 := lstN_free hr.rise hg
  have h2 := lstN_least (h := h) (k := 0) (d := d)
  have h3 := (lstN_range h 0 d).1
  rcases Int.lt_trichotomy (lstN h 0 d) r with h | h | h
  · obtain ⟨e, he, h4, h5⟩ := hl _ h3 h
    exact absurd h5 (h1 e he h4)
  · exact h
  · obtain ⟨e, he, h4, h5⟩ := h2 r h0 h
    exact absurd h5 (hf e he h4)
end

section
open Go.RowKit

def idB (id : Int) : Bool := decide (1 ≤ id) && decide (id ≤ 100000)
theorem idB_iff {id : Int} : idB id = true ↔ 1 ≤ id ∧ id ≤ 100000 := by unfold idB; simp
/-- with e at its place -/
def insN (d : List En) (e : En) : List En := d.takeWhile (fun x => lessB x e.hash e.index) ++ e :: d.dropWhile (fun x => lessB x e.hash e.index)
def newE (d : List En) (s : ByteArray) (id : Int) : En := ⟨hashN s, lstN (hashN s) 0 d, s, id⟩
def addOk (d : List En) (s : ByteArray) (id : Int) : Bool := (nameL s).isSome && (atN d s).isNone && idB id && decide (d.length < 12)
def addN (d : List En) (s : ByteArray) (id : Int) : List En × Bool := if dirB d then (if addOk d s id then (insN d (newE d s id), true) else (d, false)) else ([], false)
def dropN (d : List En) (s : ByteArray) : List En × Bool := if dirB d then (match atN d s with | some i => (d.eraseIdx i, true) | none => (d, false)) else ([], false)
def respE (e : En) (s : ByteArray) (id : Int) : En := ⟨e.hash, e.index, s, id⟩
def respN (d : List En) (s : ByteArray) (id : Int) : List En × Bool := if dirB d then (match atN d s with | some i => if idB id then (d.set i (respE d[i]! s id), true) else (d, false) | none => (d, false)) else ([], false)
def lookN (d : List En) (s : ByteArray) : En × Bool := if dirB d then (match atN d s with | some i => (d[i]!, true) | none => (default, false)) else (default, false)
def behB (e : En) (h k : Int) : Bool := !lessB e h k && (!decide (e.hash = h) || !decide (e.index = k))
theorem behB_iff {e : En} {h k : Int} : behB e h k = true ↔ h < e.hash ∨ (e.hash = h ∧ k < e.index) := by
  unfold behB
  rw [Bool.and_eq_true, Bool.not_eq_true', lessB_not]
  simp only [Bool.or_eq_true, Bool.not_eq_true', decide_eq_false_iff_not]
  omega
def nextN (d : List En) (h k : Int) : En × Bool := if dirB d then (match d.find? (fun e => behB e h k) with | some e => (e, true) | none => (default, false)) else (default, false)

theorem mem_split (d : List En) (p : En → Bool) (x : En) : x ∈ d ↔ x ∈ d.takeWhile p ∨ x ∈ d.dropWhile p := by
  rw [← List.mem_append, List.takeWhile_append_dropWhile]
theorem mem_ins {d : List En} {e x : En} : x ∈ insN d e ↔ x = e ∨ x ∈ d := by
  unfold insN
  rw [List.mem_append, List.mem_cons, mem_split d (fun x => lessB x e.hash e.index) x]
  constructor
  · rintro (h | h | h)
    · exact .inr (.inl h)
    · exact .inl h
    · exact .inr (.inr h)
  · rintro (h | h | h)
    · exact .inr (.inl h)
    · exact .inl h
    · exact .inr (.inr h)
theorem ins_len (d : List En) (e : En) : (insN d e).length = d.length + 1 := by
  unfold insN
  have := congrArg List.length (List.takeWhile_append_dropWhile (p := fun x => lessB x e.hash e.index) (l := d))
  rw [List.length_append] at this
  rw [List.length_append, List.length_cons]; omega
theorem take_less {d : List En} {e x : En} (h : x ∈ d.takeWhile (fun x => lessB x e.hash e.index)) : lessB x e.hash e.index = true := by
  have := List.all_eq_true.1 (List.all_takeWhile (l := d) (p := fun x => lessB x e.hash e.index)) x h
  exact this
theorem drop_not {d : List En} (hr : d.Pairwise fun a b => lessB a b.hash b.index = true) {h k : Int} {x : En} (hx : x ∈ d.dropWhile (fun x => lessB x h k)) : lessB x h k = false := by
  induction d with
  | nil => simp at hx
  | cons y d ih =>
    rw [List.pairwise_cons] at hr
    rw [List.dropWhile_cons] at hx
    split at hx
    · exact ih hr.2 hx
    · rename_i hc
      rw [List.mem_cons] at hx
      rcases hx with rfl | hx
      · simpa using hc
      · have h1 := hr.1 x hx
        cases h2 : lessB x h k
        · rfl
        · exact absurd (lessB_trans h1 h2) hc
theorem right_ins {d : List En} (hr : RightP d) {e : En} (he : entB e = true) (hf : ∀ x ∈ d, x.hash = e.hash → x.index ≠ e.index) (ha : ∀ x ∈ d, alikeB x.name e.name = false) : RightP (insN d e) := by
  have hs := List.takeWhile_append_dropWhile (p := fun x => lessB x e.hash e.index) (l := d)
  refine ⟨?_, ?_, ?_⟩
  · intro x hx
    rcases mem_ins.1 hx with rfl | hx
    · exact he
    · exact hr.each x hx
  · have h0 := hr.rise
    rw [← hs, List.pairwise_append] at h0
    unfold insN
    rw [List.pairwise_append, List.pairwise_cons]
    refine ⟨h0.1, ⟨?_, h0.2.1⟩, ?_⟩
    · intro b hb
      have h1 := lessB_not.1 (drop_not hr.rise hb)
      have h2 := hf b ((mem_split d _ b).2 (.inr hb))
      rw [lessB_iff]; omega
    · intro a ha b hb
      rw [List.mem_cons] at hb
      rcases hb with rfl | hb
      · exact take_less ha
      · exact h0.2.2 a ha b hb
  · have h0 := hr.apart
    rw [← hs, List.pairwise_append] at h0
    unfold insN
    rw [List.pairwise_append, List.pairwise_cons]
    refine ⟨h0.1, ⟨?_, h0.2.1⟩, ?_⟩
    · intro b hb
      rw [alike_sym]
      exact ha b ((mem_split d _ b).2 (.inr hb))
    · intro a ha' b hb
      rw [List.mem_cons] at hb
      rcases hb with rfl | hb
      · exact ha a ((mem_split d _ a).2 (.inl ha'))
      · exact h0.2.2 a ha' b hb
theorem addOk_iff {d : List En} {s : ByteArray} {id : Int} : addOk d s id = true ↔ (nameL s).isSome = true ∧ atN d s = none ∧ idB id = true ∧ d.length < 12 := by
  unfold addOk
  simp only [Bool.and_eq_true, decide_eq_true_eq, Option.isNone_iff_eq_none]
  constructor
  · rintro ⟨⟨⟨a, b⟩, c⟩, d⟩; exact ⟨a, b, c, d⟩
  · rintro ⟨a, b, c, d⟩; exact ⟨⟨⟨a, b⟩, c⟩, d⟩
theorem newE_ok {d : List En} (hr : Right d) {s : ByteArray} {id : Int} (ho : addOk d s id = true) : entB (newE d s id) = true ∧ (∀ x ∈ d, x.hash = (newE d s id).hash → x.index ≠ (newE d s id).index) ∧ ∀ x ∈ d, alikeB x.name (newE d s id).name = false := by
  obtain ⟨h1, h2, h3, h4⟩ := addOk_iff.1 ho
  have hg : ∀ e ∈ d, e.hash = hashN s → 0 ≤ e.index := fun e he _ => (entB_iff.1 (hr.each e he)).2.2.1.1
  have := lstN_range (hashN s) 0 d
  refine ⟨entB_iff.2 ⟨h1, rfl, ?_, idB_iff.1 h3⟩, fun x hx hh => lstN_free hr.rise hg x hx hh, fun x hx => atN_no h2 x hx⟩
  unfold newE; dsimp only; omega
theorem right_add {d : List En} (hr : Right d) {s : ByteArray} {id : Int} (ho : addOk d s id = true) : Right (insN d (newE d s id)) := by
  obtain ⟨a, b, c⟩ := newE_ok hr ho
  have := (addOk_iff.1 ho).2.2.2
  exact ⟨right_ins hr.toRightP a b c, by rw [ins_len]; omega⟩
theorem ins_at (d : List En) (e : En) : (insN d e)[(d.takeWhile (fun x => lessB x e.hash e.index)).length]! = e := by
  unfold insN
  rw [getElem!_pos _ _ (by simp)]; simp
/-- the new one is found by each spelling, at its place -/
theorem at_ins {d : List En} {e : En} (hr : RightP (insN d e)) {s : ByteArray} (ha : alikeB e.name s = true) : atN (insN d e) s = some (d.takeWhile (fun x => lessB x e.hash e.index)).length := by
  have hi : (d.takeWhile (fun x => lessB x e.hash e.index)).length < (insN d e).length := by unfold insN; rw [List.length_append, List.length_cons]; omega
  refine atN_eq hr hi ?_
  rw [← getElem!_pos (insN d e) _ hi, ins_at]; exact ha
theorem ins_erase (d : List En) (e : En) : (insN d e).eraseIdx (d.takeWhile (fun x => lessB x e.hash e.index)).length = d := by
  unfold insN
  rw [List.eraseIdx_append_of_length_le (Nat.le_refl _)]
  simp [List.takeWhile_append_dropWhile]
theorem right_erase {d : List En} (hr : Right d) (i : Nat) : Right (d.eraseIdx i) :=
  ⟨⟨fun e he => hr.each e (List.mem_of_mem_eraseIdx he), hr.rise.sublist (List.eraseIdx_sublist d i), hr.apart.sublist (List.eraseIdx_sublist d i)⟩, Nat.le_trans (List.eraseIdx_sublist d i).length_le hr.len⟩
theorem alike_swap {a b c : ByteArray} (h : alikeB a b = true) : alikeB c b = alikeB c a := by
  rw [alike_sym b c, alike_sym a c]; exact alike_next h c
theorem right_set {d : List En} (hr : Right d) {s : ByteArray} {id : Int} {i : Nat} (hi : i < d.length) (ha : alikeB (d[i]).name s = true) (hd : idB id = true) : Right (d.set i (respE d[i]! s id)) := by
  have e : d[i]! = d[i] := getElem!_pos d i hi
  have he := entB_iff.1 (hr.each d[i] (List.getElem_mem hi))
  rw [e]
  refine ⟨⟨?_, ?_, ?_⟩, by rw [List.length_set]; exact hr.len⟩
  · intro x hx
    rcases List.mem_or_eq_of_mem_set hx with hx | rfl
    · exact hr.each x hx
    · exact entB_iff.2 ⟨by rw [alike_sym] at ha; exact alike_name ha, by rw [respE]; dsimp only; rw [alike_hash ha]; exact he.2.1, he.2.2.1, idB_iff.1 hd⟩
  · rw [List.pairwise_iff_getElem]
    intro j k hj hk hjk
    have h0 := List.pairwise_iff_getElem.1 hr.rise j k (by simpa using hj) (by simpa using hk) hjk
    rw [List.getElem_set, List.getElem_set]
    split
    · rename_i h1; subst h1
      rw [if_neg (by omega)]; exact h0
    · split
      · rename_i h1; subst h1; exact h0
      · exact h0
  · rw [List.pairwise_iff_getElem]
    intro j k hj hk hjk
    have h0 := List.pairwise_iff_getElem.1 hr.apart j k (by simpa using hj) (by simpa using hk) hjk
    rw [List.getElem_set, List.getElem_set]
    split
    · rename_i h1; subst h1
      rw [if_neg (by omega)]
      show alikeB s _ = false
      rw [alike_next ha]; exact h0
    · split
      · rename_i h1; subst h1
        show alikeB _ s = false
        rw [alike_swap ha]; exact h0
      · exact h0

/-- Next from each entry is the one behind it -/
theorem find_at {d : List En} {h k : Int} {i : Nat} (hi : i < d.length) (hb : ∀ j, j < i → behB d[j]! h k = false) (ha : behB d[i]! h k = true) : d.find? (fun e => behB e h k) = some d[i]! := by
  rw [getElem!_pos d i hi] at ha ⊢
  rw [List.find?_eq_some_iff_getElem]
  refine ⟨ha, i, hi, rfl, fun j hj => ?_⟩
  have := hb j hj
  rw [getElem!_pos d j (by omega)] at this
  simp [this]
theorem find_no {d : List En} {h k : Int} (hb : ∀ j, j < d.length → behB d[j]! h k = false) : d.find? (fun e => behB e h k) = none := by
  rw [List.find?_eq_none]
  intro e he
  obtain ⟨j, hj, rfl⟩ := List.getElem_of_mem he
  have := hb j hj
  rw [getElem!_pos d j hj] at this
  simp [this]
theorem beh_rise {d : List En} (hr : RightP d) {i j : Nat} (hi : i < d.length) (hj : j < d.length) : behB d[j]! d[i]!.hash d[i]!.index = decide (i < j) := by
  rw [getElem!_pos d j hj, getElem!_pos d i hi]
  rw [Bool.eq_iff_iff, decide_eq_true_eq, behB_iff]
  rcases Nat.lt_trichotomy i j with h | h | h
  · have := lessB_iff.1 (List.pairwise_iff_getElem.1 hr.rise i j hi hj h); omega
  · subst h; omega
  · have := lessB_iff.1 (List.pairwise_iff_getElem.1 hr.rise j i hj hi h); omega
theorem next_start {d : List En} (hr : Right d) (k : Int) (h0 : 0 < d.length) : nextN d (-1) k = (d[0]!, true) := by
  unfold nextN
  rw [if_pos (dirB_iff.2 hr), find_at h0 (by omega)]
  rw [getElem!_pos d 0 h0, behB_iff]
  have he := entB_iff.1 (hr.each d[0] (List.getElem_mem h0))
  have := hashN_range he.1
  omega
theorem next_none {h k : Int} : nextN [] h k = (default, false) := by
  unfold nextN
  rw [if_pos (dirB_iff.2 Right.nil)]; rfl
theorem next_at {d : List En} (hr : Right d) {i : Nat} (hi : i + 1 < d.length) : nextN d d[i]!.hash d[i]!.index = (d[i + 1]!, true) := by
  unfold nextN
  rw [if_pos (dirB_iff.2 hr), find_at hi (fun j hj => by rw [beh_rise hr.toRightP (by omega) (by omega)]; simp; omega) (by rw [beh_rise hr.toRightP (by omega) hi]; simp)]
theorem next_end {d : List En} (hr : Right d) {i : Nat} (hi : i + 1 = d.length) : nextN d d[i]!.hash d[i]!.index = (default, false) := by
  unfold nextN
  rw [if_pos (dirB_iff.2 hr), find_no fun j hj => by rw [beh_rise hr.toRightP (by omega) hj]; simp; omega]
end

section
open Go.RowKit

/-! what each answers in a right directory -/
theorem addN_yes {d : List En} (hr : Right d) {s : ByteArray} {id : Int} (ho : addOk d s id = true) : addN d s id = (insN d (newE d s id), true) := by
  unfold addN; rw [if_pos (dirB_iff.2 hr), if_pos ho]
theorem addN_no {d : List En} (hr : Right d) {s : ByteArray} {id : Int} (ho : addOk d s id = false) : addN d s id = (d, false) := by
  unfold addN; rw [if_pos (dirB_iff.2 hr), if_neg (by rw [ho]; exact Bool.false_ne_true)]
theorem dropN_yes {d : List En} (hr : Right d) {s : ByteArray} {i : Nat} (h : atN d s = some i) : dropN d s = (d.eraseIdx i, true) := by
  unfold dropN; rw [if_pos (dirB_iff.2 hr), h]
theorem dropN_no {d : List En} (hr : Right d) {s : ByteArray} (h : atN d s = none) : dropN d s = (d, false) := by
  unfold dropN; rw [if_pos (dirB_iff.2 hr), h]
theorem lookN_yes {d : List En} (hr : Right d) {s : ByteArray} {i : Nat} (h : atN d s = some i) : lookN d s = (d[i]!, true) := by
  unfold lookN; rw [if_pos (dirB_iff.2 hr), h]
theorem lookN_no {d : List En} (hr : Right d) {s : ByteArray} (h : atN d s = none) : lookN d s = (default, false) := by
  unfold lookN; rw [if_pos (dirB_iff.2 hr), h]
theorem respN_yes {d : List En} (hr : Right d) {s : ByteArray} {id : Int} {i : Nat} (h : atN d s = some i) (hd : idB id = true) : respN d s id = (d.set i (respE d[i]! s id), true) := by
  unfold respN; rw [if_pos (dirB_iff.2 hr), h]; dsimp only; rw [if_pos hd]
theorem wrong {d : List En} (hr : dirB d = false) (s : ByteArray) (id h k : Int) : addN d s id = ([], false) ∧ dropN d s = ([], false) ∧ respN d s id = ([], false) ∧ lookN d s = (default, false) ∧ nextN d h k = (default, false) := by
  unfold addN dropN respN lookN nextN
  rw [hr]; exact ⟨rfl, rfl, rfl, rfl, rfl⟩
theorem add_right {d : List En} (hr : Right d) (s : ByteArray) (id : Int) : Right (addN d s id).1 := by
  cases ho : addOk d s id
  · rw [addN_no hr ho]; exact hr
  · rw [addN_yes hr ho]; exact right_add hr ho
theorem drop_right {d : List En} (hr : Right d) (s : ByteArray) : Right (dropN d s).1 := by
  cases h : atN d s with
  | none => rw [dropN_no hr h]; exact hr
  | some i => rw [dropN_yes hr h]; exact right_erase hr i
theorem look_mem {d : List En} {s : ByteArray} (h : (lookN d s).2 = true) : (lookN d s).1 ∈ d := by
  unfold lookN at h ⊢
  split at h
  · rename_i hd
    rw [if_pos hd]
    cases ha : atN d s with
    | none => rw [ha] at h; cases h
    | some i =>
      obtain ⟨hi, _⟩ := atN_is ha
      show d[i]! ∈ d
      rw [getElem!_pos d i hi]; exact List.getElem_mem hi
  · cases h
theorem next_mem {d : List En} {h k : Int} (hn : (nextN d h k).2 = true) : (nextN d h k).1 ∈ d ∧ behB (nextN d h k).1 h k = true := by
  unfold nextN at hn ⊢
  split at hn
  · rename_i hd
    rw [if_pos hd]
    cases ha : d.find? (fun e => behB e h k) with
    | none => rw [ha] at hn; cases hn
    | some e => exact ⟨List.mem_of_find?_eq_some ha, List.find?_some (p := fun e => behB e h k) ha⟩
  · cases hn
/-- none stands between -/
theorem next_first {d : List En} (hr : Right d) {h k : Int} (hn : (nextN d h k).2 = true) {x : En} (hx : x ∈ d) (hb : behB x h k = true) : x = (nextN d h k).1 ∨ behB x (nextN d h k).1.hash (nextN d h k).1.index = true := by
  unfold nextN at hn ⊢
  rw [if_pos (dirB_iff.2 hr)] at hn ⊢
  cases ha : d.find? (fun e => behB e h k) with
  | none => rw [ha] at hn; cases hn
  | some e =>
    show x = e ∨ behB x e.hash e.index = true
    rw [List.find?_eq_some_iff_getElem] at ha
    obtain ⟨h1, i, hi, rfl, h2⟩ := ha
    obtain ⟨j, hj, rfl⟩ := List.getElem_of_mem hx
    rcases Nat.lt_trichotomy j i with h | h | h
    · have := h2 j h
      rw [hb] at this; cases this
    · subst h; exact .inl rfl
    · right
      rw [behB_iff]
      have := lessB_iff.1 (List.pairwise_iff_getElem.1 hr.rise i j hi hj h); omega
theorem next_stop {d : List En} (hr : Right d) {h k : Int} (hn : (nextN d h k).2 = false) {x : En} (hx : x ∈ d) : behB x h k = false := by
  unfold nextN at hn
  rw [if_pos (dirB_iff.2 hr)] at hn
  cases ha : d.find? (fun e => behB e h k) with
  | none => rw [List.find?_eq_none] at ha; simpa using ha x hx
  | some e => rw [ha] at hn; cases hn

/-- who goes through: what he has seen, what there ever was, what was there all the time -/
structure CurI (d ever all seen : List En) (h k : Int) : Prop where
  right : Right d
  ever_ : ∀ e ∈ d, e ∈ ever
  all_ : ∀ e ∈ all, e ∈ d
  rise : seen.Pairwise fun a b => lessB a b.hash b.index = true
  low : ∀ e ∈ seen, behB e h k = false
  met : ∀ e ∈ all, behB e h k = false → e ∈ seen
  was : ∀ e ∈ seen, e ∈ ever
theorem CurI.start {d : List En} (hr : Right d) : CurI d d d [] (-1) (-1) := {
  right := hr
  ever_ := fun _ h => h
  all_ := fun _ h => h
  rise := List.Pairwise.nil
  low := fun e he => by simp at he
  met := fun e he hb => by
    have := entB_iff.1 (hr.each e he)
    have h2 := hashN_range this.1
    have : behB e (-1) (-1) = true := behB_iff.2 (by omega)
    rw [hb] at this; cases this
  was := fun e he => by simp at he }
theorem CurI.next {d ever all seen : List En} {h k : Int} (c : CurI d ever all seen h k) (hn : (nextN d h k).2 = true) : CurI d ever all (seen ++ [(nextN d h k).1]) (nextN d h k).1.hash (nextN d h k).1.index := by
  have hm := next_mem hn
  have hf := fun x hx hb => next_first c.right hn (x := x) hx hb
  generalize (nextN d h k).1 = e at *
  have hb := behB_iff.1 hm.2
  have low' : ∀ x : En, behB x h k = false → lessB x e.hash e.index = true := fun x hx => by
    have : ¬ behB x h k = true := by rw [hx]; exact Bool.false_ne_true
    rw [behB_iff] at this
    rw [lessB_iff]; omega
  refine { right := c.right, ever_ := c.ever_, all_ := c.all_, rise := ?_, low := ?_, met := ?_, was := ?_ }
  · rw [List.pairwise_append]
    exact ⟨c.rise, by simp, fun x hx y hy => by rw [List.mem_singleton.1 hy]; exact low' x (c.low x hx)⟩
  · intro x hx
    rw [List.mem_append, List.mem_singleton] at hx
    rw [← Bool.not_eq_true, behB_iff]
    rcases hx with hx | rfl
    · have := lessB_iff.1 (low' x (c.low x hx)); omega
    · omega
  · intro x hx hxb
    rw [List.mem_append, List.mem_singleton]
    cases h1 : behB x h k
    · exact .inl (c.met x hx h1)
    · rcases hf x (c.all_ x hx) h1 with h2 | h2
      · exact .inr h2
      · rw [hxb] at h2; cases h2
  · intro x hx
    rw [List.mem_append, List.mem_singleton] at hx
    rcases hx with hx | rfl
    · exact c.was x hx
    · exact c.ever_ x hm.1
theorem CurI.change {d ever all seen : List En} {h k : Int} (c : CurI d ever all seen h k) {d' ever' all' : List En} (hr : Right d') (h1 : ∀ e ∈ ever, e ∈ ever') (h2 : ∀ e ∈ d', e ∈ ever') (h3 : ∀ e ∈ all', e ∈ all ∧ e ∈ d') : CurI d' ever' all' seen h k :=
  { right := hr, ever_ := h2, all_ := fun e he => (h3 e he).2, rise := c.rise, low := c.low, met := fun e he => c.met e (h3 e he).1, was := fun e he => h1 e (c.was e he) }
/-- those that were there all the time and still are -/
def stayN (d all : List En) : List En := all.filter fun a => decide (lookN d a.name = (a, true))
theorem stay_of {d all : List En} {e : En} (h : e ∈ stayN d all) : e ∈ all ∧ e ∈ d := by
  unfold stayN at h
  rw [List.mem_filter, decide_eq_true_eq] at h
  refine ⟨h.1, ?_⟩
  have := look_mem (d := d) (s := e.name) (by rw [h.2])
  rw [h.2] at this; exact this
theorem CurI.added {d ever all seen : List En} {h k : Int} (c : CurI d ever all seen h k) (s : ByteArray) (id : Int) (ho : addOk d s id = true) : lookN (addN d s id).1 s = (newE d s id, true) ∧ CurI (addN d s id).1 (ever ++ [newE d s id]) (stayN (addN d s id).1 all) seen h k := by
  have hr := right_add c.right ho
  rw [addN_yes c.right ho]
  constructor
  · have hs : alikeB (newE d s id).name s = true := by
      show alikeB s s = true
      rw [alike_self]; exact (addOk_iff.1 ho).1
    rw [lookN_yes hr (at_ins hr.toRightP hs), ins_at]
  · refine c.change hr (fun e he => by simp [he]) (fun e he => ?_) fun e he => stay_of he
    rcases mem_ins.1 he with rfl | he
    · simp
    · simp [c.ever_ e he]
theorem CurI.kept {d ever all seen : List En} {h k : Int} (c : CurI d ever all seen h k) : CurI d ever (stayN d all) seen h k :=
  c.change c.right (fun _ he => he) c.ever_ fun _ he => stay_of he
theorem CurI.dropped {d ever all seen : List En} {h k : Int} (c : CurI d ever all seen h k) (s : ByteArray) : CurI (dropN d s).1 ever (stayN (dropN d s).1 all) seen h k := by
  refine c.change (drop_right c.right s) (fun e he => he) (fun e he => ?_) fun e he => stay_of he
  refine c.ever_ e ?_
  cases h : atN d s with
  | none => rw [dropN_no c.right h] at he; exact he
  | some i => rw [dropN_yes c.right h] at he; exact List.mem_of_mem_eraseIdx he
/-- how many still stand behind -/
def leftN (d : List En) (h k : Int) : Nat := d.countP fun e => behB e h k
theorem left_next {d : List En} {h k : Int} (hn : (nextN d h k).2 = true) : leftN d (nextN d h k).1.hash (nextN d h k).1.index < leftN d h k := by
  have hm := next_mem hn
  generalize (nextN d h k).1 = e at *
  have hb := behB_iff.1 hm.2
  have hself : behB e e.hash e.index = false := by rw [← Bool.not_eq_true, behB_iff]; omega
  have himp : ∀ x : En, behB x e.hash e.index = true → behB x h k = true := fun x hx => by
    rw [behB_iff] at hx ⊢; omega
  obtain ⟨i, hi, rfl⟩ := List.getElem_of_mem hm.1
  unfold leftN
  have hs : d = d.take i ++ d[i] :: d.drop (i + 1) := by simp
  generalize d[i] = e at *
  rw [hs, List.countP_append, List.countP_append, List.countP_cons, List.countP_cons, hself, hm.2]
  have h1 := List.countP_mono_left (l := d.take i) (fun x _ h => himp x h)
  have h2 := List.countP_mono_left (l := d.drop (i + 1)) (fun x _ h => himp x h)
  simp; omega
theorem left_none {d : List En} {h k : Int} (hn : leftN d h k = 0) : (nextN d h k).2 = false := by
  cases hc : (nextN d h k).2
  · rfl
  · have := left_next hc; omega
theorem left_le {d : List En} (hr : Right d) (h k : Int) : leftN d h k ≤ 12 := Nat.le_trans List.countP_le_length hr.len
/-- at the end: each that was there all the time is met just once, and none that never was -/
theorem CurI.done {d ever all seen : List En} {h k : Int} (c : CurI d ever all seen h k) (hn : (nextN d h k).2 = false) : ∀ e ∈ all, seen.countP (fun x => decide (x = e)) = 1 := by
  intro e he
  have hm : e ∈ seen := c.met e he (next_stop c.right hn (c.all_ e he))
  have hnd : seen.Nodup := c.rise.imp fun h e => by
    subst e
    have := lessB_iff.1 h; omega
  have h1 := List.nodup_iff_count.1 hnd e
  have h2 := List.count_pos_iff.2 hm
  have h3 : seen.countP (fun x => decide (x = e)) = seen.count e := by
    unfold List.count
    congr 1
  omega
end

end Go.Proofs.YtchcdgkpaipkgaaGreatDoor
