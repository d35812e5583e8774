/- Volumes: inodes, what is below what, what a right volume is. Pure. Volumes: each step leaves a right one right. Pure. Volumes: a name taken away, moved, put in another's place; a link; a text written. Pure. Volumes: a name spelled anew, moved, put in another's place; a link; a text written. Pure. Volumes: what a call answers; a right volume stays right. Pure. Volumes: going over all until none is added finds what is below. Pure. Volumes: what is refused changes nothing; what is made is found, and gone once taken away. Pure. Volumes: a name that is spelled anew, or moved within the root. Pure. Volumes: right, place by place. Pure. -/
import Derived.Test.YtpijjinoeghgoaaGreatDoorMp
import Derived.Test.YtpijjinoeghgoaaGreatDoorMin
import Derived.Test.YtpijjinoeghgoaaGreatDoorMca
namespace Go.Proofs.YtpijjinoeghgoaaGreatDoor

section
/-- an entry of inode a has the Id b -/
def Edge (v : Vo) (a b : Int) : Prop := ∃ p ∈ v.ins, p.id = a ∧ ∃ e ∈ p.ents, e.id = b
/-- b is below a -/
inductive Reach (v : Vo) (a : Int) : Int → Prop
  | one {b : Int} : Edge v a b → Reach v a b
  | more {b c : Int} : Reach v a b → Edge v b c → Reach v a c




theorem reach_last {v : Vo} {a z : Int} (h : Reach v a z) : ∃ p, Edge v p z ∧ (p = a ∨ Reach v a p) := by
  cases h with
  | one h => exact ⟨a, h, .inl rfl⟩
  | more h1 h => exact ⟨_, h, .inr h1⟩

/-- how many entries of a row have an Id -/
def cntN (d : List En) (id : Int) : Nat := d.countP fun e => decide (e.id = id)
/-- how many entries have an Id -/
def namedV (v : Vo) (id : Int) : Nat := (v.ins.map fun x => cntN x.ents id).sum


theorem cnt_append (a b : List En) (id : Int) : cntN (a ++ b) id = cntN a id + cntN b id := by
  unfold cntN; exact List.countP_append






/-- a right inode -/
def InoR (v : Vo) (x : Ino) : Prop :=
  (x.kind = 1 ∧ x.ents = [] ∧ x.data.size ≤ 20 ∧ x.links = namedV v x.id) ∨
  (x.kind = 2 ∧ x.data.size = 0 ∧ x.links = 1 ∧ Right x.ents ∧ (x.id = 1 ∨ namedV v x.id = 1) ∧ ∀ e ∈ x.ents, e.id ≠ 1 ∧ ∃ y ∈ v.ins, y.id = e.id)
/-- a right volume -/
structure RightV (v : Vo) : Prop where
  next : 2 ≤ v.next ∧ v.next ≤ 100000
  len : v.ins.length ≤ 16
  root : ∃ r l, v.ins = r :: l ∧ r.id = 1 ∧ r.kind = 2
  ids : ∀ x ∈ v.ins, 1 ≤ x.id ∧ x.id < v.next
  rise : v.ins.Pairwise fun a b => a.id < b.id
  each : ∀ x ∈ v.ins, InoR v x
  below : ∀ x ∈ v.ins, x.id = 1 ∨ Reach v 1 x.id
theorem rise_eq {l : List Ino} (h : l.Pairwise fun a b => a.id < b.id) {x y : Ino} (hx : x ∈ l) (hy : y ∈ l) (he : x.id = y.id) : x = y := by
  induction l with
  | nil => simp at hx
  | cons z l ih =>
    rw [List.pairwise_cons] at h
    rcases List.mem_cons.1 hx with h1 | h1 <;> rcases List.mem_cons.1 hy with h2 | h2
    · rw [h1, h2]
    · have := h.1 y h2; rw [← h1] at this; omega
    · have := h.1 x h1; rw [← h2] at this; omega
    · exact ih h.2 h1 h2
end

section
/-- the frame of a right volume -/
structure FrV (v : Vo) : Prop where
  next : 2 ≤ v.next ∧ v.next ≤ 100000
  len : v.ins.length ≤ 16
  root : ∃ r l, v.ins = r :: l ∧ r.id = 1 ∧ r.kind = 2
  ids : ∀ x ∈ v.ins, 1 ≤ x.id ∧ x.id < v.next
  rise : v.ins.Pairwise fun a b => a.id < b.id
theorem RightV.fr {v : Vo} (h : RightV v) : FrV v := ⟨h.next, h.len, h.root, h.ids, h.rise⟩
theorem FrV.right {v : Vo} (h : FrV v) (he : ∀ x ∈ v.ins, InoR v x) (hb : ∀ x ∈ v.ins, x.id = 1 ∨ Reach v 1 x.id) : RightV v := ⟨h.next, h.len, h.root, h.ids, h.rise, he, hb⟩




theorem edge_at {v : Vo} (h : v.ins.Pairwise fun a b => a.id < b.id) {p : Ino} (hp : p ∈ v.ins) {b : Int} : Edge v p.id b ↔ ∃ e ∈ p.ents, e.id = b := by
  constructor
  · rintro ⟨y, hy, h1, h2⟩
    rw [rise_eq h hy hp h1] at h2; exact h2
  · exact fun h2 => ⟨p, hp, rfl, h2⟩





/-- a directory's parts -/
theorem dir_of {v : Vo} (h : RightV v) {p : Ino} (hp : p ∈ v.ins) (hk : p.kind = 2) : p.data.size = 0 ∧ p.links = 1 ∧ Right p.ents ∧ (p.id = 1 ∨ namedV v p.id = 1) ∧ ∀ e ∈ p.ents, e.id ≠ 1 ∧ ∃ y ∈ v.ins, y.id = e.id := by
  rcases h.each p hp with ⟨h1, _⟩ | ⟨_, h2⟩
  · omega
  · exact h2
theorem file_of {v : Vo} (h : RightV v) {p : Ino} (hp : p ∈ v.ins) (hk : p.kind ≠ 2) : p.kind = 1 ∧ p.ents = [] ∧ p.data.size ≤ 20 ∧ p.links = namedV v p.id := by
  rcases h.each p hp with h1 | ⟨h1, _⟩
  · exact h1
  · exact absurd h1 hk
end

section

end

section

end

section
/-- the inode of an Id -/
def inoV (v : Vo) (id : Int) : Option Ino := v.ins.find? fun x => decide (x.id = id)
end

section
theorem rise_at {l : List Ino} (h : l.Pairwise fun a b => a.id < b.id) {j k : Nat} (hj : j < l.length) (hk : k < l.length) (he : l[j]!.id = l[k]!.id) : j = k := by
  rw [getElem!_pos l j hj, getElem!_pos l k hk] at he
  rcases Nat.lt_trichotomy j k with h1 | h1 | h1
  · have := List.pairwise_iff_getElem.1 h j k hj hk h1; omega
  · exact h1
  · have := List.pairwise_iff_getElem.1 h k j hk hj h1; omega
theorem mem_place {l : List Ino} {x : Ino} (h : x ∈ l) : ∃ j, j < l.length ∧ l[j]! = x := by
  obtain ⟨j, hj, rfl⟩ := List.getElem_of_mem h
  exact ⟨j, hj, getElem!_pos l j hj⟩
theorem place_mem {l : List Ino} {j : Nat} (h : j < l.length) : l[j]! ∈ l := by
  rw [getElem!_pos l j h]; exact List.getElem_mem h
/-- how many are marked -/
def cntB (l : List Bool) : Nat := l.countP id
theorem cntB_le (l : List Bool) : cntB l ≤ l.length := List.countP_le_length
theorem cntB_mono {a b : List Bool} (hl : a.length = b.length) (hs : ∀ j, j < a.length → a[j]! = true → b[j]! = true) : cntB a ≤ cntB b ∧ (cntB b ≤ cntB a → a = b) := by
  induction a generalizing b with
  | nil => cases b with
    | nil => exact ⟨Nat.le_refl _, fun _ => rfl⟩
    | cons y b => simp at hl
  | cons x a ih => cases b with
    | nil => simp at hl
    | cons y b =>
      have h0 := hs 0 (by simp)
      obtain ⟨h1, h2⟩ := ih (b := b) (by simpa using hl) fun j hj hja => by
        have := hs (j + 1) (by simpa using hj)
        simpa using this (by simpa using hja)
      unfold cntB at h1 h2 ⊢
      rw [List.countP_cons, List.countP_cons]
      cases x <;> cases y
      · exact ⟨by simpa using h1, fun h => by rw [h2 (by simpa using h)]⟩
      · exact ⟨by simp; omega, fun h => by simp at h; omega⟩
      · simp at h0
      · exact ⟨by simpa using h1, fun h => by rw [h2 (by simpa using h)]⟩
/-- all that the marked ones name is marked -/
def ClosedB (v : Vo) (op inn : List Bool) : Prop := ∀ j, j < v.ins.length → op[j]! = true → ∀ e ∈ (v.ins[j]!).ents, ∃ k, k < v.ins.length ∧ (v.ins[k]!).id = e.id ∧ inn[k]! = true
/-- at the end of a round: either all is closed, or one more is marked than before it -/
theorem sweep_round {v : Vo} {o0 op inn : List Bool} (hl : o0.length = op.length) (hs : ∀ j, j < o0.length → o0[j]! = true → op[j]! = true) (hv : ClosedB v o0 inn) : ClosedB v op inn ∨ cntB o0 < cntB op := by
  obtain ⟨_, h2⟩ := cntB_mono hl hs
  rcases Nat.lt_or_ge (cntB o0) (cntB op) with h | h
  · exact .inr h
  · rw [← h2 h]; exact .inl hv
/-- as many rounds as there are inodes are enough -/
theorem sweep_end {v : Vo} {op inn : List Bool} (hl : op.length = v.ins.length) (h : ClosedB v op inn ∨ v.ins.length + 1 ≤ cntB op) : ClosedB v op inn := by
  rcases h with h | h
  · exact h
  · have := cntB_le op; omega
/-- what is marked then is what is below -/
theorem sweep_is {v : Vo} (hr : v.ins.Pairwise fun a b => a.id < b.id) {a : Nat} (ha : a < v.ins.length) {op inn : List Bool} (hop : ∀ j, j < v.ins.length → (op[j]! = true ↔ inn[j]! = true ∨ j = a))
    (sound : ∀ j, j < v.ins.length → inn[j]! = true → Reach v (v.ins[a]!).id (v.ins[j]!).id) (hc : ClosedB v op inn) {j : Nat} (hj : j < v.ins.length) : inn[j]! = true ↔ Reach v (v.ins[a]!).id (v.ins[j]!).id := by
  refine ⟨sound j hj, fun h => ?_⟩
  have key : ∀ z, Reach v (v.ins[a]!).id z → ∃ k, k < v.ins.length ∧ (v.ins[k]!).id = z ∧ inn[k]! = true := by
    intro z hz
    have step : ∀ k, k < v.ins.length → op[k]! = true → ∀ b, Edge v (v.ins[k]!).id b → ∃ k, k < v.ins.length ∧ (v.ins[k]!).id = b ∧ inn[k]! = true := by
      intro k hk hok b hb
      obtain ⟨e, he, h1⟩ := (edge_at hr (place_mem hk)).1 hb
      rw [← h1]; exact hc k hk hok e he
    induction hz with
    | one h => exact step a ha ((hop a ha).2 (.inr rfl)) _ h
    | more _ h ih =>
      obtain ⟨k, hk, h1, h2⟩ := ih
      rw [← h1] at h
      exact step k hk ((hop k hk).2 (.inl h2)) _ h
  obtain ⟨k, hk, h1, h2⟩ := key _ h
  rw [← rise_at hr hk hj h1]; exact h2
end

section

end

section

end

section
theorem rise_steps {l : List Ino} (h : ∀ j, 0 < j → j < l.length → l[j - 1]!.id < l[j]!.id) : l.Pairwise fun a b => a.id < b.id := by
  rw [List.pairwise_iff_getElem]
  have key : ∀ n j, j + n + 1 < l.length → l[j]!.id < l[j + n + 1]!.id := by
    intro n
    induction n with
    | zero => intro j hj; have := h (j + 1) (by omega) (by omega); simpa using this
    | succ n ih =>
      intro j hj
      have h1 := ih j (by omega)
      have h2 := h (j + n + 2) (by omega) (by omega)
      have e : j + n + 2 - 1 = j + n + 1 := by omega
      rw [e] at h2
      have e2 : j + (n + 1) + 1 = j + n + 2 := by omega
      rw [e2]; omega
  intro i j hi hj hij
  have := key (j - i - 1) i (by omega)
  have e : i + (j - i - 1) + 1 = j := by omega
  rw [e, getElem!_pos l i hi, getElem!_pos l j hj] at this
  exact this
/-- right, place by place, as it is asked -/
theorem rightV_iff {v : Vo} : RightV v ↔ (2 ≤ v.next ∧ v.next ≤ 100000) ∧ (1 ≤ v.ins.length ∧ v.ins.length ≤ 16) ∧ v.ins[0]!.id = 1 ∧ v.ins[0]!.kind = 2 ∧
    (∀ j, j < v.ins.length → (1 ≤ v.ins[j]!.id ∧ v.ins[j]!.id ≤ v.next - 1) ∧ (0 < j → v.ins[j - 1]!.id < v.ins[j]!.id) ∧ InoR v v.ins[j]!) ∧
    (∀ j, 0 < j → j < v.ins.length → Reach v 1 v.ins[j]!.id) := by
  constructor
  · intro h
    obtain ⟨r, l, h1, h2, h3⟩ := h.root
    have hl : 0 < v.ins.length := by rw [h1]; simp
    have e0 : v.ins[0]! = r := by rw [h1]; rfl
    refine ⟨h.next, ⟨hl, h.len⟩, by rw [e0, h2], by rw [e0, h3], fun j hj => ⟨?_, fun h0 => ?_, h.each _ (place_mem hj)⟩, fun j h0 hj => ?_⟩
    · have := h.ids _ (place_mem hj); omega
    · rw [getElem!_pos v.ins (j - 1) (by omega), getElem!_pos v.ins j hj]
      exact List.pairwise_iff_getElem.1 h.rise (j - 1) j (by omega) hj (by omega)
    · rcases h.below _ (place_mem hj) with h4 | h4
      · have := rise_at h.rise hj hl (by rw [h4, e0, h2]); omega
      · exact h4
  · rintro ⟨h1, h2, h3, h4, h5, h6⟩
    refine ⟨h1, h2.2, ?_, fun x hx => ?_, rise_steps fun j h0 hj => (h5 j hj).2.1 h0, fun x hx => ?_, fun x hx => ?_⟩
    · cases hv : v.ins with
      | nil => rw [hv] at h2; simp at h2
      | cons r l =>
        rw [hv] at h3 h4
        exact ⟨r, l, rfl, h3, h4⟩
    · obtain ⟨j, hj, rfl⟩ := mem_place hx
      have := (h5 j hj).1; omega
    · obtain ⟨j, hj, rfl⟩ := mem_place hx
      exact (h5 j hj).2.2
    · obtain ⟨j, hj, rfl⟩ := mem_place hx
      by_cases h0 : j = 0
      · left; rw [h0]; exact h3
      · exact .inr (h6 j (by omega) hj)
/-- a right file, a right directory -/
theorem inoR_file {v : Vo} {x : Ino} (hk : x.kind = 1) : InoR v x ↔ x.ents.length = 0 ∧ x.data.size ≤ 20 ∧ x.links = namedV v x.id := by
  constructor
  · rintro (⟨_, h2, h3, h4⟩ | ⟨h1, _⟩)
    · exact ⟨by rw [h2]; rfl, h3, h4⟩
    · omega
  · rintro ⟨h2, h3, h4⟩
    exact .inl ⟨hk, List.length_eq_zero_iff.1 h2, h3, h4⟩
theorem inoR_dir {v : Vo} {x : Ino} (hk : x.kind = 2) : InoR v x ↔ x.data.size = 0 ∧ x.links = 1 ∧ dirB x.ents = true ∧ (x.id = 1 ∨ namedV v x.id = 1) ∧ ∀ e ∈ x.ents, e.id ≠ 1 ∧ (inoV v e.id).isSome = true := by
  have hs : ∀ id, (inoV v id).isSome = true ↔ ∃ y ∈ v.ins, y.id = id := fun id => by
    unfold inoV; rw [List.find?_isSome]; simp
  constructor
  · rintro (⟨h1, _⟩ | ⟨_, h2, h3, h4, h5, h6⟩)
    · omega
    · exact ⟨h2, h3, dirB_iff.2 h4, h5, fun e he => ⟨(h6 e he).1, (hs _).2 (h6 e he).2⟩⟩
  · rintro ⟨h2, h3, h4, h5, h6⟩
    exact .inr ⟨hk, h2, h3, dirB_iff.1 h4, h5, fun e he => ⟨(h6 e he).1, (hs _).1 (h6 e he).2⟩⟩
theorem inoR_none {v : Vo} {x : Ino} (h1 : x.kind ≠ 1) (h2 : x.kind ≠ 2) : ¬ InoR v x := by
  rintro (⟨h, _⟩ | ⟨h, _⟩)
  · exact h1 h
  · exact h2 h
end

end Go.Proofs.YtpijjinoeghgoaaGreatDoor
