/- Volumes: inodes, what is below what, what a right volume is. Pure. Volumes: each step leaves a right one right. Pure. Volumes: a name taken away, moved, put in another's place; a link; a text written. Pure. Volumes: a name spelled anew, moved, put in another's place; a link; a text written. Pure. Volumes: what a call answers; a right volume stays right. Pure. Volumes: going over all until none is added finds what is below. Pure. Volumes: what is refused changes nothing; what is made is found, and gone once taken away. Pure. Volumes: a name that is spelled anew, or moved within the root. Pure. Volumes: right, place by place. Pure. -/
import Derived.Test.YtchcdgkpaipkgaaGreatDoorMp
import Derived.Test.YtchcdgkpaipkgaaGreatDoorMin
import Derived.Test.YtchcdgkpaipkgaaGreatDoorMca
namespace Go.Proofs.YtchcdgkpaipkgaaGreatDoor

section
/-- an entry of inode a has the Id b -/
def Edge (v : Vo) (a b : Int) : Prop := ∃ p ∈ v.ins, p.id = a ∧ ∃ e ∈ p.ents, e.id = b
/-- b is below a -/
inductive Reach (v : Vo) (a : Int) : Int → Prop
  | one {b : Int} : Edge v a b → Reach v a b
  | more {b c : Int} : Reach v a b → Edge v b c → Reach v a c

/-- where only edges to S are gone: what was reached is reached still, or lies in S or below it -/
theorem reach_or {v v' : Vo} {S : Int → Prop} (hE : ∀ p z, Edge v p z → ¬ S z → Edge v' p z) {a z : Int} (h : Reach v a z) : (∃ s, S s ∧ (z = s ∨ Reach v s z)) ∨ Reach v' a z := by
  induction h with
  | one h =>
    rename_i b
    by_cases hs : S b
    · exact .inl ⟨b, hs, .inl rfl⟩
    · exact .inr (.one (hE _ _ h hs))
  | more _ h ih =>
    rename_i b c _
    by_cases hs : S c
    · exact .inl ⟨c, hs, .inl rfl⟩
    · rcases ih with ⟨s, h1, h2⟩ | ih
      · refine .inl ⟨s, h1, .inr ?_⟩
        rcases h2 with rfl | h2
        · exact .one h
        · exact .more h2 h
      · exact .inr (.more ih (hE _ _ h hs))
/-- where only edges to S are gone, and what of S leads on is reached still: all is reached but ends of S -/
theorem reach_all {v v' : Vo} {S : Int → Prop} {a : Int} (hE : ∀ p z, Edge v p z → ¬ S z → Edge v' p z) (hS : ∀ s, S s → Reach v' a s ∨ ∀ z, ¬ Edge v s z) {z : Int} (h : Reach v a z) : Reach v' a z ∨ S z := by
  induction h with
  | one h =>
    rename_i b
    by_cases hs : S b
    · exact .inr hs
    · exact .inl (.one (hE _ _ h hs))
  | more _ h ih =>
    rename_i b c _
    by_cases hs : S c
    · exact .inr hs
    · rcases ih with ih | ih
      · exact .inl (.more ih (hE _ _ h hs))
      · rcases hS b ih with h2 | h2
        · exact .inl (.more h2 (hE _ _ h hs))
        · exact absurd h (h2 c)
theorem reach_mono {v v' : Vo} (hE : ∀ p z, Edge v p z → Edge v' p z) {a z : Int} (h : Reach v a z) : Reach v' a z := by
  rcases reach_all (S := fun _ => False) (fun p z h _ => hE p z h) (fun s h => h.elim) h with h | h
  · exact h
  · exact h.elim
theorem reach_last {v : Vo} {a z : Int} (h : Reach v a z) : ∃ p, Edge v p z ∧ (p = a ∨ Reach v a p) := by
  cases h with
  | one h => exact ⟨a, h, .inl rfl⟩
  | more h1 h => exact ⟨_, h, .inr h1⟩
theorem reach_first {v : Vo} {a z : Int} (h : Reach v a z) : ∃ p, Edge v a p := by
  induction h with
  | one h => exact ⟨_, h⟩
  | more _ _ ih => exact ih

/-- how many entries of a row have an Id -/
def cntN (d : List En) (id : Int) : Nat := d.countP fun e => decide (e.id = id)
/-- how many entries have an Id -/
def namedV (v : Vo) (id : Int) : Nat := (v.ins.map fun x => cntN x.ents id).sum
theorem cnt_pos {d : List En} {id : Int} : 0 < cntN d id ↔ ∃ e ∈ d, e.id = id := by
  unfold cntN; rw [List.countP_pos_iff]; simp
theorem cnt_cons (e : En) (d : List En) (id : Int) : cntN (e :: d) id = cntN d id + if e.id = id then 1 else 0 := by
  unfold cntN; rw [List.countP_cons]; simp
theorem cnt_append (a b : List En) (id : Int) : cntN (a ++ b) id = cntN a id + cntN b id := by
  unfold cntN; exact List.countP_append
theorem cnt_ins (d : List En) (e : En) (id : Int) : cntN (insN d e) id = cntN d id + if e.id = id then 1 else 0 := by
  unfold insN
  have h := congrArg (fun l => cntN l id) (List.takeWhile_append_dropWhile (p := fun x => lessB x e.hash e.index) (l := d))
  rw [cnt_append] at h
  rw [cnt_append, cnt_cons]; omega
theorem cnt_erase {d : List En} {i : Nat} (hi : i < d.length) (id : Int) : cntN (d.eraseIdx i) id + (if d[i].id = id then 1 else 0) = cntN d id := by
  induction d generalizing i with
  | nil => simp at hi
  | cons x d ih =>
    cases i with
    | zero => simp only [List.eraseIdx_zero, List.tail_cons, List.getElem_cons_zero, cnt_cons]
    | succ i =>
      have := ih (i := i) (by simpa using hi)
      simp only [List.eraseIdx_cons_succ, List.getElem_cons_succ, cnt_cons]; omega
theorem cnt_set {d : List En} {i : Nat} (hi : i < d.length) (e : En) (id : Int) : cntN (d.set i e) id + (if d[i].id = id then 1 else 0) = cntN d id + if e.id = id then 1 else 0 := by
  induction d generalizing i with
  | nil => simp at hi
  | cons x d ih =>
    cases i with
    | zero => simp only [List.set_cons_zero, List.getElem_cons_zero, cnt_cons]; omega
    | succ i =>
      have := ih (i := i) (by simpa using hi)
      simp only [List.set_cons_succ, List.getElem_cons_succ, cnt_cons]; omega
theorem sum_pos {l : List Nat} (h : 0 < l.sum) : ∃ n ∈ l, 0 < n := by
  induction l with
  | nil => simp at h
  | cons x l ih =>
    by_cases hx : 0 < x
    · exact ⟨x, by simp, hx⟩
    · obtain ⟨n, h1, h2⟩ := ih (by simp at h; omega)
      exact ⟨n, by simp [h1], h2⟩
theorem sum_le {l : List Nat} {n : Nat} (h : n ∈ l) : n ≤ l.sum := by
  induction l with
  | nil => simp at h
  | cons x l ih =>
    rcases List.mem_cons.1 h with rfl | h
    · simp
    · have := ih h; simp; omega
theorem named_pos {v : Vo} {id : Int} : 0 < namedV v id ↔ ∃ a, Edge v a id := by
  constructor
  · intro h
    obtain ⟨n, h1, h2⟩ := sum_pos h
    obtain ⟨p, h3, rfl⟩ := List.mem_map.1 h1
    exact ⟨p.id, p, h3, rfl, cnt_pos.1 h2⟩
  · rintro ⟨a, p, h1, _, h2⟩
    exact Nat.lt_of_lt_of_le (cnt_pos.2 h2) (sum_le (List.mem_map.2 ⟨p, h1, rfl⟩))

/-- a right inode -/
def InoR (v : Vo) (x : Ino) : Prop :=
  (x.kind = 1 ∧ x.ents = [] ∧ x.data.size ≤ 20 ∧ x.links = namedV v x.id) ∨
  (x.kind = 2 ∧ x.data.size = 0 ∧ x.links = 1 ∧ Right x.ents ∧ (x.id = 1 ∨ namedV v x.id = 1) ∧ ∀ e ∈ x.ents, e.id ≠ 1 ∧ ∃ y ∈ v.ins, y.id = e.id)
/-- a right volume -/
structure RightV (v : Vo) : Prop where
  next : 2 ≤ v.next ∧ v.next ≤ 100000
  len : v.ins.length ≤ 16
  root : ∃ r l, v.ins = r :: l ∧ r.id = 1 ∧ r.kind = 2
  ids : ∀ x ∈ v.ins, 1 ≤ x.id ∧ x.id < v.next
  rise : v.ins.Pairwise fun a b => a.id < b.id
  each : ∀ x ∈ v.ins, InoR v x
  below : ∀ x ∈ v.ins, x.id = 1 ∨ Reach v 1 x.id
theorem rise_eq {l : List Ino} (h : l.Pairwise fun a b => a.id < b.id) {x y : Ino} (hx : x ∈ l) (hy : y ∈ l) (he : x.id = y.id) : x = y := by
  induction l with
  | nil => simp at hx
  | cons z l ih =>
    rw [List.pairwise_cons] at h
    rcases List.mem_cons.1 hx with h1 | h1 <;> rcases List.mem_cons.1 hy with h2 | h2
    · rw [h1, h2]
    · have := h.1 y h2; rw [← h1] at this; omega
    · have := h.1 x h1; rw [← h2] at this; omega
    · exact ih h.2 h1 h2

/-- one inode changed -/
def updV (v : Vo) (id : Int) (g : Ino → Ino) : Vo := ⟨v.next, v.ins.map fun x => if x.id = id then g x else x⟩
/-- without an inode -/
def goneV (v : Vo) (id : Int) : Vo := ⟨v.next, v.ins.filter fun x => decide (x.id ≠ id)⟩
theorem mem_upd {v : Vo} {id : Int} {g : Ino → Ino} {x : Ino} : x ∈ (updV v id g).ins ↔ ∃ y ∈ v.ins, (if y.id = id then g y else y) = x := by
  unfold updV; exact List.mem_map
theorem mem_gone {v : Vo} {id : Int} {x : Ino} : x ∈ (goneV v id).ins ↔ x ∈ v.ins ∧ x.id ≠ id := by
  unfold goneV; simp
theorem sum_upd {l : List Ino} (h : l.Pairwise fun a b => a.id < b.id) {p : Ino} (hp : p ∈ l) (g : Ino → Ino) (f : Ino → Nat) : ((l.map fun x => if x.id = p.id then g x else x).map f).sum + f p = (l.map f).sum + f (g p) := by
  induction l with
  | nil => simp at hp
  | cons z l ih =>
    rw [List.pairwise_cons] at h
    rcases List.mem_cons.1 hp with rfl | hp
    · have e : (l.map fun x => if x.id = p.id then g x else x) = l := by
        rw [List.map_congr_left (g := id), List.map_id]
        intro x hx; have := h.1 x hx; rw [if_neg (by omega)]; rfl
      simp only [List.map_cons, if_true, List.sum_cons, e]; omega
    · have := ih h.2 hp
      have h1 := h.1 p hp
      simp only [List.map_cons, List.sum_cons]
      rw [if_neg (by omega)]; omega
/-- how often an Id is named once a directory's entries are others -/
theorem named_upd {v : Vo} (h : v.ins.Pairwise fun a b => a.id < b.id) {p : Ino} (hp : p ∈ v.ins) (g : Ino → Ino) (id : Int) : namedV (updV v p.id g) id + cntN p.ents id = namedV v id + cntN (g p).ents id :=
  sum_upd h hp g fun x => cntN x.ents id
theorem named_gone {v : Vo} {x : Ino} (h : v.ins.Pairwise fun a b => a.id < b.id) (hx : x ∈ v.ins) (he : x.ents = []) (id : Int) : namedV (goneV v x.id) id = namedV v id := by
  unfold namedV goneV
  dsimp only
  have key : ∀ l : List Ino, (∀ y ∈ l, y.id = x.id → y.ents = []) → ((l.filter fun y => decide (y.id ≠ x.id)).map fun y => cntN y.ents id).sum = (l.map fun y => cntN y.ents id).sum := by
    intro l
    induction l with
    | nil => intro _; rfl
    | cons y l ih =>
      intro hl
      have := ih fun z hz => hl z (by simp [hz])
      rw [List.filter_cons]
      by_cases hy : y.id = x.id
      · have h0 := hl y (by simp) hy
        simp only [hy, ne_eq, not_true_eq_false, decide_false, Bool.false_eq_true, if_false, List.map_cons, List.sum_cons, h0]
        simp only [ne_eq] at this
        rw [this]; simp [cntN]
      · simp only [ne_eq, hy, not_false_eq_true, decide_true, if_true, List.map_cons, List.sum_cons]
        simp only [ne_eq] at this
        rw [this]
  refine key v.ins fun y hy he' => ?_
  rw [rise_eq h hy hx he']; exact he
end

section
theorem reach_to {v : Vo} {r a b : Int} (h : a = r ∨ Reach v r a) (he : Edge v a b) : Reach v r b := by
  rcases h with rfl | h
  · exact .one he
  · exact .more h he

/-- the frame of a right volume -/
structure FrV (v : Vo) : Prop where
  next : 2 ≤ v.next ∧ v.next ≤ 100000
  len : v.ins.length ≤ 16
  root : ∃ r l, v.ins = r :: l ∧ r.id = 1 ∧ r.kind = 2
  ids : ∀ x ∈ v.ins, 1 ≤ x.id ∧ x.id < v.next
  rise : v.ins.Pairwise fun a b => a.id < b.id
theorem RightV.fr {v : Vo} (h : RightV v) : FrV v := ⟨h.next, h.len, h.root, h.ids, h.rise⟩
theorem FrV.right {v : Vo} (h : FrV v) (he : ∀ x ∈ v.ins, InoR v x) (hb : ∀ x ∈ v.ins, x.id = 1 ∨ Reach v 1 x.id) : RightV v := ⟨h.next, h.len, h.root, h.ids, h.rise, he, hb⟩
theorem fr_upd {v : Vo} (h : FrV v) {i : Int} {g : Ino → Ino} (hg : ∀ x, (g x).id = x.id ∧ (g x).kind = x.kind) : FrV (updV v i g) := by
  have hk : ∀ x : Ino, (if x.id = i then g x else x).id = x.id ∧ (if x.id = i then g x else x).kind = x.kind := fun x => by
    split
    · exact hg x
    · exact ⟨rfl, rfl⟩
  obtain ⟨r, l, h1, h2, h3⟩ := h.root
  refine ⟨h.next, by unfold updV; rw [List.length_map]; exact h.len, ?_, ?_, ?_⟩
  · refine ⟨_, _, by unfold updV; rw [h1, List.map_cons], ?_, ?_⟩
    · rw [(hk r).1, h2]
    · rw [(hk r).2, h3]
  · intro x hx
    obtain ⟨y, hy, rfl⟩ := mem_upd.1 hx
    rw [(hk y).1]; exact h.ids y hy
  · unfold updV
    rw [List.pairwise_map]
    refine h.rise.imp fun {a b} hab => ?_
    rw [(hk a).1, (hk b).1]; exact hab
theorem fr_gone {v : Vo} (h : FrV v) {i : Int} (hi : i ≠ 1) : FrV (goneV v i) := by
  obtain ⟨r, l, h1, h2, h3⟩ := h.root
  refine ⟨h.next, Nat.le_trans (List.length_filter_le _ _) h.len, ?_, fun x hx => h.ids x (mem_gone.1 hx).1, h.rise.sublist List.filter_sublist⟩
  refine ⟨r, l.filter fun x => decide (x.id ≠ i), ?_, h2, h3⟩
  unfold goneV
  rw [h1, List.filter_cons, if_pos]
  rw [decide_eq_true_eq, h2]; exact Ne.symm hi
theorem fr_new {v : Vo} (h : FrV v) {n : Ino} (hn : n.id = v.next) (hl : v.ins.length < 16) (hx : v.next < 100000) : FrV ⟨v.next + 1, v.ins ++ [n]⟩ := by
  obtain ⟨r, l, h1, h2, h3⟩ := h.root
  have := h.next
  refine ⟨by dsimp only; omega, by simp; omega, ⟨r, l ++ [n], by rw [h1]; rfl, h2, h3⟩, ?_, ?_⟩
  · intro x hx
    rcases List.mem_append.1 hx with hx | hx
    · have := h.ids x hx; dsimp only; omega
    · rw [List.mem_singleton] at hx; rw [hx, hn]; dsimp only; omega
  · rw [List.pairwise_append]
    refine ⟨h.rise, List.pairwise_singleton _ _, fun a ha b hb => ?_⟩
    rw [List.mem_singleton] at hb
    rw [hb, hn]; exact (h.ids a ha).2

theorem edge_upd {v : Vo} (h : v.ins.Pairwise fun a b => a.id < b.id) {p : Ino} (hp : p ∈ v.ins) {g : Ino → Ino} (hg : ∀ x, (g x).id = x.id) {a b : Int} : Edge (updV v p.id g) a b ↔ (a ≠ p.id ∧ Edge v a b) ∨ (a = p.id ∧ ∃ e ∈ (g p).ents, e.id = b) := by
  constructor
  · rintro ⟨y, hy, h1, h2⟩
    obtain ⟨z, hz, rfl⟩ := mem_upd.1 hy
    by_cases hc : z.id = p.id
    · rw [if_pos hc, hg] at h1
      rw [if_pos hc, rise_eq h hz hp hc] at h2
      exact .inr ⟨by rw [← h1, hc], h2⟩
    · rw [if_neg hc] at h1 h2
      exact .inl ⟨by rw [← h1]; exact hc, z, hz, h1, h2⟩
  · rintro (⟨h1, y, hy, h2, h3⟩ | ⟨h1, h2⟩)
    · exact ⟨y, mem_upd.2 ⟨y, hy, if_neg (by rw [h2]; exact h1)⟩, h2, h3⟩
    · exact ⟨g p, mem_upd.2 ⟨p, hp, if_pos rfl⟩, by rw [hg, h1], h2⟩
theorem edge_at {v : Vo} (h : v.ins.Pairwise fun a b => a.id < b.id) {p : Ino} (hp : p ∈ v.ins) {b : Int} : Edge v p.id b ↔ ∃ e ∈ p.ents, e.id = b := by
  constructor
  · rintro ⟨y, hy, h1, h2⟩
    rw [rise_eq h hy hp h1] at h2; exact h2
  · exact fun h2 => ⟨p, hp, rfl, h2⟩
theorem edge_gone {v : Vo} {i a b : Int} : Edge (goneV v i) a b ↔ a ≠ i ∧ Edge v a b := by
  constructor
  · rintro ⟨y, hy, h1, h2⟩
    have := mem_gone.1 hy
    exact ⟨by rw [← h1]; exact this.2, y, this.1, h1, h2⟩
  · rintro ⟨h0, y, hy, h1, h2⟩
    exact ⟨y, mem_gone.2 ⟨hy, by rw [h1]; exact h0⟩, h1, h2⟩
theorem id_upd {v : Vo} {i : Int} {g : Ino → Ino} (hg : ∀ x, (g x).id = x.id) {x : Ino} (hx : x ∈ v.ins) : ∃ y ∈ (updV v i g).ins, y.id = x.id :=
  ⟨_, mem_upd.2 ⟨x, hx, rfl⟩, by split <;> simp [hg]⟩
/-- an inode that is right stays so where it is named as often and what it names is there -/
theorem ino_tr {v v' : Vo} {x : Ino} (h : InoR v x) (hn : namedV v' x.id = namedV v x.id) (ha : ∀ e ∈ x.ents, ∀ y ∈ v.ins, y.id = e.id → ∃ z ∈ v'.ins, z.id = e.id) : InoR v' x := by
  rcases h with ⟨h1, h2, h3, h4⟩ | ⟨h1, h2, h3, h4, h5, h6⟩
  · exact .inl ⟨h1, h2, h3, by rw [hn]; exact h4⟩
  · refine .inr ⟨h1, h2, h3, h4, by rw [hn]; exact h5, fun e he => ⟨(h6 e he).1, ?_⟩⟩
    obtain ⟨y, hy, h7⟩ := (h6 e he).2
    exact ha e he y hy h7
/-- what is named is there, and is not the root -/
theorem edge_there {v : Vo} (h : RightV v) {a b : Int} (he : Edge v a b) : b ≠ 1 ∧ ∃ y ∈ v.ins, y.id = b := by
  obtain ⟨p, hp, _, e, h1, rfl⟩ := he
  rcases h.each p hp with ⟨_, h2, _⟩ | ⟨_, _, _, _, _, h6⟩
  · rw [h2] at h1; simp at h1
  · exact h6 e h1
theorem named_next {v : Vo} (h : RightV v) : namedV v v.next = 0 := by
  rcases Nat.eq_zero_or_pos (namedV v v.next) with h0 | h0
  · exact h0
  · obtain ⟨a, ha⟩ := named_pos.1 h0
    obtain ⟨_, y, hy, h1⟩ := edge_there h ha
    have := h.ids y hy; omega
/-- a directory's parts -/
theorem dir_of {v : Vo} (h : RightV v) {p : Ino} (hp : p ∈ v.ins) (hk : p.kind = 2) : p.data.size = 0 ∧ p.links = 1 ∧ Right p.ents ∧ (p.id = 1 ∨ namedV v p.id = 1) ∧ ∀ e ∈ p.ents, e.id ≠ 1 ∧ ∃ y ∈ v.ins, y.id = e.id := by
  rcases h.each p hp with ⟨h1, _⟩ | ⟨_, h2⟩
  · omega
  · exact h2
theorem file_of {v : Vo} (h : RightV v) {p : Ino} (hp : p ∈ v.ins) (hk : p.kind ≠ 2) : p.kind = 1 ∧ p.ents = [] ∧ p.data.size ≤ 20 ∧ p.links = namedV v p.id := by
  rcases h.each p hp with h1 | ⟨h1, _⟩
  · exact h1
  · exact absurd h1 hk
/-- with other entries -/
def setE (d : List En) (x : Ino) : Ino := ⟨x.id, x.kind, x.links, x.data, d⟩
def setL (n : Int) (x : Ino) : Ino := ⟨x.id, x.kind, n, x.data, x.ents⟩
def setD (t : ByteArray) (x : Ino) : Ino := ⟨x.id, x.kind, x.links, t, x.ents⟩

/-- made: one inode more, and a name for it -/
theorem right_make {v : Vo} (h : RightV v) {p : Ino} (hp : p ∈ v.ins) (hk : p.kind = 2) {s : ByteArray} (ho : addOk p.ents s v.next = true) (hl : v.ins.length < 16) (hx : v.next < 100000) {k : Int} (hk' : k = 1 ∨ k = 2) :
    RightV (updV ⟨v.next + 1, v.ins ++ [⟨v.next, k, 1, ⟨#[]⟩, []⟩]⟩ p.id (setE (insN p.ents (newE p.ents s v.next)))) := by
  obtain ⟨n, hn⟩ : ∃ n : Ino, n = ⟨v.next, k, 1, ⟨#[]⟩, []⟩ := ⟨_, rfl⟩
  rw [← hn]
  have hni : n.id = v.next := by rw [hn]
  obtain ⟨v0, h0⟩ : ∃ v0 : Vo, v0 = ⟨v.next + 1, v.ins ++ [n]⟩ := ⟨_, rfl⟩
  rw [← h0]
  have f0 : FrV v0 := by rw [h0]; exact fr_new h.fr hni hl hx
  have m0 : ∀ x, x ∈ v0.ins ↔ x ∈ v.ins ∨ x = n := fun x => by rw [h0]; simp
  have hp0 : p ∈ v0.ins := (m0 p).2 (.inl hp)
  obtain ⟨d, hd⟩ : ∃ d, d = insN p.ents (newE p.ents s v.next) := ⟨_, rfl⟩
  rw [← hd]
  have f1 : FrV (updV v0 p.id (setE d)) := fr_upd f0 fun x => ⟨rfl, rfl⟩
  have hdp := dir_of h hp hk
  have hpn := h.ids p hp
  have n2 := h.next
  have c0 : ∀ id, namedV v0 id = namedV v id := fun id => by
    rw [h0]; unfold namedV; dsimp only; rw [List.map_append, List.sum_append]
    rw [hn]; simp [cntN]
  have c1 : ∀ id, namedV (updV v0 p.id (setE d)) id = namedV v id + if v.next = id then 1 else 0 := fun id => by
    have h1 := named_upd f0.rise hp0 (setE d) id
    have h2 : cntN (setE d p).ents id = cntN p.ents id + if v.next = id then 1 else 0 := by
      show cntN d id = _
      rw [hd, cnt_ins]; rfl
    rw [h2, c0] at h1; omega
  have al : ∀ y ∈ v.ins, ∃ z ∈ (updV v0 p.id (setE d)).ins, z.id = y.id := fun y hy => id_upd (g := setE d) (fun _ => rfl) ((m0 y).2 (.inl hy))
  have an : ∃ z ∈ (updV v0 p.id (setE d)).ins, z.id = v.next := by rw [← hni]; exact id_upd (g := setE d) (fun _ => rfl) ((m0 n).2 (.inr rfl))
  have hE : ∀ a b, Edge v a b → Edge (updV v0 p.id (setE d)) a b := fun a b hab => by
    rw [edge_upd f0.rise hp0 (g := setE d) (fun _ => rfl)]
    obtain ⟨y, hy, h1, e, h2, h3⟩ := hab
    by_cases hc : a = p.id
    · refine .inr ⟨hc, e, ?_, h3⟩
      rw [rise_eq h.rise hy hp (by rw [h1, hc])] at h2
      show e ∈ d
      rw [hd]; exact mem_ins.2 (.inr h2)
    · exact .inl ⟨hc, y, (m0 y).2 (.inl hy), h1, e, h2, h3⟩
  refine f1.right (fun x hx => ?_) fun x hx => ?_
  · obtain ⟨y, hy, rfl⟩ := mem_upd.1 hx
    rcases (m0 y).1 hy with hy | rfl
    · by_cases hc : y.id = p.id
      · rw [if_pos hc, rise_eq h.rise hy hp hc]
        refine .inr ⟨hk, hdp.1, hdp.2.1, by show Right d; rw [hd]; exact right_add hdp.2.2.1 ho, ?_, fun e he => ?_⟩
        · show p.id = 1 ∨ namedV _ p.id = 1
          rw [c1, if_neg (by omega)]; exact hdp.2.2.2.1
        · have he' : e ∈ insN p.ents (newE p.ents s v.next) := by rw [← hd]; exact he
          rcases mem_ins.1 he' with rfl | he'
          · exact ⟨by show v.next ≠ 1; omega, an⟩
          · obtain ⟨h1, y, hy, h2⟩ := hdp.2.2.2.2 e he'
            refine ⟨h1, ?_⟩
            rw [← h2]; exact al y hy
      · rw [if_neg hc]
        have := h.ids y hy
        refine ino_tr (h.each y hy) (by rw [c1, if_neg (by omega)]; rfl) fun e _ z hz h1 => ?_
        rw [← h1]; exact al z hz
    · rw [if_neg (by omega)]
      have hc : namedV (updV v0 p.id (setE d)) y.id = 1 := by rw [c1, hni, named_next h]; simp
      have hyl : y.links = 1 ∧ y.ents = [] ∧ y.data.size = 0 ∧ y.kind = k := by rw [hn]; exact ⟨rfl, rfl, rfl, rfl⟩
      rcases hk' with hk' | hk'
      · exact .inl ⟨by rw [hyl.2.2.2, hk'], hyl.2.1, by omega, by rw [hc]; exact hyl.1⟩
      · exact .inr ⟨by rw [hyl.2.2.2, hk'], hyl.2.2.1, hyl.1, by rw [hyl.2.1]; exact Right.nil, .inr hc, by rw [hyl.2.1]; simp⟩
  · obtain ⟨y, hy, rfl⟩ := mem_upd.1 hx
    have e1 : (if y.id = p.id then setE d y else y).id = y.id := by split <;> rfl
    rw [e1]
    rcases (m0 y).1 hy with hy | rfl
    · rcases h.below y hy with h1 | h1
      · exact .inl h1
      · exact .inr (reach_mono hE h1)
    · right
      have hed : Edge (updV v0 p.id (setE d)) p.id y.id := by
        rw [edge_upd f0.rise hp0 (g := setE d) (fun _ => rfl)]
        refine .inr ⟨rfl, newE p.ents s v.next, ?_, by rw [hni]; rfl⟩
        show newE p.ents s v.next ∈ d
        rw [hd]; exact mem_ins.2 (.inl rfl)
      exact reach_to ((h.below p hp).imp (fun h1 => h1) (reach_mono hE)) hed
end

section
/-- the same inodes, some with other entries -/
structure Like (v v' : Vo) : Prop where
  fr : FrV v'
  from_ : ∀ y' ∈ v'.ins, ∃ y ∈ v.ins, y'.id = y.id ∧ y'.kind = y.kind ∧ y'.links = y.links ∧ y'.data = y.data ∧ (y.kind = 2 → Right y'.ents) ∧ (y.kind ≠ 2 → y'.ents = [])
  to_ : ∀ y ∈ v.ins, ∃ y' ∈ v'.ins, y'.id = y.id
theorem Like.refl {v : Vo} (h : RightV v) : Like v v :=
  ⟨h.fr, fun y hy => ⟨y, hy, rfl, rfl, rfl, rfl, fun hk => (dir_of h hy hk).2.2.1, fun hk => (file_of h hy hk).2.1⟩, fun y hy => ⟨y, hy, rfl⟩⟩
theorem like_set {v v1 : Vo} (l : Like v v1) {q : Ino} (hq : q ∈ v1.ins) (hk : q.kind = 2) {d : List En} (hd : Right d) : Like v (updV v1 q.id (setE d)) := by
  refine ⟨fr_upd l.fr fun _ => ⟨rfl, rfl⟩, fun y' hy' => ?_, fun y hy => ?_⟩
  · obtain ⟨z, hz, rfl⟩ := mem_upd.1 hy'
    obtain ⟨y, hy, h1, h2, h3, h4, h5, h6⟩ := l.from_ z hz
    by_cases hc : z.id = q.id
    · rw [if_pos hc]
      have e := rise_eq l.fr.rise hz hq hc
      refine ⟨y, hy, h1, h2, h3, h4, fun _ => hd, fun hn => ?_⟩
      rw [← h2, e] at hn; exact absurd hk hn
    · rw [if_neg hc]; exact ⟨y, hy, h1, h2, h3, h4, h5, h6⟩
  · obtain ⟨z, hz, h1⟩ := l.to_ y hy
    obtain ⟨u, hu, h2⟩ := id_upd (i := q.id) (g := setE d) (fun _ => rfl) hz
    exact ⟨u, hu, by rw [h2, h1]⟩
theorem like_right {v v' : Vo} (h : RightV v) (l : Like v v') (hn : ∀ id, namedV v' id = namedV v id) (hb : ∀ y ∈ v.ins, y.id = 1 ∨ Reach v' 1 y.id) : RightV v' := by
  refine l.fr.right (fun x hx => ?_) fun x hx => ?_
  · obtain ⟨y, hy, h1, h2, h3, h4, h5, h6⟩ := l.from_ x hx
    by_cases hk : y.kind = 2
    · obtain ⟨d1, d2, d3, d4, d5⟩ := dir_of h hy hk
      refine .inr ⟨by rw [h2, hk], by rw [h4]; exact d1, by rw [h3, d2], h5 hk, by rw [hn, h1]; exact d4, fun e he => ?_⟩
      have hp : 0 < namedV v' e.id := named_pos.2 ⟨x.id, x, hx, rfl, e, he, rfl⟩
      rw [hn] at hp
      obtain ⟨a, ha⟩ := named_pos.1 hp
      obtain ⟨e1, z, hz, e2⟩ := edge_there h ha
      refine ⟨e1, ?_⟩
      rw [← e2]; exact l.to_ z hz
    · obtain ⟨d1, d2, d3, d4⟩ := file_of h hy hk
      exact .inl ⟨by rw [h2, d1], h6 hk, by rw [h4]; exact d3, by rw [h3, d4, hn, h1]⟩
  · obtain ⟨y, hy, h1, _⟩ := l.from_ x hx
    rw [h1]; exact hb y hy

/-- right but for o, which has a link more than names -/
structure NearR (v : Vo) (o : Ino) : Prop where
  fr : FrV v
  each : ∀ x ∈ v.ins, x.id ≠ o.id → InoR v x
  below : ∀ x ∈ v.ins, x.id ≠ o.id → x.id = 1 ∨ Reach v 1 x.id
  mem : o ∈ v.ins
  low : o.id ≠ 1
  bare : o.ents = []
  more : o.links = namedV v o.id + 1
  kind : (o.kind = 1 ∧ o.data.size ≤ 20) ∨ o.links = 1
/-- one link less -/
def lessV (v : Vo) (o : Ino) : Vo := if o.links = 1 then goneV v o.id else updV v o.id (setL (o.links - 1))
theorem right_less {v : Vo} {o : Ino} (h : NearR v o) : RightV (lessV v o) := by
  have hno : ∀ b, ¬ Edge v o.id b := fun b hb => by
    obtain ⟨e, he, _⟩ := (edge_at h.fr.rise h.mem).1 hb
    rw [h.bare] at he; simp at he
  unfold lessV
  by_cases hl : o.links = 1
  · rw [if_pos hl]
    have hz : namedV v o.id = 0 := by have := h.more; omega
    have hc := fun id => named_gone h.fr.rise h.mem h.bare id
    refine (fr_gone h.fr h.low).right (fun x hx => ?_) fun x hx => ?_
    · obtain ⟨h1, h2⟩ := mem_gone.1 hx
      refine ino_tr (h.each x h1 h2) (hc x.id) fun e he y hy h3 => ⟨y, mem_gone.2 ⟨hy, fun h4 => ?_⟩, h3⟩
      have := named_pos.2 ⟨x.id, x, h1, rfl, e, he, by rw [← h3, h4]⟩
      omega
    · obtain ⟨h1, h2⟩ := mem_gone.1 hx
      refine (h.below x h1 h2).imp (fun h3 => h3) (reach_mono fun a b hab => edge_gone.2 ⟨fun h4 => ?_, hab⟩)
      rw [h4] at hab; exact hno b hab
  · rw [if_neg hl]
    have hk := h.kind.resolve_right hl
    have hc : ∀ id, namedV (updV v o.id (setL (o.links - 1))) id = namedV v id := fun id => by
      have h1 := named_upd h.fr.rise h.mem (setL (o.links - 1)) id
      have h2 : (setL (o.links - 1) o).ents = o.ents := rfl
      rw [h2] at h1; omega
    have hE : ∀ a b, Edge v a b → Edge (updV v o.id (setL (o.links - 1))) a b := fun a b hab => by
      rw [edge_upd h.fr.rise h.mem (g := setL (o.links - 1)) (fun _ => rfl)]
      refine .inl ⟨fun h4 => ?_, hab⟩
      rw [h4] at hab; exact hno b hab
    refine (fr_upd (g := setL (o.links - 1)) h.fr fun _ => ⟨rfl, rfl⟩).right (fun x hx => ?_) fun x hx => ?_
    · obtain ⟨y, hy, rfl⟩ := mem_upd.1 hx
      by_cases hy' : y.id = o.id
      · rw [if_pos hy', rise_eq h.fr.rise hy h.mem hy']
        refine .inl ⟨hk.1, h.bare, hk.2, ?_⟩
        show o.links - 1 = ((namedV _ o.id : Nat) : Int)
        rw [hc]; have := h.more; omega
      · rw [if_neg hy']
        refine ino_tr (h.each y hy hy') (hc y.id) fun e _ z hz h3 => ?_
        rw [← h3]; exact id_upd (g := setL (o.links - 1)) (fun _ => rfl) hz
    · obtain ⟨y, hy, rfl⟩ := mem_upd.1 hx
      have e1 : (if y.id = o.id then setL (o.links - 1) y else y).id = y.id := by split <;> rfl
      rw [e1]
      by_cases hy' : y.id = o.id
      · right
        have hp : 0 < namedV v o.id := by have := h.more; omega
        obtain ⟨a, ha⟩ := named_pos.1 hp
        obtain ⟨p, h1, h2, h3⟩ := ha
        have hpo : p.id ≠ o.id := fun h4 => hno o.id ⟨p, h1, h4, h3⟩
        have hed : Edge v p.id y.id := ⟨p, h1, rfl, by rw [hy']; exact h3⟩
        exact reach_to ((h.below p h1 hpo).imp (fun h4 => h4) (reach_mono hE)) (hE _ _ hed)
      · exact (h.below y hy hy').imp (fun h3 => h3) (reach_mono hE)
theorem like_near {v v' : Vo} (h : RightV v) (l : Like v v') {o : Ino} (ho : o ∈ v.ins) (ho' : o ∈ v'.ins) (h1 : o.id ≠ 1) (hb : o.ents = []) (hn : ∀ id, namedV v' id + (if o.id = id then 1 else 0) = namedV v id) (hr : ∀ y ∈ v.ins, y.id ≠ o.id → y.id = 1 ∨ Reach v' 1 y.id) : NearR v' o := by
  refine ⟨l.fr, fun x hx hxo => ?_, fun x hx hxo => ?_, ho', h1, hb, ?_, ?_⟩
  · obtain ⟨y, hy, h1, h2, h3, h4, h5, h6⟩ := l.from_ x hx
    have hny : namedV v' y.id = namedV v y.id := by
      have := hn y.id
      rw [if_neg (by rw [← h1]; exact Ne.symm hxo)] at this; omega
    by_cases hk : y.kind = 2
    · obtain ⟨d1, d2, d3, d4, d5⟩ := dir_of h hy hk
      refine .inr ⟨by rw [h2, hk], by rw [h4]; exact d1, by rw [h3, d2], h5 hk, by rw [h1, hny]; exact d4, fun e he => ?_⟩
      have hp : 0 < namedV v' e.id := named_pos.2 ⟨x.id, x, hx, rfl, e, he, rfl⟩
      have := hn e.id
      obtain ⟨a, ha⟩ := named_pos.1 (show 0 < namedV v e.id by omega)
      obtain ⟨e1, z, hz, e2⟩ := edge_there h ha
      refine ⟨e1, ?_⟩
      rw [← e2]; exact l.to_ z hz
    · obtain ⟨d1, d2, d3, d4⟩ := file_of h hy hk
      exact .inl ⟨by rw [h2, d1], h6 hk, by rw [h4]; exact d3, by rw [h3, d4, h1, hny]⟩
  · obtain ⟨y, hy, h2, _⟩ := l.from_ x hx
    rw [h2] at hxo ⊢; exact hr y hy hxo
  · have h2 := hn o.id
    rw [if_pos rfl] at h2
    by_cases hk : o.kind = 2
    · obtain ⟨_, d2, _, d4, _⟩ := dir_of h ho hk
      have := d4.resolve_left h1
      omega
    · have := (file_of h ho hk).2.2.2
      omega
  · by_cases hk : o.kind = 2
    · exact .inr (dir_of h ho hk).2.1
    · exact .inl ⟨(file_of h ho hk).1, (file_of h ho hk).2.2.1⟩

/-- taken away: a name of what has no entries -/
theorem right_unlink {v : Vo} (h : RightV v) {p x : Ino} (hp : p ∈ v.ins) (hk : p.kind = 2) {i : Nat} (hi : i < p.ents.length) (hx : x ∈ v.ins) (hxi : x.id = p.ents[i].id) (hb : x.ents = []) :
    RightV (lessV (updV v p.id (setE (p.ents.eraseIdx i))) x) := by
  have hdp := dir_of h hp hk
  obtain ⟨d, hd⟩ : ∃ d, d = p.ents.eraseIdx i := ⟨_, rfl⟩
  rw [← hd]
  have l := like_set (Like.refl h) hp hk (d := d) (by rw [hd]; exact right_erase hdp.2.2.1 i)
  have hex : Edge v p.id x.id := (edge_at h.rise hp).2 ⟨p.ents[i], List.getElem_mem hi, hxi.symm⟩
  have hxp : x.id ≠ p.id := fun hc => by
    rw [rise_eq h.rise hx hp hc] at hb
    rw [hb] at hi; simp at hi
  have hcd : ∀ id, cntN d id + (if x.id = id then 1 else 0) = cntN p.ents id := fun id => by
    have := cnt_erase hi id
    rw [← hd, ← hxi] at this; exact this
  have hno : ∀ b, ¬ Edge v x.id b := fun b hbb => by
    obtain ⟨e, he, _⟩ := (edge_at h.rise hx).1 hbb
    rw [hb] at he; simp at he
  refine right_less (like_near h l hx (mem_upd.2 ⟨x, hx, if_neg hxp⟩) (edge_there h hex).1 hb (fun id => ?_) fun y hy hyx => ?_)
  · have h1 := named_upd h.rise hp (setE d) id
    have h2 : (setE d p).ents = d := rfl
    have h3 := hcd id
    rw [h2] at h1; omega
  · have hE : ∀ a z, Edge v a z → ¬ z = x.id → Edge (updV v p.id (setE d)) a z := fun a z haz hz => by
      rw [edge_upd h.rise hp (g := setE d) (fun _ => rfl)]
      by_cases hc : a = p.id
      · refine .inr ⟨hc, ?_⟩
        rw [hc, edge_at h.rise hp, ← cnt_pos] at haz
        have := hcd z
        rw [if_neg (Ne.symm hz)] at this
        exact cnt_pos.1 (show 0 < cntN d z by omega)
      · exact .inl ⟨hc, haz⟩
    refine (h.below y hy).imp (fun h1 => h1) fun h1 => ?_
    exact (reach_all (S := fun z => z = x.id) hE (fun s hs => .inr (by rw [hs]; exact hno)) h1).resolve_right hyx
end

section
theorem named_set {v : Vo} (h : v.ins.Pairwise fun a b => a.id < b.id) {p : Ino} (hp : p ∈ v.ins) (d : List En) (id : Int) : namedV (updV v p.id (setE d)) id + cntN p.ents id = namedV v id + cntN d id :=
  named_upd h hp (setE d) id
theorem edge_set {v : Vo} (h : v.ins.Pairwise fun a b => a.id < b.id) {p : Ino} (hp : p ∈ v.ins) {d : List En} {a b : Int} : Edge (updV v p.id (setE d)) a b ↔ (a ≠ p.id ∧ Edge v a b) ∨ (a = p.id ∧ 0 < cntN d b) := by
  rw [edge_upd h hp (g := setE d) (fun _ => rfl), cnt_pos]; rfl
theorem edge_cnt {v : Vo} (h : v.ins.Pairwise fun a b => a.id < b.id) {p : Ino} (hp : p ∈ v.ins) {b : Int} : Edge v p.id b ↔ 0 < cntN p.ents b := by
  rw [edge_at h hp, cnt_pos]
/-- where a row names z as much, what it names stays named -/
theorem edge_keep {v : Vo} (h : v.ins.Pairwise fun a b => a.id < b.id) {p : Ino} (hp : p ∈ v.ins) {d : List En} {a z : Int} (hc : cntN p.ents z ≤ cntN d z) (he : Edge v a z) : Edge (updV v p.id (setE d)) a z := by
  rw [edge_set h hp]
  by_cases ha : a = p.id
  · refine .inr ⟨ha, ?_⟩
    rw [ha, edge_cnt h hp] at he; omega
  · exact .inl ⟨ha, he⟩

/-- spelled anew, in its place -/
theorem right_respell {v : Vo} (h : RightV v) {q : Ino} (hq : q ∈ v.ins) (hk : q.kind = 2) {s : ByteArray} {k : Nat} (hi : k < q.ents.length) (ha : alikeB (q.ents[k]).name s = true) :
    RightV (updV v q.id (setE (q.ents.set k (respE q.ents[k]! s (q.ents[k]).id)))) := by
  have hdq := dir_of h hq hk
  have hid : idB (q.ents[k]).id = true := idB_iff.2 (entB_iff.1 (hdq.2.2.1.each _ (List.getElem_mem hi))).2.2.2
  obtain ⟨d, hd⟩ : ∃ d, d = q.ents.set k (respE q.ents[k]! s (q.ents[k]).id) := ⟨_, rfl⟩
  have hcd : ∀ id, cntN d id = cntN q.ents id := fun id => by
    have := cnt_set hi (respE q.ents[k]! s (q.ents[k]).id) id
    have e : (respE q.ents[k]! s (q.ents[k]).id).id = (q.ents[k]).id := rfl
    rw [e, ← hd] at this; omega
  have hr : Right d := by rw [hd]; exact right_set hdq.2.2.1 hi ha hid
  rw [← hd]
  refine like_right h (like_set (Like.refl h) hq hk hr) (fun id => ?_) fun y hy => ?_
  · have := named_set h.rise hq d id
    rw [hcd] at this; omega
  · exact (h.below y hy).imp (fun h1 => h1) (reach_mono fun a z haz => edge_keep h.rise hq (by rw [hcd]; exact Nat.le_refl _) haz)

/-- moved: a name taken from one directory, set into another or the same -/
theorem right_move {v : Vo} (h : RightV v) {p x q1 : Ino} (hp : p ∈ v.ins) (hk : p.kind = 2) {i : Nat} (hi : i < p.ents.length) (hxi : x.id = p.ents[i].id)
    (hq : q1 ∈ (updV v p.id (setE (p.ents.eraseIdx i))).ins) (hkq : q1.kind = 2) {s : ByteArray} (ho : addOk q1.ents s x.id = true) (hqx : q1.id ≠ x.id) (hlo : ¬ Reach v x.id q1.id) :
    RightV (updV (updV v p.id (setE (p.ents.eraseIdx i))) q1.id (setE (insN q1.ents (newE q1.ents s x.id)))) := by
  have hdp := dir_of h hp hk
  obtain ⟨d, hd⟩ : ∃ d, d = p.ents.eraseIdx i := ⟨_, rfl⟩
  have hcd : ∀ id, cntN d id + (if x.id = id then 1 else 0) = cntN p.ents id := fun id => by
    have := cnt_erase hi id
    rw [← hd, ← hxi] at this; exact this
  have hr : Right d := by rw [hd]; exact right_erase hdp.2.2.1 i
  rw [← hd] at hq ⊢
  have l1 := like_set (Like.refl h) hp hk hr
  have n1 := named_set h.rise hp d
  have e1 : ∀ a z, Edge v a z → ¬ z = x.id → Edge (updV v p.id (setE d)) a z := fun a z haz hz =>
    edge_keep h.rise hp (by have := hcd z; rw [if_neg (Ne.symm hz)] at this; omega) haz
  obtain ⟨v1, hv1⟩ : ∃ v1, v1 = updV v p.id (setE d) := ⟨_, rfl⟩
  rw [← hv1] at l1 n1 e1 hq ⊢
  obtain ⟨q, hqv, hqi, hqk, _, _, hqr, _⟩ := l1.from_ q1 hq
  have hr1 : Right q1.ents := hqr (by rw [← hqk]; exact hkq)
  obtain ⟨d2, hd2⟩ : ∃ d2, d2 = insN q1.ents (newE q1.ents s x.id) := ⟨_, rfl⟩
  have hcd2 : ∀ id, cntN d2 id = cntN q1.ents id + if x.id = id then 1 else 0 := fun id => by rw [hd2, cnt_ins]; rfl
  have hr2 : Right d2 := by rw [hd2]; exact right_add hr1 ho
  rw [← hd2]
  have l2 := like_set l1 hq hkq hr2
  have n2 := named_set l1.fr.rise hq d2
  have e2 : ∀ a z, Edge v a z → ¬ z = x.id → Edge (updV v1 q1.id (setE d2)) a z := fun a z haz hz =>
    edge_keep l1.fr.rise hq (by rw [hcd2]; omega) (e1 a z haz hz)
  have ex : Edge (updV v1 q1.id (setE d2)) q1.id x.id := (edge_set l1.fr.rise hq).2 (.inr ⟨rfl, by rw [hcd2, if_pos rfl]; omega⟩)
  have rq : q1.id = 1 ∨ Reach (updV v1 q1.id (setE d2)) 1 q1.id := by
    rw [hqi]
    refine (h.below q hqv).imp (fun h1 => h1) fun h1 => ?_
    rcases reach_or (S := fun z => z = x.id) e2 h1 with ⟨t, rfl, h3 | h3⟩ | h2
    · exact absurd (by rw [hqi]; exact h3) hqx
    · exact absurd (by rw [hqi]; exact h3) hlo
    · rw [hqi] at h2; exact h2
  refine like_right h l2 (fun id => ?_) fun y hy => ?_
  · have h1 := n1 id
    have h2 := n2 id
    have h3 := hcd id
    rw [hcd2] at h2; omega
  · refine (h.below y hy).imp (fun h1 => h1) fun h1 => ?_
    rcases reach_all (S := fun z => z = x.id) e2 (fun t ht => .inl (by rw [ht]; exact reach_to rq ex)) h1 with h2 | h2
    · exact h2
    · rw [h2]; exact reach_to rq ex

/-- put in another's place: the other has one name less -/
theorem right_onto {v : Vo} (h : RightV v) {q x o p1 : Ino} (hq : q ∈ v.ins) (hk : q.kind = 2) {k : Nat} (hki : k < q.ents.length) {s : ByteArray} (ha : alikeB (q.ents[k]).name s = true) (hx : idB x.id = true)
    (ho : o ∈ v.ins) (hok : o.id = (q.ents[k]).id) (hob : o.ents = [])
    (hp : p1 ∈ (updV v q.id (setE (q.ents.set k (respE q.ents[k]! s x.id)))).ins) (hkp : p1.kind = 2) (hpx : Edge v p1.id x.id) {i : Nat} (hi : i < p1.ents.length) (hxi : x.id = (p1.ents[i]).id) (hqx : q.id ≠ x.id) (hlo : ¬ Reach v x.id q.id) :
    RightV (lessV (updV (updV v q.id (setE (q.ents.set k (respE q.ents[k]! s x.id)))) p1.id (setE (p1.ents.eraseIdx i))) o) := by
  have hdq := dir_of h hq hk
  obtain ⟨d, hd⟩ : ∃ d, d = q.ents.set k (respE q.ents[k]! s x.id) := ⟨_, rfl⟩
  have hcd : ∀ id, cntN d id + (if o.id = id then 1 else 0) = cntN q.ents id + if x.id = id then 1 else 0 := fun id => by
    have := cnt_set hki (respE q.ents[k]! s x.id) id
    have e : (respE q.ents[k]! s x.id).id = x.id := rfl
    rw [e, ← hd, ← hok] at this; exact this
  have hr : Right d := by rw [hd]; exact right_set hdq.2.2.1 hki ha hx
  rw [← hd] at hp ⊢
  have hno : ∀ b, ¬ Edge v o.id b := fun b hbb => by
    obtain ⟨e, he, _⟩ := (edge_at h.rise ho).1 hbb
    rw [hob] at he; simp at he
  have hqo : Edge v q.id o.id := (edge_at h.rise hq).2 ⟨q.ents[k], List.getElem_mem hki, hok.symm⟩
  have hoq : o.id ≠ q.id := fun hc => hno o.id (by rw [hc]; rw [hc] at hqo; exact hqo)
  have hop : o.id ≠ p1.id := fun hc => hno x.id (by rw [hc]; exact hpx)
  have l1 := like_set (Like.refl h) hq hk hr
  have n1 := named_set h.rise hq d
  have c1 : p1.id = q.id → p1.ents = d := fun hc => by
    obtain ⟨y, hy, rfl⟩ := mem_upd.1 hp
    by_cases hy' : y.id = q.id
    · rw [if_pos hy']; rfl
    · rw [if_neg hy'] at hc; exact absurd hc hy'
  have e1 : ∀ a z, Edge v a z → ¬ (z = x.id ∨ z = o.id) → Edge (updV v q.id (setE d)) a z := fun a z haz hz =>
    edge_keep h.rise hq (by have := hcd z; rw [if_neg (fun hc => hz (.inr hc.symm))] at this; omega) haz
  have ex1 : Edge (updV v q.id (setE d)) q.id x.id ∨ x.id = o.id := by
    by_cases hc : x.id = o.id
    · exact .inr hc
    · exact .inl ((edge_set h.rise hq).2 (.inr ⟨rfl, by have := hcd x.id; rw [if_pos rfl, if_neg (Ne.symm hc)] at this; omega⟩))
  obtain ⟨v1, hv1⟩ : ∃ v1, v1 = updV v q.id (setE d) := ⟨_, rfl⟩
  rw [← hv1] at l1 n1 e1 ex1 hp ⊢
  have hov1 : o ∈ v1.ins := by rw [hv1]; exact mem_upd.2 ⟨o, ho, if_neg hoq⟩
  obtain ⟨p, hpv, hpi, hpk, _, _, hpr, _⟩ := l1.from_ p1 hp
  have hr1 : Right p1.ents := hpr (by rw [← hpk]; exact hkp)
  obtain ⟨d2, hd2⟩ : ∃ d2, d2 = p1.ents.eraseIdx i := ⟨_, rfl⟩
  have hcd2 : ∀ id, cntN d2 id + (if x.id = id then 1 else 0) = cntN p1.ents id := fun id => by
    have := cnt_erase hi id
    rw [← hd2, ← hxi] at this; exact this
  have hr2 : Right d2 := by rw [hd2]; exact right_erase hr1 i
  rw [← hd2]
  have l2 := like_set l1 hp hkp hr2
  have n2 := named_set l1.fr.rise hp d2
  have e2 : ∀ a z, Edge v a z → ¬ (z = x.id ∨ z = o.id) → Edge (updV v1 p1.id (setE d2)) a z := fun a z haz hz =>
    edge_keep l1.fr.rise hp (by have := hcd2 z; rw [if_neg (fun hc => hz (.inl hc.symm))] at this; omega) (e1 a z haz hz)
  have ex : x.id ≠ o.id → Edge (updV v1 p1.id (setE d2)) q.id x.id := fun hc => by
    rw [edge_set l1.fr.rise hp]
    by_cases hpq : q.id = p1.id
    · refine .inr ⟨hpq, ?_⟩
      have h1 := hcd2 x.id
      have h2 := hcd x.id
      rw [c1 hpq.symm, if_pos rfl] at h1
      rw [if_pos rfl, if_neg (Ne.symm hc)] at h2
      rw [← hpq, edge_cnt h.rise hq] at hpx
      omega
    · exact .inl ⟨hpq, ex1.resolve_right hc⟩
  have rq : q.id = 1 ∨ Reach (updV v1 p1.id (setE d2)) 1 q.id := by
    refine (h.below q hq).imp (fun h1 => h1) fun h1 => ?_
    rcases reach_or (S := fun z => z = x.id ∨ z = o.id) e2 h1 with ⟨t, ht | ht, h3⟩ | h2
    · rw [ht] at h3
      rcases h3 with h3 | h3
      · exact absurd h3 hqx
      · exact absurd h3 hlo
    · rw [ht] at h3
      rcases h3 with h3 | h3
      · exact absurd h3.symm hoq
      · obtain ⟨b, hb⟩ := reach_first h3
        exact absurd hb (hno b)
    · exact h2
  refine right_less (like_near h l2 ho (mem_upd.2 ⟨o, hov1, if_neg hop⟩) (edge_there h hqo).1 hob (fun id => ?_) fun y hy hyo => ?_)
  · have h1 := n1 id
    have h2 := n2 id
    have h3 := hcd id
    have h4 := hcd2 id
    omega
  · refine (h.below y hy).imp (fun h1 => h1) fun h1 => ?_
    have hS : ∀ t, (t = x.id ∨ t = o.id) → Reach (updV v1 p1.id (setE d2)) 1 t ∨ ∀ z, ¬ Edge v t z := fun t ht => by
      by_cases hto : t = o.id
      · right; rw [hto]; exact hno
      · have htx := ht.resolve_right hto
        left; rw [htx]; exact reach_to rq (ex (by rw [← htx]; exact hto))
    rcases reach_all (S := fun z => z = x.id ∨ z = o.id) e2 hS h1 with h2 | h2
    · exact h2
    · have h5 := h2.resolve_right hyo
      rw [h5]; exact reach_to rq (ex (by rw [← h5]; exact hyo))

/-- a second name -/
theorem right_link {v : Vo} (h : RightV v) {x q : Ino} (hx : x ∈ v.ins) (hkx : x.kind ≠ 2) (hq : q ∈ v.ins) (hk : q.kind = 2) {s : ByteArray} (ho : addOk q.ents s x.id = true) (hx1 : x.id ≠ 1) :
    RightV (updV (updV v x.id (setL (x.links + 1))) q.id (setE (insN q.ents (newE q.ents s x.id)))) := by
  have hqx : q.id ≠ x.id := fun hc => hkx (by rw [← rise_eq h.rise hq hx hc]; exact hk)
  have hf := file_of h hx hkx
  have hdq := dir_of h hq hk
  have f1 : FrV (updV v x.id (setL (x.links + 1))) := fr_upd h.fr fun _ => ⟨rfl, rfl⟩
  have hq1 : q ∈ (updV v x.id (setL (x.links + 1))).ins := mem_upd.2 ⟨q, hq, if_neg hqx⟩
  obtain ⟨d, hd⟩ : ∃ d, d = insN q.ents (newE q.ents s x.id) := ⟨_, rfl⟩
  have hcd : ∀ id, cntN d id = cntN q.ents id + if x.id = id then 1 else 0 := fun id => by rw [hd, cnt_ins]; rfl
  have hr : Right d := by rw [hd]; exact right_add hdq.2.2.1 ho
  rw [← hd]
  have n1 : ∀ id, namedV (updV v x.id (setL (x.links + 1))) id = namedV v id := fun id => by
    have h1 := named_upd h.rise hx (setL (x.links + 1)) id
    have h2 : (setL (x.links + 1) x).ents = x.ents := rfl
    rw [h2] at h1; omega
  have e1 : ∀ a z, Edge v a z → Edge (updV v x.id (setL (x.links + 1))) a z := fun a z haz => by
    rw [edge_upd h.rise hx (g := setL (x.links + 1)) (fun _ => rfl)]
    by_cases hc : a = x.id
    · rw [hc, edge_at h.rise hx] at haz; exact .inr ⟨hc, haz⟩
    · exact .inl ⟨hc, haz⟩
  have m1 : ∀ y ∈ v.ins, ∃ z ∈ (updV v x.id (setL (x.links + 1))).ins, z.id = y.id := fun y hy => id_upd (g := setL (x.links + 1)) (fun _ => rfl) hy
  have g1 : ∀ y ∈ (updV v x.id (setL (x.links + 1))).ins, ∃ z ∈ v.ins, (z.id = x.id ∧ y = setL (x.links + 1) x) ∨ (z.id ≠ x.id ∧ y = z) := fun y hy => by
    obtain ⟨z, hz, rfl⟩ := mem_upd.1 hy
    by_cases hc : z.id = x.id
    · exact ⟨z, hz, .inl ⟨hc, by rw [if_pos hc, rise_eq h.rise hz hx hc]⟩⟩
    · exact ⟨z, hz, .inr ⟨hc, if_neg hc⟩⟩
  obtain ⟨v1, hv1⟩ : ∃ v1, v1 = updV v x.id (setL (x.links + 1)) := ⟨_, rfl⟩
  rw [← hv1] at f1 hq1 n1 e1 m1 g1 ⊢
  have n2 : ∀ id, namedV (updV v1 q.id (setE d)) id = namedV v id + if x.id = id then 1 else 0 := fun id => by
    have h1 := named_set f1.rise hq1 d id
    rw [hcd, n1] at h1; omega
  have e2 : ∀ a z, Edge v a z → Edge (updV v1 q.id (setE d)) a z := fun a z haz => edge_keep f1.rise hq1 (by rw [hcd]; omega) (e1 a z haz)
  have m2 : ∀ y ∈ v.ins, ∃ z ∈ (updV v1 q.id (setE d)).ins, z.id = y.id := fun y hy => by
    obtain ⟨z, hz, h1⟩ := m1 y hy
    obtain ⟨u, hu, h2⟩ := id_upd (i := q.id) (g := setE d) (fun _ => rfl) hz
    exact ⟨u, hu, by rw [h2, h1]⟩
  refine (fr_upd (g := setE d) f1 fun _ => ⟨rfl, rfl⟩).right (fun y hy => ?_) fun y hy => ?_
  · obtain ⟨z, hz, rfl⟩ := mem_upd.1 hy
    by_cases hc : z.id = q.id
    · rw [if_pos hc, rise_eq f1.rise hz hq1 hc]
      refine .inr ⟨hk, hdq.1, hdq.2.1, hr, ?_, fun e he => ?_⟩
      · show q.id = 1 ∨ namedV _ q.id = 1
        rw [n2, if_neg (Ne.symm hqx)]; exact hdq.2.2.2.1
      · have he' : e ∈ insN q.ents (newE q.ents s x.id) := by rw [← hd]; exact he
        rcases mem_ins.1 he' with rfl | he'
        · exact ⟨hx1, m2 x hx⟩
        · obtain ⟨h1, u, hu, h2⟩ := hdq.2.2.2.2 e he'
          refine ⟨h1, ?_⟩
          rw [← h2]; exact m2 u hu
    · rw [if_neg hc]
      obtain ⟨u, hu, ⟨h1, rfl⟩ | ⟨h1, rfl⟩⟩ := g1 z hz
      · refine .inl ⟨hf.1, hf.2.1, hf.2.2.1, ?_⟩
        show x.links + 1 = ((namedV _ x.id : Nat) : Int)
        rw [n2, if_pos rfl, hf.2.2.2]; omega
      · refine ino_tr (h.each z hu) (by rw [n2, if_neg (Ne.symm h1)]; rfl) fun e _ w hw h3 => ?_
        rw [← h3]; exact m2 w hw
  · obtain ⟨z, hz, rfl⟩ := mem_upd.1 hy
    have i1 : (if z.id = q.id then setE d z else z).id = z.id := by split <;> rfl
    rw [i1]
    obtain ⟨u, hu, ⟨h1, rfl⟩ | ⟨h1, rfl⟩⟩ := g1 z hz
    · exact (h.below x hx).imp (fun h1 => h1) (reach_mono e2)
    · exact (h.below z hu).imp (fun h1 => h1) (reach_mono e2)

/-- a text written -/
theorem right_write {v : Vo} (h : RightV v) {x : Ino} (hx : x ∈ v.ins) (hkx : x.kind ≠ 2) {t : ByteArray} (ht : t.size ≤ 20) : RightV (updV v x.id (setD t)) := by
  have hf := file_of h hx hkx
  have n1 : ∀ id, namedV (updV v x.id (setD t)) id = namedV v id := fun id => by
    have h1 := named_upd h.rise hx (setD t) id
    have h2 : (setD t x).ents = x.ents := rfl
    rw [h2] at h1; omega
  have e1 : ∀ a z, Edge v a z → Edge (updV v x.id (setD t)) a z := fun a z haz => by
    rw [edge_upd h.rise hx (g := setD t) (fun _ => rfl)]
    by_cases hc : a = x.id
    · rw [hc, edge_at h.rise hx] at haz; exact .inr ⟨hc, haz⟩
    · exact .inl ⟨hc, haz⟩
  refine (fr_upd (g := setD t) h.fr fun _ => ⟨rfl, rfl⟩).right (fun y hy => ?_) fun y hy => ?_
  · obtain ⟨z, hz, rfl⟩ := mem_upd.1 hy
    by_cases hc : z.id = x.id
    · rw [if_pos hc, rise_eq h.rise hz hx hc]
      exact .inl ⟨hf.1, hf.2.1, ht, by show x.links = ((namedV _ x.id : Nat) : Int); rw [n1]; exact hf.2.2.2⟩
    · rw [if_neg hc]
      refine ino_tr (h.each z hz) (n1 z.id) fun e _ w hw h3 => ?_
      rw [← h3]; exact id_upd (g := setD t) (fun _ => rfl) hw
  · obtain ⟨z, hz, rfl⟩ := mem_upd.1 hy
    have i1 : (if z.id = x.id then setD t z else z).id = z.id := by split <;> rfl
    rw [i1]; exact (h.below z hz).imp (fun h1 => h1) (reach_mono e1)
end

section
/-- what is told -/
structure Re where
  code : Int
  id : Int
  name : ByteArray
  data : ByteArray
def Re.of (c : Int) : Re := ⟨c, 0, ⟨#[]⟩, ⟨#[]⟩⟩
theorem callB_data {c : Ca} (h : callB c = true) : c.data.size ≤ 20 := by
  unfold callB at h
  simp only [Bool.and_eq_true, decide_eq_true_eq] at h
  exact h.1.1.2
theorem callB_kind {c : Ca} (h : callB c = true) : 1 ≤ c.kind ∧ c.kind ≤ 8 := by
  unfold callB at h
  simp only [Bool.and_eq_true, decide_eq_true_eq] at h
  exact h.1.1.1.1.1.1.1
/-- the inode of an Id -/
def inoV (v : Vo) (id : Int) : Option Ino := v.ins.find? fun x => decide (x.id = id)
theorem inoV_some {v : Vo} {id : Int} {x : Ino} (h : inoV v id = some x) : x ∈ v.ins ∧ x.id = id :=
  ⟨List.mem_of_find?_eq_some h, by have := List.find?_some h; exact of_decide_eq_true this⟩
theorem inoV_eq {v : Vo} (h : v.ins.Pairwise fun a b => a.id < b.id) {x : Ino} (hx : x ∈ v.ins) : inoV v x.id = some x := by
  cases hc : inoV v x.id with
  | none => have := List.find?_eq_none.1 hc x hx; simp at this
  | some y =>
    have := inoV_some hc
    rw [rise_eq h this.1 hx this.2]

def makeN (v : Vo) (c : Ca) (p : Ino) : Vo × Re :=
  if (atN p.ents c.name).isSome then (v, Re.of 3)
  else if 12 ≤ p.ents.length ∨ 16 ≤ v.ins.length ∨ 100000 ≤ v.next then (v, Re.of 7)
  else (updV ⟨v.next + 1, v.ins ++ [⟨v.next, c.kind, 1, ⟨#[]⟩, []⟩]⟩ p.id (setE (insN p.ents (newE p.ents c.name v.next))), ⟨0, v.next, ⟨#[]⟩, ⟨#[]⟩⟩)
/-- the entries of inode a once those of b are d -/
def entsIf (a b : Ino) (d : List En) : List En := if a.id = b.id then d else a.ents
open Classical in
noncomputable def renameN (v : Vo) (c : Ca) (p q x : Ino) (i : Nat) : Vo × Re :=
  if x.kind = 2 ∧ (q.id = x.id ∨ Reach v x.id q.id) then (v, Re.of 8) else
  match atN q.ents c.as_ with
  | some k =>
    if q.ents[k]!.id = x.id then
      (if p.id = q.id ∧ alikeB c.name c.as_ = true then (updV v q.id (setE (q.ents.set k (respE q.ents[k]! c.as_ x.id))), Re.of 0) else (v, Re.of 0))
    else match inoV v q.ents[k]!.id with
      | none => (v, Re.of 0)
      | some o =>
        if x.kind = 2 ∧ o.kind ≠ 2 then (v, Re.of 4)
        else if x.kind = 2 ∧ o.ents ≠ [] then (v, Re.of 6)
        else if x.kind ≠ 2 ∧ o.kind = 2 then (v, Re.of 5)
        else (lessV (updV (updV v q.id (setE (q.ents.set k (respE q.ents[k]! c.as_ x.id)))) p.id (setE ((entsIf p q (q.ents.set k (respE q.ents[k]! c.as_ x.id))).eraseIdx i))) o, Re.of 0)
  | none =>
    if p.id ≠ q.id ∧ 12 ≤ q.ents.length then (v, Re.of 7)
    else (updV (updV v p.id (setE (p.ents.eraseIdx i))) q.id (setE (insN (entsIf q p (p.ents.eraseIdx i)) (newE (entsIf q p (p.ents.eraseIdx i)) c.as_ x.id))), Re.of 0)
noncomputable def onN (v : Vo) (c : Ca) (p q : Ino) : Vo × Re :=
  match atN p.ents c.name with
  | none => (v, Re.of 2)
  | some i => match inoV v p.ents[i]!.id with
    | none => (v, Re.of 0)
    | some x =>
      if c.kind = 3 ∨ c.kind = 4 then
        if c.kind = 3 ∧ x.kind = 2 then (v, Re.of 5)
        else if c.kind = 4 ∧ x.kind ≠ 2 then (v, Re.of 4)
        else if x.ents ≠ [] then (v, Re.of 6)
        else (lessV (updV v p.id (setE (p.ents.eraseIdx i))) x, Re.of 0)
      else if c.kind = 5 then
        if x.kind = 2 then (v, Re.of 5)
        else if (atN q.ents c.as_).isSome then (v, Re.of 3)
        else if 12 ≤ q.ents.length then (v, Re.of 7)
        else (updV (updV v x.id (setL (x.links + 1))) q.id (setE (insN q.ents (newE q.ents c.as_ x.id))), Re.of 0)
      else if c.kind = 6 then renameN v c p q x i
      else if c.kind = 7 then
        if x.kind = 2 then (v, Re.of 5) else (updV v x.id (setD c.data), Re.of 0)
      else (v, ⟨0, x.id, p.ents[i]!.name, x.data⟩)
/-- a call on a right volume -/
noncomputable def doN (v : Vo) (c : Ca) : Vo × Re :=
  if callB c = false then (v, Re.of 1) else
  match inoV v c.dir, inoV v (if twoB c then c.to_ else c.dir) with
  | some p, some q =>
    if p.kind ≠ 2 ∨ q.kind ≠ 2 then (v, Re.of 4)
    else if (nameL c.name).isNone ∨ (twoB c = true ∧ (nameL c.as_).isNone) then (v, Re.of 1)
    else if c.kind = 1 ∨ c.kind = 2 then makeN v c p
    else onN v c p q
  | _, _ => (v, Re.of 2)

theorem make_right {v : Vo} (h : RightV v) {c : Ca} (hc : c.kind = 1 ∨ c.kind = 2) {p : Ino} (hp : p ∈ v.ins) (hk : p.kind = 2) (hn : (nameL c.name).isSome = true) : RightV (makeN v c p).1 := by
  unfold makeN
  split
  · exact h
  · rename_i h1
    split
    · exact h
    · rename_i h2
      have := h.next
      refine right_make h hp hk (addOk_iff.2 ⟨hn, by simpa using h1, idB_iff.2 (by omega), by omega⟩) (by omega) (by omega) hc
theorem no_edge {v : Vo} (h : RightV v) {x : Ino} (hx : x ∈ v.ins) (hb : x.ents = []) (b : Int) : ¬ Edge v x.id b := fun he => by
  obtain ⟨e, h1, _⟩ := (edge_at h.rise hx).1 he
  rw [hb] at h1; simp at h1
theorem rename_right {v : Vo} (h : RightV v) {c : Ca} {p q x : Ino} (hp : p ∈ v.ins) (hkp : p.kind = 2) (hq : q ∈ v.ins) (hkq : q.kind = 2) (ha : (nameL c.as_).isSome = true) {i : Nat} (hi : atN p.ents c.name = some i) (hx : x ∈ v.ins) (hxi : x.id = p.ents[i]!.id) : RightV (renameN v c p q x i).1 := by
  obtain ⟨hil, hal⟩ := atN_is hi
  rw [getElem!_pos p.ents i hil] at hxi
  have hdp := dir_of h hp hkp
  have hdq := dir_of h hq hkq
  have hidx : idB x.id = true := by rw [hxi]; exact idB_iff.2 (entB_iff.1 (hdp.2.2.1.each _ (List.getElem_mem hil))).2.2.2
  have hpx : Edge v p.id x.id := (edge_at h.rise hp).2 ⟨p.ents[i], List.getElem_mem hil, hxi.symm⟩
  unfold renameN
  by_cases hl : x.kind = 2 ∧ (q.id = x.id ∨ Reach v x.id q.id)
  · rw [if_pos hl]; exact h
  rw [if_neg hl]
  have hqx : q.id ≠ x.id := fun hc => by
    rw [← rise_eq h.rise hq hx hc] at hl
    exact hl ⟨hkq, .inl rfl⟩
  have hlo : ¬ Reach v x.id q.id := fun hc => by
    by_cases hkx : x.kind = 2
    · exact hl ⟨hkx, .inr hc⟩
    · obtain ⟨b, hb⟩ := reach_first hc
      exact no_edge h hx (file_of h hx hkx).2.1 b hb
  cases hk : atN q.ents c.as_ with
  | some k =>
    obtain ⟨hkl, hka⟩ := atN_is hk
    have ek : q.ents[k]! = q.ents[k] := getElem!_pos q.ents k hkl
    dsimp only
    by_cases hs : q.ents[k]!.id = x.id
    · rw [if_pos hs]
      split
      · have e1 : x.id = (q.ents[k]).id := by rw [← ek, hs]
        rw [e1]; exact right_respell h hq hkq hkl hka
      · exact h
    · rw [if_neg hs]
      cases ho : inoV v q.ents[k]!.id with
      | none => exact h
      | some o =>
        obtain ⟨hov, hoi⟩ := inoV_some ho
        dsimp only
        split
        · exact h
        · rename_i c1
          split
          · exact h
          · rename_i c2
            split
            · exact h
            · rename_i c3
              have hob : o.ents = [] := by
                by_cases hkx : x.kind = 2
                · by_cases hoe : o.ents = []
                  · exact hoe
                  · exact absurd ⟨hkx, hoe⟩ c2
                · exact (file_of h hov fun hko => c3 ⟨hkx, hko⟩).2.1
              obtain ⟨d, hd⟩ : ∃ d, d = q.ents.set k (respE q.ents[k]! c.as_ x.id) := ⟨_, rfl⟩
              have hin : (setE (entsIf p q d) p) ∈ (updV v q.id (setE d)).ins := by
                by_cases hpq : p.id = q.id
                · rw [rise_eq h.rise hp hq hpq]
                  refine mem_upd.2 ⟨q, hq, ?_⟩
                  rw [if_pos rfl]; unfold entsIf; rw [if_pos rfl]
                · refine mem_upd.2 ⟨p, hp, ?_⟩
                  rw [if_neg hpq]; unfold entsIf; rw [if_neg hpq]; rfl
              have hil' : i < (entsIf p q d).length := by
                unfold entsIf
                split
                · rename_i hpq
                  rw [hd, List.length_set, ← rise_eq h.rise hp hq hpq]; exact hil
                · exact hil
              have hxi' : x.id = ((entsIf p q d)[i]).id := by
                by_cases hpq : p.id = q.id
                · have hik : k ≠ i := fun hc => by
                    subst hc
                    apply hs
                    rw [ek, hxi]
                    have := rise_eq h.rise hp hq hpq
                    subst this; rfl
                  have e1 : entsIf p q d = d := by unfold entsIf; rw [if_pos hpq]
                  have e2 : (entsIf p q d)[i] = d[i]'(by rw [← e1]; exact hil') := by simp only [e1]
                  rw [e2]
                  have := rise_eq h.rise hp hq hpq
                  subst this
                  subst hd
                  rw [List.getElem_set_ne hik]; exact hxi
                · have e1 : entsIf p q d = p.ents := by unfold entsIf; rw [if_neg hpq]
                  have e2 : (entsIf p q d)[i] = p.ents[i] := by simp only [e1]
                  rw [e2]; exact hxi
              rw [← hd]
              have R := right_onto (p1 := setE (entsIf p q d) p) h hq hkq hkl hka hidx hov (by rw [hoi, ek]) hob (by rw [← hd]; exact hin) hkp hpx hil' hxi' hqx hlo
              rw [← hd] at R
              exact R
  | none =>
    dsimp only
    split
    · exact h
    · rename_i hfull
      obtain ⟨d, hd⟩ : ∃ d, d = p.ents.eraseIdx i := ⟨_, rfl⟩
      have hin : (setE (entsIf q p d) q) ∈ (updV v p.id (setE d)).ins := by
        by_cases hpq : q.id = p.id
        · rw [rise_eq h.rise hq hp hpq]
          refine mem_upd.2 ⟨p, hp, ?_⟩
          rw [if_pos rfl]; unfold entsIf; rw [if_pos rfl]
        · refine mem_upd.2 ⟨q, hq, ?_⟩
          rw [if_neg hpq]; unfold entsIf; rw [if_neg hpq]; rfl
      have hok : addOk (entsIf q p d) c.as_ x.id = true := by
        refine addOk_iff.2 ⟨ha, ?_, hidx, ?_⟩
        · unfold entsIf
          split
          · rename_i hpq
            rw [rise_eq h.rise hq hp hpq] at hk
            have hno := atN_no hk
            refine atN_none fun j hj => ?_
            rw [getElem!_pos d j hj]
            refine hno _ ?_
            have hsub : ∀ e ∈ d, e ∈ p.ents := fun e he => by rw [hd] at he; exact List.mem_of_mem_eraseIdx he
            exact hsub _ (List.getElem_mem hj)
          · exact hk
        · unfold entsIf
          split
          · have := hdp.2.2.1.len
            rw [hd, List.length_eraseIdx_of_lt hil]; omega
          · rename_i hpq
            have : ¬ 12 ≤ q.ents.length := fun hc => hfull ⟨Ne.symm hpq, hc⟩
            omega
      rw [← hd]
      have R := right_move (q1 := setE (entsIf q p d) q) h hp hkp hil hxi (by rw [← hd]; exact hin) hkq hok hqx hlo
      rw [← hd] at R
      exact R
theorem on_right {v : Vo} (h : RightV v) {c : Ca} (hc : callB c = true) {p q : Ino} (hp : p ∈ v.ins) (hkp : p.kind = 2) (hq : q ∈ v.ins) (hkq : q.kind = 2) (ha : twoB c = true → (nameL c.as_).isSome = true) : RightV (onN v c p q).1 := by
  unfold onN
  cases hi : atN p.ents c.name with
  | none => exact h
  | some i =>
    obtain ⟨hil, hal⟩ := atN_is hi
    have ei : p.ents[i]! = p.ents[i] := getElem!_pos p.ents i hil
    dsimp only
    cases hx : inoV v p.ents[i]!.id with
    | none => exact h
    | some x =>
      obtain ⟨hxv, hxi⟩ := inoV_some hx
      have hed : Edge v p.id x.id := (edge_at h.rise hp).2 ⟨p.ents[i], List.getElem_mem hil, by rw [hxi, ei]⟩
      have hdp := dir_of h hp hkp
      have hidx : idB x.id = true := by rw [hxi, ei]; exact idB_iff.2 (entB_iff.1 (hdp.2.2.1.each _ (List.getElem_mem hil))).2.2.2
      dsimp only
      by_cases k1 : c.kind = 3 ∨ c.kind = 4
      · rw [if_pos k1]
        split
        · exact h
        · split
          · exact h
          · split
            · exact h
            · rename_i hb
              exact right_unlink h hp hkp hil hxv (by rw [hxi, ei]) (by simpa using hb)
      · rw [if_neg k1]
        by_cases k2 : c.kind = 5
        · rw [if_pos k2]
          split
          · exact h
          · rename_i hkx
            split
            · exact h
            · rename_i hn
              split
              · exact h
              · exact right_link h hxv hkx hq hkq (addOk_iff.2 ⟨ha (by unfold twoB; simp [k2]), by simpa using hn, hidx, by omega⟩) (edge_there h hed).1
        · rw [if_neg k2]
          by_cases k3 : c.kind = 6
          · rw [if_pos k3]
            exact rename_right h hp hkp hq hkq (ha (by unfold twoB; simp [k3])) hi hxv hxi
          · rw [if_neg k3]
            by_cases k4 : c.kind = 7
            · rw [if_pos k4]
              split
              · exact h
              · rename_i hkx
                exact right_write h hxv hkx (callB_data hc)
            · rw [if_neg k4]; exact h
/-- a right volume stays right -/
theorem do_right {v : Vo} (h : RightV v) (c : Ca) : RightV (doN v c).1 := by
  unfold doN
  split
  · exact h
  · rename_i hc
    have hc : callB c = true := by simpa using hc
    split
    · rename_i p q h1 h2
      have hp := inoV_some h1
      have hq := inoV_some h2
      split
      · exact h
      · rename_i hk
        split
        · exact h
        · rename_i hn
          have hkp : p.kind = 2 := Decidable.byContradiction fun hx => hk (.inl hx)
          have hkq : q.kind = 2 := Decidable.byContradiction fun hx => hk (.inr hx)
          have hn1 : (nameL c.name).isSome = true := by
            cases hx : nameL c.name with
            | none => exact absurd (.inl (by rw [hx]; rfl)) hn
            | some _ => rfl
          split
          · rename_i hm
            exact make_right h hm hp.1 hkp hn1
          · refine on_right h hc hp.1 hkp hq.1 hkq fun ht => ?_
            cases hx : nameL c.as_ with
            | none => exact absurd (.inr ⟨ht, by rw [hx]; rfl⟩) hn
            | some _ => rfl
    · exact h
end

section
theorem rise_at {l : List Ino} (h : l.Pairwise fun a b => a.id < b.id) {j k : Nat} (hj : j < l.length) (hk : k < l.length) (he : l[j]!.id = l[k]!.id) : j = k := by
  rw [getElem!_pos l j hj, getElem!_pos l k hk] at he
  rcases Nat.lt_trichotomy j k with h1 | h1 | h1
  · have := List.pairwise_iff_getElem.1 h j k hj hk h1; omega
  · exact h1
  · have := List.pairwise_iff_getElem.1 h k j hk hj h1; omega
theorem mem_place {l : List Ino} {x : Ino} (h : x ∈ l) : ∃ j, j < l.length ∧ l[j]! = x := by
  obtain ⟨j, hj, rfl⟩ := List.getElem_of_mem h
  exact ⟨j, hj, getElem!_pos l j hj⟩
theorem place_mem {l : List Ino} {j : Nat} (h : j < l.length) : l[j]! ∈ l := by
  rw [getElem!_pos l j h]; exact List.getElem_mem h
/-- how many are marked -/
def cntB (l : List Bool) : Nat := l.countP id
theorem cntB_le (l : List Bool) : cntB l ≤ l.length := List.countP_le_length
theorem cntB_mono {a b : List Bool} (hl : a.length = b.length) (hs : ∀ j, j < a.length → a[j]! = true → b[j]! = true) : cntB a ≤ cntB b ∧ (cntB b ≤ cntB a → a = b) := by
  induction a generalizing b with
  | nil => cases b with
    | nil => exact ⟨Nat.le_refl _, fun _ => rfl⟩
    | cons y b => simp at hl
  | cons x a ih => cases b with
    | nil => simp at hl
    | cons y b =>
      have h0 := hs 0 (by simp)
      obtain ⟨h1, h2⟩ := ih (b := b) (by simpa using hl) fun j hj hja => by
        have := hs (j + 1) (by simpa using hj)
        simpa using this (by simpa using hja)
      unfold cntB at h1 h2 ⊢
      rw [List.countP_cons, List.countP_cons]
      cases x <;> cases y
      · exact ⟨by simpa using h1, fun h => by rw [h2 (by simpa using h)]⟩
      · exact ⟨by simp; omega, fun h => by simp at h; omega⟩
      · simp at h0
      · exact ⟨by simpa using h1, fun h => by rw [h2 (by simpa using h)]⟩
/-- all that the marked ones name is marked -/
def ClosedB (v : Vo) (op inn : List Bool) : Prop := ∀ j, j < v.ins.length → op[j]! = true → ∀ e ∈ (v.ins[j]!).ents, ∃ k, k < v.ins.length ∧ (v.ins[k]!).id = e.id ∧ inn[k]! = true
/-- at the end of a round: either all is closed, or one more is marked than before it -/
theorem sweep_round {v : Vo} {o0 op inn : List Bool} (hl : o0.length = op.length) (hs : ∀ j, j < o0.length → o0[j]! = true → op[j]! = true) (hv : ClosedB v o0 inn) : ClosedB v op inn ∨ cntB o0 < cntB op := by
  obtain ⟨_, h2⟩ := cntB_mono hl hs
  rcases Nat.lt_or_ge (cntB o0) (cntB op) with h | h
  · exact .inr h
  · rw [← h2 h]; exact .inl hv
/-- as many rounds as there are inodes are enough -/
theorem sweep_end {v : Vo} {op inn : List Bool} (hl : op.length = v.ins.length) (h : ClosedB v op inn ∨ v.ins.length + 1 ≤ cntB op) : ClosedB v op inn := by
  rcases h with h | h
  · exact h
  · have := cntB_le op; omega
/-- what is marked then is what is below -/
theorem sweep_is {v : Vo} (hr : v.ins.Pairwise fun a b => a.id < b.id) {a : Nat} (ha : a < v.ins.length) {op inn : List Bool} (hop : ∀ j, j < v.ins.length → (op[j]! = true ↔ inn[j]! = true ∨ j = a))
    (sound : ∀ j, j < v.ins.length → inn[j]! = true → Reach v (v.ins[a]!).id (v.ins[j]!).id) (hc : ClosedB v op inn) {j : Nat} (hj : j < v.ins.length) : inn[j]! = true ↔ Reach v (v.ins[a]!).id (v.ins[j]!).id := by
  refine ⟨sound j hj, fun h => ?_⟩
  have key : ∀ z, Reach v (v.ins[a]!).id z → ∃ k, k < v.ins.length ∧ (v.ins[k]!).id = z ∧ inn[k]! = true := by
    intro z hz
    have step : ∀ k, k < v.ins.length → op[k]! = true → ∀ b, Edge v (v.ins[k]!).id b → ∃ k, k < v.ins.length ∧ (v.ins[k]!).id = b ∧ inn[k]! = true := by
      intro k hk hok b hb
      obtain ⟨e, he, h1⟩ := (edge_at hr (place_mem hk)).1 hb
      rw [← h1]; exact hc k hk hok e he
    induction hz with
    | one h => exact step a ha ((hop a ha).2 (.inr rfl)) _ h
    | more _ h ih =>
      obtain ⟨k, hk, h1, h2⟩ := ih
      rw [← h1] at h
      exact step k hk ((hop k hk).2 (.inl h2)) _ h
  obtain ⟨k, hk, h1, h2⟩ := key _ h
  rw [← rise_at hr hk hj h1]; exact h2
end

section
theorem make_same {v : Vo} {c : Ca} {p : Ino} (h : (makeN v c p).2.code ≠ 0) : (makeN v c p).1 = v := by
  unfold makeN at h ⊢
  split
  · rfl
  · split
    · rfl
    · rename_i h1 h2
      rw [if_neg h1, if_neg h2] at h; exact absurd rfl h
theorem rename_same {v : Vo} {c : Ca} {p q x : Ino} {i : Nat} (h : (renameN v c p q x i).2.code ≠ 0) : (renameN v c p q x i).1 = v := by
  unfold renameN at h ⊢
  by_cases hl : x.kind = 2 ∧ (q.id = x.id ∨ Reach v x.id q.id)
  · rw [if_pos hl]
  rw [if_neg hl] at h ⊢
  cases hk : atN q.ents c.as_ with
  | some k =>
    rw [hk] at h
    dsimp only at h ⊢
    split
    · rename_i hs
      rw [if_pos hs] at h
      split
      · rename_i ht; rw [if_pos ht] at h; exact absurd rfl h
      · rfl
    · rename_i hs
      rw [if_neg hs] at h
      cases ho : inoV v q.ents[k]!.id with
      | none => rfl
      | some o =>
        rw [ho] at h
        dsimp only at h ⊢
        split
        · rfl
        · rename_i c1
          rw [if_neg c1] at h
          split
          · rfl
          · rename_i c2
            rw [if_neg c2] at h
            split
            · rfl
            · rename_i c3
              rw [if_neg c3] at h; exact absurd rfl h
  | none =>
    rw [hk] at h
    dsimp only at h ⊢
    split
    · rfl
    · rename_i hf
      rw [if_neg hf] at h; exact absurd rfl h
theorem on_same {v : Vo} {c : Ca} {p q : Ino} (h : (onN v c p q).2.code ≠ 0 ∨ c.kind = 8) : (onN v c p q).1 = v := by
  unfold onN at h ⊢
  cases hi : atN p.ents c.name with
  | none => rfl
  | some i =>
    rw [hi] at h
    dsimp only at h ⊢
    cases hx : inoV v p.ents[i]!.id with
    | none => rfl
    | some x =>
      rw [hx] at h
      dsimp only at h ⊢
      by_cases k1 : c.kind = 3 ∨ c.kind = 4
      · rw [if_pos k1] at h ⊢
        have h := h.resolve_right (by omega)
        split
        · rfl
        · rename_i c1
          rw [if_neg c1] at h
          split
          · rfl
          · rename_i c2
            rw [if_neg c2] at h
            split
            · rfl
            · rename_i c3
              rw [if_neg c3] at h; exact absurd rfl h
      · rw [if_neg k1] at h ⊢
        by_cases k2 : c.kind = 5
        · rw [if_pos k2] at h ⊢
          have h := h.resolve_right (by omega)
          split
          · rfl
          · rename_i c1
            rw [if_neg c1] at h
            split
            · rfl
            · rename_i c2
              rw [if_neg c2] at h
              split
              · rfl
              · rename_i c3
                rw [if_neg c3] at h; exact absurd rfl h
        · rw [if_neg k2] at h ⊢
          by_cases k3 : c.kind = 6
          · rw [if_pos k3] at h ⊢
            exact rename_same (h.resolve_right (by omega))
          · rw [if_neg k3] at h ⊢
            by_cases k4 : c.kind = 7
            · rw [if_pos k4] at h ⊢
              have h := h.resolve_right (by omega)
              split
              · rfl
              · rename_i c1
                rw [if_neg c1] at h; exact absurd rfl h
            · rw [if_neg k4]
/-- what is refused, and a look, changes nothing -/
theorem do_same {v : Vo} {c : Ca} (h : (doN v c).2.code ≠ 0 ∨ c.kind = 8) : (doN v c).1 = v := by
  unfold doN at h ⊢
  split
  · rfl
  · rename_i hc
    rw [if_neg hc] at h
    split
    · rename_i p q h1 h2
      rw [h1, h2] at h
      dsimp only at h
      split
      · rfl
      · rename_i c1
        rw [if_neg c1] at h
        split
        · rfl
        · rename_i c2
          rw [if_neg c2] at h
          split
          · rename_i c3
            rw [if_pos c3] at h
            exact make_same (h.resolve_right (by omega))
          · rename_i c3
            rw [if_neg c3] at h
            exact on_same h
    · rfl

theorem name_size {s : ByteArray} (h : (nameL s).isSome = true) : s.size ≤ 24 := by
  by_cases hs : s.size ≤ 24
  · exact hs
  · rw [nameL_short (by unfold inB; simp; omega)] at h; cases h
/-- a call on the root by one name -/
def rootC (k : Int) (s : ByteArray) : Ca := ⟨k, 1, s, 0, ⟨#[]⟩, ⟨#[]⟩⟩
theorem root_of {v : Vo} (h : RightV v) : ∃ r ∈ v.ins, r.id = 1 ∧ r.kind = 2 ∧ inoV v 1 = some r := by
  obtain ⟨r, l, h1, h2, h3⟩ := h.root
  have hm : r ∈ v.ins := by rw [h1]; simp
  exact ⟨r, hm, h2, h3, by rw [← h2]; exact inoV_eq h.rise hm⟩
theorem do_one {v : Vo} {r : Ino} (hr : inoV v 1 = some r) (hk : r.kind = 2) {k : Int} (hk' : k = 1 ∨ k = 2 ∨ k = 3 ∨ k = 4 ∨ k = 8) {s : ByteArray} (hn : (nameL s).isSome = true) :
    doN v (rootC k s) = if k = 1 ∨ k = 2 then makeN v (rootC k s) r else onN v (rootC k s) r r := by
  have ht : twoB (rootC k s) = false := by unfold twoB rootC; simp; omega
  have hs := name_size hn
  have hc : callB (rootC k s) = true := by
    unfold callB
    rw [ht]
    unfold rootC
    simp only [Bool.and_eq_true, decide_eq_true_eq, Bool.or_eq_true]
    refine ⟨⟨⟨⟨⟨⟨⟨⟨by omega, by omega⟩, by decide, by decide⟩, by decide, by decide⟩, hs⟩, by decide⟩, by decide⟩, .inr ⟨trivial, rfl⟩⟩, .inr rfl⟩
  unfold doN
  rw [if_neg (by rw [hc]; exact Bool.noConfusion), ht]
  have e1 : (rootC k s).dir = 1 := rfl
  have e2 : (rootC k s).name = s := rfl
  have e3 : (rootC k s).kind = k := rfl
  rw [e1]
  simp only [Bool.false_eq_true, if_false, hr, e2, e3]
  rw [if_neg (by simp [hk]), if_neg (by cases hx : nameL s with | none => rw [hx] at hn; cases hn | some _ => simp)]
/-- refused where the name is none -/
theorem do_bad {v : Vo} {k : Int} {s : ByteArray} (hn : (nameL s).isSome = false) : (doN v (rootC k s)).2.code ≠ 0 := by
  unfold doN
  split
  · show (1 : Int) ≠ 0; decide
  · split
    · split
      · show (4 : Int) ≠ 0; decide
      · rw [if_pos]
        · show (1 : Int) ≠ 0; decide
        · left
          show (nameL s).isNone = true
          cases hx : nameL s with
          | none => rfl
          | some _ => rw [hx] at hn; cases hn
    · show (2 : Int) ≠ 0; decide
/-- a look at the root by a name that is there -/
theorem look_is {v : Vo} {r x : Ino} (hr : inoV v 1 = some r) (hk : r.kind = 2) {s : ByteArray} (hn : (nameL s).isSome = true) {i : Nat} (hi : atN r.ents s = some i) (hx : inoV v r.ents[i]!.id = some x) :
    doN v (rootC 8 s) = (v, ⟨0, x.id, r.ents[i]!.name, x.data⟩) := by
  rw [do_one hr hk (by omega) hn, if_neg (by omega)]
  unfold onN
  have e2 : (rootC 8 s).name = s := rfl
  have e3 : (rootC 8 s).kind = 8 := rfl
  simp only [e2, e3, hi, hx]
  simp
theorem look_no {v : Vo} {r : Ino} (hr : inoV v 1 = some r) (hk : r.kind = 2) {s : ByteArray} (hn : (nameL s).isSome = true) (hi : atN r.ents s = none) : doN v (rootC 8 s) = (v, Re.of 2) := by
  rw [do_one hr hk (by omega) hn, if_neg (by omega)]
  unfold onN
  have e2 : (rootC 8 s).name = s := rfl
  simp only [e2, hi]

/-- what is made: found by each spelling, refused a second time, gone once taken away -/
theorem made_is {v : Vo} (h : RightV v) {k : Int} (hk : k = 1 ∨ k = 2) {a : ByteArray} (ho : (doN v (rootC k a)).2.code = 0) :
    (doN v (rootC k a)).2.id = v.next ∧
    (∀ b, alikeB a b = true → ∃ t, doN (doN v (rootC k a)).1 (rootC 8 b) = ((doN v (rootC k a)).1, ⟨0, v.next, a, t⟩) ∧ t.size = 0) ∧
    (∀ b, alikeB a b = true → (doN (doN v (rootC k a)).1 (rootC 1 b)).2.code = 3) ∧
    (doN (doN v (rootC k a)).1 (rootC (k + 2) a)) = (⟨v.next + 1, v.ins⟩, Re.of 0) ∧
    (doN ⟨v.next + 1, v.ins⟩ (rootC 8 a)).2.code = 2 := by
  obtain ⟨p, hp, hp1, hpk, hpi⟩ := root_of h
  have hn : (nameL a).isSome = true := by
    cases hx : (nameL a).isSome with
    | true => rfl
    | false => exact absurd ho (do_bad hx)
  have hR := do_right h (rootC k a)
  have e0 := do_one hpi hpk (k := k) (by omega) hn
  rw [if_pos hk] at e0
  rw [e0] at ho hR ⊢
  have e1 : (rootC k a).name = a := rfl
  have e2 : (rootC k a).kind = k := rfl
  unfold makeN at ho hR ⊢
  rw [e1] at ho hR ⊢
  by_cases c1 : (atN p.ents a).isSome = true
  · rw [if_pos c1] at ho; exact absurd (show (3 : Int) = 0 from ho) (by decide)
  rw [if_neg c1] at ho hR ⊢
  by_cases c2 : 12 ≤ p.ents.length ∨ 16 ≤ v.ins.length ∨ 100000 ≤ v.next
  · rw [if_pos c2] at ho; exact absurd (show (7 : Int) = 0 from ho) (by decide)
  rw [if_neg c2] at hR ⊢
  rw [e2] at hR ⊢
  dsimp only at hR ⊢
  have hnext := h.next
  have hat : atN p.ents a = none := by simpa using c1
  have hok : addOk p.ents a v.next = true := addOk_iff.2 ⟨hn, hat, idB_iff.2 (by omega), by omega⟩
  have hdp := dir_of h hp hpk
  obtain ⟨n, hnn⟩ : ∃ n : Ino, n = ⟨v.next, k, 1, ⟨#[]⟩, []⟩ := ⟨_, rfl⟩
  have hni : n.id = v.next := by rw [hnn]
  obtain ⟨d, hd⟩ : ∃ d, d = insN p.ents (newE p.ents a v.next) := ⟨_, rfl⟩
  obtain ⟨j, hj⟩ : ∃ j, j = (p.ents.takeWhile (fun x => lessB x (newE p.ents a v.next).hash (newE p.ents a v.next).index)).length := ⟨_, rfl⟩
  have hdr : Right d := by rw [hd]; exact right_add hdp.2.2.1 hok
  have hdj : d[j]! = newE p.ents a v.next := by rw [hd, hj]; exact ins_at _ _
  have hdat : ∀ b, alikeB a b = true → atN d b = some j := fun b hb => by
    rw [hd, hj]; exact at_ins (by rw [← hd]; exact hdr.toRightP) hb
  have hde : d.eraseIdx j = p.ents := by rw [hd, hj]; exact ins_erase _ _
  rw [← hnn, ← hd] at hR ⊢
  have hpn : n.id ≠ p.id := by omega
  have hnx : n ∈ (updV ⟨v.next + 1, v.ins ++ [n]⟩ p.id (setE d)).ins := mem_upd.2 ⟨n, by simp, if_neg hpn⟩
  have hpx : setE d p ∈ (updV ⟨v.next + 1, v.ins ++ [n]⟩ p.id (setE d)).ins := mem_upd.2 ⟨p, by simp [hp], if_pos rfl⟩
  have hgone : goneV (updV (updV ⟨v.next + 1, v.ins ++ [n]⟩ p.id (setE d)) p.id (setE p.ents)) v.next = ⟨v.next + 1, v.ins⟩ := by
    have hmap : ((v.ins ++ [n]).map fun x => if x.id = p.id then setE d x else x).map (fun x => if x.id = p.id then setE p.ents x else x) = v.ins ++ [n] := by
      rw [List.map_map]
      refine (List.map_congr_left (g := id) fun x hx => ?_).trans (List.map_id _)
      show (if (if x.id = p.id then setE d x else x).id = p.id then setE p.ents (if x.id = p.id then setE d x else x) else (if x.id = p.id then setE d x else x)) = x
      by_cases hc : x.id = p.id
      · have hxp : x = p := by
          rcases List.mem_append.1 hx with hx | hx
          · exact rise_eq h.rise hx hp hc
          · rw [List.mem_singleton] at hx; rw [hx] at hc; exact absurd hc hpn
        rw [if_pos hc, if_pos (show (setE d x).id = p.id from hc), hxp]; rfl
      · rw [if_neg hc, if_neg hc]
    unfold goneV updV
    dsimp only
    rw [hmap, List.filter_append, List.filter_eq_self.2 (fun x hx => by have := h.ids x hx; simp; omega), List.filter_cons, if_neg (by simp [hni])]
    simp
  obtain ⟨w, hw⟩ : ∃ w, w = updV ⟨v.next + 1, v.ins ++ [n]⟩ p.id (setE d) := ⟨_, rfl⟩
  rw [← hw] at hR hnx hpx hgone ⊢
  have hroot : inoV w 1 = some (setE d p) := by rw [← hp1]; exact inoV_eq hR.rise hpx
  have hino : inoV w d[j]!.id = some n := by
    rw [hdj]
    show inoV w v.next = some n
    rw [← hni]; exact inoV_eq hR.rise hnx
  have haa : alikeB a a = true := by rw [alike_self]; exact hn
  refine ⟨rfl, fun b hb => ?_, fun b hb => ?_, ?_, ?_⟩
  · have hnb : (nameL b).isSome = true := alike_name (by rw [alike_sym]; exact hb)
    refine ⟨n.data, ?_, by rw [hnn]; rfl⟩
    rw [look_is (r := setE d p) hroot hpk hnb (i := j) (hdat b hb) hino, hni]
    show (w, (⟨0, v.next, d[j]!.name, n.data⟩ : Re)) = _
    rw [hdj]; rfl
  · have hnb : (nameL b).isSome = true := alike_name (by rw [alike_sym]; exact hb)
    rw [do_one (r := setE d p) hroot hpk (by omega) hnb, if_pos (.inl rfl)]
    unfold makeN
    have e3 : (rootC 1 b).name = b := rfl
    have e4 : (setE d p).ents = d := rfl
    rw [e3, e4, hdat b hb, if_pos (show (some j).isSome = true from rfl)]; rfl
  · rw [do_one (r := setE d p) hroot hpk (by omega) hn, if_neg (by omega)]
    unfold onN
    have e3 : (rootC (k + 2) a).name = a := rfl
    have e4 : (setE d p).ents = d := rfl
    have e5 : (rootC (k + 2) a).kind = k + 2 := rfl
    have e6 : (setE d p).id = p.id := rfl
    have n1 : n.kind = k ∧ n.ents = [] ∧ n.links = 1 := by rw [hnn]; exact ⟨rfl, rfl, rfl⟩
    rw [e3, e4, hdat a haa]
    dsimp only
    rw [hino]
    dsimp only
    rw [e5, if_pos (by omega), if_neg (by rw [n1.1]; omega), if_neg (by rw [n1.1]; omega), if_neg (by rw [n1.2.1]; simp), hde, e6]
    unfold lessV
    rw [if_pos n1.2.2, hni, hgone]
  · have hroot2 : inoV ⟨v.next + 1, v.ins⟩ 1 = some p := hpi
    rw [look_no hroot2 hpk hn hat]; rfl
end

section
theorem erase_no {d : List En} (hr : RightP d) {a : ByteArray} {i : Nat} (hi : atN d a = some i) : ∀ e ∈ d.eraseIdx i, alikeB e.name a = false := by
  intro e he
  obtain ⟨j, hj, hne, rfl⟩ := List.mem_eraseIdx_iff_getElem.1 he
  cases hc : alikeB (d[j]).name a with
  | false => rfl
  | true =>
    rw [atN_eq hr hj hc] at hi
    exact absurd (Option.some.inj hi) hne
theorem at_alike {d : List En} {a b : ByteArray} (h : alikeB a b = true) : atN d b = atN d a := by
  unfold atN
  congr 1
  funext e
  exact alike_swap h
theorem at_mem {d : List En} (hr : RightP d) {e : En} (he : e ∈ d) {s : ByteArray} (h : alikeB e.name s = true) : ∃ j, atN d s = some j ∧ d[j]! = e := by
  obtain ⟨j, hj, rfl⟩ := List.getElem_of_mem he
  exact ⟨j, atN_eq hr hj h, getElem!_pos d j hj⟩
theorem at_none {d : List En} {s : ByteArray} (h : ∀ e ∈ d, alikeB e.name s = false) : atN d s = none :=
  atN_none fun k hk => by rw [getElem!_pos d k hk]; exact h _ (List.getElem_mem hk)
/-- a look at a right volume's root by the name of an entry -/
theorem look_ent {w : Vo} (h : RightV w) {r : Ino} (hr : r ∈ w.ins) (h1 : r.id = 1) (hk : r.kind = 2) {e : En} (he : e ∈ r.ents) : ∃ t, ∀ u, alikeB e.name u = true → doN w (rootC 8 u) = (w, ⟨0, e.id, e.name, t⟩) := by
  have hd := dir_of h hr hk
  obtain ⟨_, x, hx, hxi⟩ := hd.2.2.2.2 e he
  refine ⟨x.data, fun u hu => ?_⟩
  obtain ⟨j, hj, hje⟩ := at_mem hd.2.2.1.toRightP he hu
  have hn : (nameL u).isSome = true := alike_name (by rw [alike_sym]; exact hu)
  rw [look_is (by rw [← h1]; exact inoV_eq h.rise hr) hk hn hj (by rw [hje, ← hxi]; exact inoV_eq h.rise hx), hje, hxi]
/-- a rename within the root -/
def renC (a b : ByteArray) : Ca := ⟨6, 1, a, 1, b, ⟨#[]⟩⟩
theorem ren_bad {v : Vo} {a b : ByteArray} (hn : (nameL a).isSome = false ∨ (nameL b).isSome = false) : (doN v (renC a b)).2.code ≠ 0 := by
  unfold doN
  split
  · show (1 : Int) ≠ 0; decide
  · split
    · split
      · show (4 : Int) ≠ 0; decide
      · rw [if_pos]
        · show (1 : Int) ≠ 0; decide
        · rcases hn with hn | hn
          · left
            show (nameL a).isNone = true
            cases hx : nameL a with
            | none => rfl
            | some _ => rw [hx] at hn; cases hn
          · right
            refine ⟨rfl, ?_⟩
            show (nameL b).isNone = true
            cases hx : nameL b with
            | none => rfl
            | some _ => rw [hx] at hn; cases hn
    · show (2 : Int) ≠ 0; decide
theorem do_ren {v : Vo} {r : Ino} (hr : inoV v 1 = some r) (hk : r.kind = 2) {a b : ByteArray} (ha : (nameL a).isSome = true) (hb : (nameL b).isSome = true) : doN v (renC a b) = onN v (renC a b) r r := by
  have ht : twoB (renC a b) = true := rfl
  have hs := name_size ha
  have hs' := name_size hb
  have hc : callB (renC a b) = true := by
    unfold callB
    rw [ht]
    unfold renC
    simp only [Bool.and_eq_true, decide_eq_true_eq, Bool.or_eq_true]
    refine ⟨⟨⟨⟨⟨⟨⟨⟨by omega, by omega⟩, by decide, by decide⟩, by decide, by decide⟩, hs⟩, hs'⟩, by decide⟩, .inl trivial⟩, .inr rfl⟩
  unfold doN
  rw [if_neg (by rw [hc]; exact Bool.noConfusion), ht]
  have e1 : (renC a b).dir = 1 := rfl
  have e2 : (renC a b).name = a := rfl
  have e3 : (renC a b).kind = 6 := rfl
  have e4 : (renC a b).to_ = 1 := rfl
  have e5 : (renC a b).as_ = b := rfl
  simp only [if_true, e1, e4, hr, e2, e3, e5]
  rw [if_neg (by simp [hk]), if_neg, if_neg (by omega)]
  cases hx : nameL a with
  | none => rw [hx] at ha; cases ha
  | some _ => cases hy : nameL b with
    | none => rw [hy] at hb; cases hb
    | some _ => simp

/-- renamed within the root: the same file; to a spelling of itself, in its place; else gone under the first name -/
theorem spelled_is {v : Vo} (h : RightV v) {a b : ByteArray} (ho : (doN v (renC a b)).2.code = 0) :
    (doN v (rootC 8 a)).2.code = 0 ∧
    (doN (doN v (renC a b)).1 (rootC 8 b)).2.id = (doN v (rootC 8 a)).2.id ∧
    (alikeB a b = true → (doN (doN v (renC a b)).1 (rootC 8 b)).2.name = b ∧ (doN (doN v (renC a b)).1 (rootC 8 a)).2 = (doN (doN v (renC a b)).1 (rootC 8 b)).2 ∧ (doN v (renC a b)).1.ins.length = v.ins.length) ∧
    (alikeB a b = false → (doN (doN v (renC a b)).1 (rootC 8 a)).2.code = 2 ∨ (doN v (renC a b)).1 = v) := by
  have hna : (nameL a).isSome = true := by
    cases hx : (nameL a).isSome with
    | true => rfl
    | false => exact absurd ho (ren_bad (.inl hx))
  have hnb : (nameL b).isSome = true := by
    cases hx : (nameL b).isSome with
    | true => rfl
    | false => exact absurd ho (ren_bad (.inr hx))
  have haa : alikeB a a = true := by rw [alike_self]; exact hna
  have hbb : alikeB b b = true := by rw [alike_self]; exact hnb
  obtain ⟨r, hr, hr1, hrk, hri⟩ := root_of h
  have hdr := dir_of h hr hrk
  have hR := do_right h (renC a b)
  rw [do_ren hri hrk hna hnb] at ho hR ⊢
  unfold onN at ho hR ⊢
  have e2 : (renC a b).name = a := rfl
  have e3 : (renC a b).kind = 6 := rfl
  have e5 : (renC a b).as_ = b := rfl
  rw [e2, e3] at ho hR ⊢
  cases hi : atN r.ents a with
  | none => rw [hi] at ho; exact absurd (show (2 : Int) = 0 from ho) (by decide)
  | some i =>
  obtain ⟨hil, hial⟩ := atN_is hi
  have ei : r.ents[i]! = r.ents[i] := getElem!_pos r.ents i hil
  have hmem : r.ents[i] ∈ r.ents := List.getElem_mem hil
  obtain ⟨hx1, x, hx, hxi⟩ := hdr.2.2.2.2 _ hmem
  have hix : inoV v r.ents[i]!.id = some x := by rw [ei, ← hxi]; exact inoV_eq h.rise hx
  have hidx : idB x.id = true := by rw [hxi]; exact idB_iff.2 (entB_iff.1 (hdr.2.2.1.each _ hmem)).2.2.2
  have hwas : doN v (rootC 8 a) = (v, ⟨0, x.id, r.ents[i]!.name, x.data⟩) := look_is hri hrk hna hi hix
  rw [hi] at ho hR
  dsimp only at ho hR ⊢
  rw [hix] at ho hR ⊢
  dsimp only at ho hR ⊢
  rw [if_neg (by omega), if_neg (by omega), if_pos rfl] at ho hR ⊢
  rw [hwas]
  refine ⟨rfl, ?_⟩
  show (doN (renameN v (renC a b) r r x i).1 (rootC 8 b)).2.id = x.id ∧ _
  unfold renameN at ho hR ⊢
  by_cases hl : x.kind = 2 ∧ (r.id = x.id ∨ Reach v x.id r.id)
  · rw [if_pos hl] at ho; exact absurd (show (8 : Int) = 0 from ho) (by decide)
  rw [if_neg hl, e2, e5] at ho hR ⊢
  cases hk : atN r.ents b with
  | some k =>
    obtain ⟨hkl, hka⟩ := atN_is hk
    have ek : r.ents[k]! = r.ents[k] := getElem!_pos r.ents k hkl
    rw [hk] at ho hR
    dsimp only at ho hR ⊢
    have hki : alikeB a b = true → k = i := fun hab => by
      rw [at_alike hab, hi] at hk; exact (Option.some.inj hk).symm
    by_cases hs : r.ents[k]!.id = x.id
    · rw [if_pos hs] at ho hR ⊢
      by_cases hab : alikeB a b = true
      · rw [if_pos ⟨rfl, hab⟩] at hR ⊢
        dsimp only at hR ⊢
        obtain ⟨d, hd⟩ : ∃ d, d = r.ents.set k (respE r.ents[k]! b x.id) := ⟨_, rfl⟩
        rw [← hd] at hR ⊢
        have hin : setE d r ∈ (updV v r.id (setE d)).ins := mem_upd.2 ⟨r, hr, if_pos rfl⟩
        have he : respE r.ents[k]! b x.id ∈ d := by rw [hd]; exact List.mem_set hkl _
        obtain ⟨t, ht⟩ := look_ent hR hin hr1 hrk (e := respE r.ents[k]! b x.id) he
        have L := ht b hbb
        have M := ht a (by rw [alike_sym]; exact hab)
        rw [L, M]
        refine ⟨rfl, fun _ => ⟨rfl, rfl, by unfold updV; exact List.length_map _⟩, fun hf => ?_⟩
        rw [hab] at hf; cases hf
      · rw [if_neg (fun hc => hab hc.2)] at ho hR ⊢
        dsimp only
        refine ⟨?_, fun hc => absurd hc hab, fun _ => .inr rfl⟩
        obtain ⟨t, ht⟩ := look_ent h hr hr1 hrk (e := r.ents[k]) (List.getElem_mem hkl)
        rw [ht b hka, ← hs, ek]
    · rw [if_neg hs] at ho hR ⊢
      have hab : alikeB a b = false := by
        cases hc : alikeB a b with
        | false => rfl
        | true =>
          have := hki hc
          subst this
          exact absurd (by rw [ek, hxi]) hs
      obtain ⟨ho1, o, hov, hoi⟩ := hdr.2.2.2.2 _ (List.getElem_mem hkl)
      have hio : inoV v r.ents[k]!.id = some o := by rw [ek, ← hoi]; exact inoV_eq h.rise hov
      rw [hio] at ho hR ⊢
      dsimp only at ho hR ⊢
      by_cases c1 : x.kind = 2 ∧ o.kind ≠ 2
      · rw [if_pos c1] at ho; exact absurd (show (4 : Int) = 0 from ho) (by decide)
      rw [if_neg c1] at ho hR ⊢
      by_cases c2 : x.kind = 2 ∧ o.ents ≠ []
      · rw [if_pos c2] at ho; exact absurd (show (6 : Int) = 0 from ho) (by decide)
      rw [if_neg c2] at ho hR ⊢
      by_cases c3 : x.kind ≠ 2 ∧ o.kind = 2
      · rw [if_pos c3] at ho; exact absurd (show (5 : Int) = 0 from ho) (by decide)
      rw [if_neg c3] at hR ⊢
      dsimp only at hR ⊢
      obtain ⟨d, hd⟩ : ∃ d, d = r.ents.set k (respE r.ents[k]! b x.id) := ⟨_, rfl⟩
      have hef : entsIf r r d = d := by unfold entsIf; rw [if_pos rfl]
      have hik : k ≠ i := fun hc => by subst hc; exact hs (by rw [ek, hxi])
      have hdR : Right d := by rw [hd]; exact right_set hdr.2.2.1 hkl hka hidx
      rw [← hd, hef] at hR ⊢
      have hor : r.id ≠ o.id := by rw [hr1, hoi]; exact Ne.symm ho1
      have hin : setE (d.eraseIdx i) r ∈ (lessV (updV (updV v r.id (setE d)) r.id (setE (d.eraseIdx i))) o).ins := by
        have h1 : setE (d.eraseIdx i) r ∈ (updV (updV v r.id (setE d)) r.id (setE (d.eraseIdx i))).ins :=
          mem_upd.2 ⟨setE d r, mem_upd.2 ⟨r, hr, if_pos rfl⟩, if_pos rfl⟩
        unfold lessV
        split
        · exact mem_gone.2 ⟨h1, hor⟩
        · exact mem_upd.2 ⟨_, h1, if_neg hor⟩
      have he : respE r.ents[k]! b x.id ∈ d.eraseIdx i := by
        refine List.mem_eraseIdx_iff_getElem.2 ⟨k, by rw [hd, List.length_set]; exact hkl, hik, ?_⟩
        simp only [hd, List.getElem_set_self]
      obtain ⟨t, ht⟩ := look_ent hR hin hr1 hrk (e := respE r.ents[k]! b x.id) he
      refine ⟨by rw [ht b hbb]; rfl, fun hc => (by rw [hab] at hc; cases hc), fun _ => .inl ?_⟩
      have hno : atN (d.eraseIdx i) a = none := at_none fun e he => by
        obtain ⟨j, hj, hne, rfl⟩ := List.mem_eraseIdx_iff_getElem.1 he
        have hj' : j < r.ents.length := by rw [hd, List.length_set] at hj; exact hj
        by_cases hjk : j = k
        · subst hjk
          have : d[j] = respE r.ents[j]! b x.id := by simp only [hd, List.getElem_set_self]
          rw [this]
          show alikeB b a = false
          rw [alike_sym]; exact hab
        · have : d[j] = r.ents[j] := by simp only [hd]; exact List.getElem_set_ne (Ne.symm hjk) _
          rw [this]
          exact erase_no hdr.2.2.1.toRightP hi _ (List.mem_eraseIdx_iff_getElem.2 ⟨j, hj', hne, rfl⟩)
      rw [look_no (r := setE (d.eraseIdx i) r) (by rw [← hr1]; exact inoV_eq hR.rise hin) hrk hna hno]; rfl
  | none =>
    have hab : alikeB a b = false := by
      cases hc : alikeB a b with
      | false => rfl
      | true => rw [at_alike hc, hi] at hk; cases hk
    rw [hk] at ho hR
    dsimp only at ho hR ⊢
    rw [if_neg (by simp)] at hR ⊢
    dsimp only at hR ⊢
    obtain ⟨e, hee⟩ : ∃ e, e = r.ents.eraseIdx i := ⟨_, rfl⟩
    have hef : entsIf r r e = e := by unfold entsIf; rw [if_pos rfl]
    rw [← hee, hef] at hR ⊢
    obtain ⟨d, hd⟩ : ∃ d, d = insN e (newE e b x.id) := ⟨_, rfl⟩
    rw [← hd] at hR ⊢
    have hin : setE d r ∈ (updV (updV v r.id (setE e)) r.id (setE d)).ins :=
      mem_upd.2 ⟨setE e r, mem_upd.2 ⟨r, hr, if_pos rfl⟩, if_pos rfl⟩
    have he : newE e b x.id ∈ d := by rw [hd]; exact mem_ins.2 (.inl rfl)
    obtain ⟨t, ht⟩ := look_ent hR hin hr1 hrk (e := newE e b x.id) he
    refine ⟨by rw [ht b hbb]; rfl, fun hc => (by rw [hab] at hc; cases hc), fun _ => .inl ?_⟩
    have hno : atN d a = none := at_none fun y hy => by
      rw [hd] at hy
      rcases mem_ins.1 hy with rfl | hy
      · show alikeB b a = false
        rw [alike_sym]; exact hab
      · rw [hee] at hy; exact erase_no hdr.2.2.1.toRightP hi _ hy
    rw [look_no (r := setE d r) (by rw [← hr1]; exact inoV_eq hR.rise hin) hrk hna hno]; rfl
end

section
theorem rise_steps {l : List Ino} (h : ∀ j, 0 < j → j < l.length → l[j - 1]!.id < l[j]!.id) : l.Pairwise fun a b => a.id < b.id := by
  rw [List.pairwise_iff_getElem]
  have key : ∀ n j, j + n + 1 < l.length → l[j]!.id < l[j + n + 1]!.id := by
    intro n
    induction n with
    | zero => intro j hj; have := h (j + 1) (by omega) (by omega); simpa using this
    | succ n ih =>
      intro j hj
      have h1 := ih j (by omega)
      have h2 := h (j + n + 2) (by omega) (by omega)
      have e : j + n + 2 - 1 = j + n + 1 := by omega
      rw [e] at h2
      have e2 : j + (n + 1) + 1 = j + n + 2 := by omega
      rw [e2]; omega
  intro i j hi hj hij
  have := key (j - i - 1) i (by omega)
  have e : i + (j - i - 1) + 1 = j := by omega
  rw [e, getElem!_pos l i hi, getElem!_pos l j hj] at this
  exact this
/-- right, place by place, as it is asked -/
theorem rightV_iff {v : Vo} : RightV v ↔ (2 ≤ v.next ∧ v.next ≤ 100000) ∧ (1 ≤ v.ins.length ∧ v.ins.length ≤ 16) ∧ v.ins[0]!.id = 1 ∧ v.ins[0]!.kind = 2 ∧
    (∀ j, j < v.ins.length → (1 ≤ v.ins[j]!.id ∧ v.ins[j]!.id ≤ v.next - 1) ∧ (0 < j → v.ins[j - 1]!.id < v.ins[j]!.id) ∧ InoR v v.ins[j]!) ∧
    (∀ j, 0 < j → j < v.ins.length → Reach v 1 v.ins[j]!.id) := by
  constructor
  · intro h
    obtain ⟨r, l, h1, h2, h3⟩ := h.root
    have hl : 0 < v.ins.length := by rw [h1]; simp
    have e0 : v.ins[0]! = r := by rw [h1]; rfl
    refine ⟨h.next, ⟨hl, h.len⟩, by rw [e0, h2], by rw [e0, h3], fun j hj => ⟨?_, fun h0 => ?_, h.each _ (place_mem hj)⟩, fun j h0 hj => ?_⟩
    · have := h.ids _ (place_mem hj); omega
    · rw [getElem!_pos v.ins (j - 1) (by omega), getElem!_pos v.ins j hj]
      exact List.pairwise_iff_getElem.1 h.rise (j - 1) j (by omega) hj (by omega)
    · rcases h.below _ (place_mem hj) with h4 | h4
      · have := rise_at h.rise hj hl (by rw [h4, e0, h2]); omega
      · exact h4
  · rintro ⟨h1, h2, h3, h4, h5, h6⟩
    refine ⟨h1, h2.2, ?_, fun x hx => ?_, rise_steps fun j h0 hj => (h5 j hj).2.1 h0, fun x hx => ?_, fun x hx => ?_⟩
    · cases hv : v.ins with
      | nil => rw [hv] at h2; simp at h2
      | cons r l =>
        rw [hv] at h3 h4
        exact ⟨r, l, rfl, h3, h4⟩
    · obtain ⟨j, hj, rfl⟩ := mem_place hx
      have := (h5 j hj).1; omega
    · obtain ⟨j, hj, rfl⟩ := mem_place hx
      exact (h5 j hj).2.2
    · obtain ⟨j, hj, rfl⟩ := mem_place hx
      by_cases h0 : j = 0
      · left; rw [h0]; exact h3
      · exact .inr (h6 j (by omega) hj)
/-- a right file, a right directory -/
theorem inoR_file {v : Vo} {x : Ino} (hk : x.kind = 1) : InoR v x ↔ x.ents.length = 0 ∧ x.data.size ≤ 20 ∧ x.links = namedV v x.id := by
  constructor
  · rintro (⟨_, h2, h3, h4⟩ | ⟨h1, _⟩)
    · exact ⟨by rw [h2]; rfl, h3, h4⟩
    · omega
  · rintro ⟨h2, h3, h4⟩
    exact .inl ⟨hk, List.length_eq_zero_iff.1 h2, h3, h4⟩
theorem inoR_dir {v : Vo} {x : Ino} (hk : x.kind = 2) : InoR v x ↔ x.data.size = 0 ∧ x.links = 1 ∧ dirB x.ents = true ∧ (x.id = 1 ∨ namedV v x.id = 1) ∧ ∀ e ∈ x.ents, e.id ≠ 1 ∧ (inoV v e.id).isSome = true := by
  have hs : ∀ id, (inoV v id).isSome = true ↔ ∃ y ∈ v.ins, y.id = id := fun id => by
    unfold inoV; rw [List.find?_isSome]; simp
  constructor
  · rintro (⟨h1, _⟩ | ⟨_, h2, h3, h4, h5, h6⟩)
    · omega
    · exact ⟨h2, h3, dirB_iff.2 h4, h5, fun e he => ⟨(h6 e he).1, (hs _).2 (h6 e he).2⟩⟩
  · rintro ⟨h2, h3, h4, h5, h6⟩
    exact .inr ⟨hk, h2, h3, dirB_iff.1 h4, h5, fun e he => ⟨(h6 e he).1, (hs _).1 (h6 e he).2⟩⟩
theorem inoR_none {v : Vo} {x : Ino} (h1 : x.kind ≠ 1) (h2 : x.kind ≠ 2) : ¬ InoR v x := by
  rintro (⟨h, _⟩ | ⟨h, _⟩)
  · exact h1 h
  · exact h2 h
/-- a new volume -/
def newV : Vo := ⟨2, [⟨1, 2, 1, ⟨#[]⟩, []⟩]⟩
theorem newV_right : RightV newV := by
  refine ⟨by decide, by decide, ⟨_, _, rfl, rfl, rfl⟩, ?_, List.pairwise_singleton _ _, ?_, ?_⟩
  · intro x hx
    rw [List.mem_singleton.1 hx]; decide
  · intro x hx
    rw [List.mem_singleton.1 hx]
    exact .inr ⟨rfl, rfl, rfl, Right.nil, .inl rfl, by simp⟩
  · intro x hx
    rw [List.mem_singleton.1 hx]; exact .inl rfl
end

end Go.Proofs.YtchcdgkpaipkgaaGreatDoor
