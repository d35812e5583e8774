/- Sorting that leaves what is alike in its order: what it comes to. No word of the program. -/
import Derived.Sort.Lot0
import Derived.Sort.LotA
import Derived.Sort.WalkA
namespace Go.Proofs.YtlkemmdcjnaepaaDoor

section
open Go.Sort

section
variable {α : Type} (key : α → Int)

def keyLt (x y : α) : Bool := decide (key x - key y < 0)

theorem keyLt_swo : SWO (keyLt key) := {
  irrefl := fun x => by simp [keyLt]
  trans := fun x y z h1 h2 => by simp [keyLt] at *; omega
  ntrans := fun x y z h1 h2 => by simp [keyLt] at *; omega }

def Same (d e : Array α) : Prop := ∀ k : Int, e.toList.filter (fun x => key x == k) = d.toList.filter (fun x => key x == k)
theorem Same.refl (d : Array α) : Same key d d := fun _ => rfl
theorem Same.trans {d e f : Array α} (h1 : Same key d e) (h2 : Same key e f) : Same key d f := fun k => (h2 k).trans (h1 k)

/-- one order alone -/
def SrtL (l : List α) : Prop := l.Pairwise (fun x y => key x ≤ key y)
theorem srtL_same : ∀ (l m : List α), SrtL key l → SrtL key m → (∀ k : Int, l.filter (fun x => key x == k) = m.filter (fun x => key x == k)) → l = m
  | [], [], _, _, _ => rfl
  | [], y :: m, _, _, h => by
    have := h (key y)
    simp at this
  | x :: l, [], _, _, h => by
    have := h (key x)
    simp at this
  | x :: l, y :: m, hl, hm, h => by
    have hl' := List.pairwise_cons.1 hl
    have hm' := List.pairwise_cons.1 hm
    have h1 : key y ≤ key x := by
      have hx : x ∈ (y :: m).filter (fun z => key z == key x) := by rw [← h (key x)]; simp
      rcases List.mem_cons.1 (List.mem_filter.1 hx).1 with e | e
      · rw [e]; exact Int.le_refl _
      · exact hm'.1 x e
    have h2 : key x ≤ key y := by
      have hy : y ∈ (x :: l).filter (fun z => key z == key y) := by rw [h (key y)]; simp
      rcases List.mem_cons.1 (List.mem_filter.1 hy).1 with e | e
      · rw [e]; exact Int.le_refl _
      · exact hl'.1 y e
    have hk : key x = key y := Int.le_antisymm h2 h1
    have hh := h (key x)
    rw [List.filter_cons_of_pos (by simp), List.filter_cons_of_pos (by simp [hk])] at hh
    obtain ⟨hxy, _⟩ := List.cons.inj hh
    subst hxy
    refine congrArg _ (srtL_same l m hl'.2 hm'.2 fun k => ?_)
    have hq := h k
    by_cases hc : key x = k
    · rw [List.filter_cons_of_pos (by simpa using hc), List.filter_cons_of_pos (by simpa using hc)] at hq
      exact (List.cons.inj hq).2
    · rw [List.filter_cons_of_neg (by simpa using hc), List.filter_cons_of_neg (by simpa using hc)] at hq
      exact hq
variable [Inhabited α]

def seg (d : Array α) : Nat → Nat → List α
  | _, 0 => []
  | s, n + 1 => d[s]! :: seg d (s + 1) n
theorem seg_add (d : Array α) : ∀ n s m, seg d s (n + m) = seg d s n ++ seg d (s + n) m
  | 0, s, m => by simp [seg]
  | n + 1, s, m => by
    rw [show n + 1 + m = (n + m) + 1 by omega]
    show d[s]! :: seg d (s + 1) (n + m) = d[s]! :: (seg d (s + 1) n ++ seg d (s + (n + 1)) m)
    rw [seg_add d n (s + 1) m, show s + 1 + n = s + (n + 1) by omega]
theorem seg_eq (d e : Array α) : ∀ n s t, (∀ i, i < n → d[s + i]! = e[t + i]!) → seg d s n = seg e t n
  | 0, s, t, _ => rfl
  | n + 1, s, t, h => by
    show d[s]! :: seg d (s + 1) n = e[t]! :: seg e (t + 1) n
    rw [show d[s]! = e[t]! from h 0 (by omega), seg_eq d e n (s + 1) (t + 1) (fun i hi => by
      have := h (i + 1) (by omega)
      rwa [show s + (i + 1) = s + 1 + i by omega, show t + (i + 1) = t + 1 + i by omega] at this)]
theorem seg_mem (d : Array α) (x : α) : ∀ n s, x ∈ seg d s n → ∃ i, i < n ∧ x = d[s + i]!
  | 0, s, h => by cases h
  | n + 1, s, h => by
    rcases List.mem_cons.1 h with h | h
    · exact ⟨0, by omega, h⟩
    · obtain ⟨i, hi, e⟩ := seg_mem d x n (s + 1) h
      exact ⟨i + 1, by omega, by rw [e, show s + 1 + i = s + (i + 1) by omega]⟩
theorem seg_len (d : Array α) : ∀ n s, (seg d s n).length = n
  | 0, s => rfl
  | n + 1, s => by show (seg d (s + 1) n).length + 1 = n + 1; rw [seg_len d n]
theorem seg_get (d : Array α) : ∀ n s i, i < n → (seg d s n)[i]? = some d[s + i]!
  | 0, s, i, h => by omega
  | n + 1, s, 0, h => rfl
  | n + 1, s, i + 1, h => by
    show (seg d (s + 1) n)[i]? = _
    rw [seg_get d n (s + 1) i (by omega), show s + 1 + i = s + (i + 1) by omega]
theorem seg_all (d : Array α) : seg d 0 d.size = d.toList := by
  apply List.ext_getElem?
  intro i
  by_cases h : i < d.size
  · rw [seg_get d _ _ i h, Nat.zero_add]
    simp [h]
  · rw [List.getElem?_eq_none (by rw [seg_len]; omega), List.getElem?_eq_none (by simp; omega)]

/-- where what stands at t comes from, when [m, b) goes ahead of [a, m) -/
def rotI (a m b t : Nat) : Nat := if t < a then t else if t < a + (b - m) then t + (m - a) else if t < b then t - (b - m) else t
def Rot (a m b : Nat) (d e : Array α) : Prop := e.size = d.size ∧ ∀ t, e[t]! = d[rotI a m b t]!

theorem Rot.lo {a m b : Nat} {d e : Array α} (h : Rot a m b d e) {t : Nat} (ht : t < a) : e[t]! = d[t]! := by
  rw [h.2 t]; unfold rotI; rw [if_pos ht]
theorem Rot.y {a m b : Nat} {d e : Array α} (h : Rot a m b d e) {t : Nat} (h1 : a ≤ t) (h2 : t < a + (b - m)) : e[t]! = d[t + (m - a)]! := by
  rw [h.2 t]; unfold rotI; rw [if_neg (by omega), if_pos h2]
theorem Rot.x {a m b : Nat} {d e : Array α} (h : Rot a m b d e) {t : Nat} (h0 : a ≤ t) (h1 : a + (b - m) ≤ t) (h2 : t < b) : e[t]! = d[t - (b - m)]! := by
  rw [h.2 t]; unfold rotI; rw [if_neg (by omega), if_neg (by omega), if_pos h2]
theorem Rot.hi {a m b : Nat} {d e : Array α} (h : Rot a m b d e) (hm : a ≤ m) (hb : m ≤ b) {t : Nat} (ht : b ≤ t) : e[t]! = d[t]! := by
  rw [h.2 t]; unfold rotI; rw [if_neg (by omega), if_neg (by omega), if_neg (by omega)]
theorem Rot.none_l (m b : Nat) (d : Array α) : Rot m m b d d := ⟨rfl, fun t => by unfold rotI; congr 1; split; rfl; split; omega; split; omega; rfl⟩
theorem Rot.none_r (a m : Nat) (d : Array α) : Rot a m m d d := ⟨rfl, fun t => by unfold rotI; congr 1; split; rfl; split; omega; split; omega; rfl⟩

theorem rot_same {a m b : Nat} {d e : Array α} (ham : a ≤ m) (hmb : m ≤ b) (hb : b ≤ d.size) (h : Rot a m b d e)
    (hne : ∀ i j, a ≤ i → i < m → m ≤ j → j < b → key d[i]! ≠ key d[j]!) : Same key d e := by
  intro k
  have ed : d.toList = seg d 0 a ++ (seg d a (m - a) ++ (seg d m (b - m) ++ seg d b (d.size - b))) := by
    rw [← seg_all d]
    conv => lhs; rw [show d.size = a + ((m - a) + ((b - m) + (d.size - b))) by omega]
    rw [seg_add, seg_add, seg_add, show 0 + a = a by omega, show a + (m - a) = m by omega, show m + (b - m) = b by omega]
  have ee : e.toList = seg d 0 a ++ (seg d m (b - m) ++ (seg d a (m - a) ++ seg d b (d.size - b))) := by
    rw [← seg_all e, h.1]
    conv => lhs; rw [show d.size = a + ((b - m) + ((m - a) + (d.size - b))) by omega]
    rw [seg_add, seg_add, seg_add, show 0 + a = a by omega, show a + (b - m) + (m - a) = b by omega]
    congr 1
    · exact seg_eq _ _ _ _ _ fun i hi => h.lo (by omega)
    congr 1
    · exact seg_eq _ _ _ _ _ fun i hi => by
        rw [h.y (by omega) (by omega)]; congr 1; omega
    congr 1
    · exact seg_eq _ _ _ _ _ fun i hi => by
        rw [h.x (by omega) (by omega) (by omega)]; congr 1; omega
    · exact seg_eq _ _ _ _ _ fun i hi => h.hi ham hmb (by omega)
  rw [ed, ee]
  simp only [List.filter_append]
  congr 1
  rw [← List.append_assoc, ← List.append_assoc]
  congr 1
  by_cases hx : (seg d a (m - a)).filter (fun x => key x == k) = []
  · rw [hx]; simp
  · obtain ⟨x, hxm⟩ := List.exists_mem_of_ne_nil _ hx
    obtain ⟨hx1, hx2⟩ := List.mem_filter.1 hxm
    obtain ⟨i, hi, ei⟩ := seg_mem d x _ _ hx1
    have hy : (seg d m (b - m)).filter (fun x => key x == k) = [] := by
      apply List.filter_eq_nil_iff.2
      intro y hy hk
      obtain ⟨j, hj, ej⟩ := seg_mem d y _ _ hy
      refine hne (a + i) (m + j) (by omega) (by omega) (by omega) (by omega) ?_
      rw [← ei, ← ej]
      have h1 : key x = k := by simpa using hx2
      have h2 : key y = k := by simpa using hk
      rw [h1, h2]
    rw [hy]; simp

/-- two rows of n change places -/
def swpI (a b n t : Nat) : Nat := if a ≤ t ∧ t < a + n then t + (b - a) else if b ≤ t ∧ t < b + n then t - (b - a) else t
def Swr (a b n : Nat) (d e : Array α) : Prop := e.size = d.size ∧ ∀ t, e[t]! = d[swpI a b n t]!
theorem Swr.zero (a b : Nat) (d : Array α) : Swr a b 0 d d := ⟨rfl, fun t => by unfold swpI; rw [if_neg (by omega), if_neg (by omega)]⟩
theorem Swr.step {a b n : Nat} {d e : Array α} (h : Swr a b n d e) (hab : a + n < b) (hb : b + n < d.size) : Swr a b (n + 1) d (swp e (a + n) (b + n)) := by
  refine ⟨by rw [swp_size, h.1], fun t => ?_⟩
  rw [swp_get e (by rw [h.1]; omega) (by rw [h.1]; omega)]
  by_cases h1 : t = b + n
  · subst h1
    rw [if_pos rfl, h.2]
    unfold swpI
    rw [if_neg (by omega), if_neg (by omega), if_neg (by omega), if_pos (by omega)]
    congr 1; omega
  · rw [if_neg h1]
    by_cases h2 : t = a + n
    · subst h2
      rw [if_pos rfl, h.2]
      unfold swpI
      rw [if_neg (by omega), if_neg (by omega), if_pos (by omega)]
      congr 1; omega
    · rw [if_neg h2, h.2]
      unfold swpI
      congr 1
      split
      · rw [if_pos (by omega)]
      · split
        · rw [if_neg (by omega), if_pos (by omega)]
        · rw [if_neg (by omega), if_neg (by omega)]

/-- what is still to be turned: [m - i, m) and [m, m + j) of e -/
def RotTo (a m b : Nat) (d : Array α) (i j : Nat) (e : Array α) : Prop := e.size = d.size ∧ ∀ t, d[rotI a m b t]! = e[rotI (m - i) m (m + j) t]!
theorem RotTo.start {a m b : Nat} (d : Array α) (ham : a ≤ m) (hmb : m ≤ b) : RotTo a m b d (m - a) (b - m) d :=
  ⟨rfl, fun t => by rw [show m - (m - a) = a by omega, show m + (b - m) = b by omega]⟩
theorem RotTo.left {a m b i j : Nat} {d e f : Array α} (h : RotTo a m b d i j e) (hi : i ≤ m) (hij : j < i) (hj : 0 < j) (hs : Swr (m - i) m j e f) : RotTo a m b d (i - j) j f := by
  refine ⟨by rw [hs.1, h.1], fun t => ?_⟩
  rw [h.2, hs.2]
  congr 1
  unfold rotI swpI
  repeat' split
  all_goals omega
theorem RotTo.right {a m b i j : Nat} {d e f : Array α} (h : RotTo a m b d i j e) (hi : i ≤ m) (hij : i < j) (hj : 0 < i) (hs : Swr (m - i) (m + j - i) i e f) : RotTo a m b d i (j - i) f := by
  refine ⟨by rw [hs.1, h.1], fun t => ?_⟩
  rw [h.2, hs.2]
  congr 1
  unfold rotI swpI
  repeat' split
  all_goals omega
theorem RotTo.last {a m b i : Nat} {d e f : Array α} (h : RotTo a m b d i i e) (hi : i ≤ m) (hs : Swr (m - i) m i e f) : Rot a m b d f := by
  refine ⟨by rw [hs.1, h.1], fun t => ?_⟩
  rw [h.2, hs.2]
  congr 1
  unfold rotI swpI
  repeat' split
  all_goals omega

/-- the first one goes behind the next ones, step by step -/
theorem Rot.fwd {a k : Nat} {d e : Array α} (h : Rot a (a + 1) (k + 1) d e) (hak : a ≤ k) (hk : k + 1 < d.size) : Rot a (a + 1) (k + 1 + 1) d (swp e k (k + 1)) := by
  refine ⟨by rw [swp_size, h.1], fun t => ?_⟩
  rw [swp_get e (by rw [h.1]; omega) (by rw [h.1]; omega)]
  by_cases h1 : t = k + 1
  · subst h1
    rw [if_pos rfl, h.2]
    congr 1; unfold rotI
    repeat' split
    all_goals omega
  · rw [if_neg h1]
    by_cases h2 : t = k
    · subst h2
      rw [if_pos rfl, h.2]
      congr 1; unfold rotI
      repeat' split
      all_goals omega
    · rw [if_neg h2, h.2]
      congr 1; unfold rotI
      repeat' split
      all_goals omega
theorem Rot.bwd {k m : Nat} {d e : Array α} (h : Rot (k + 1) m (m + 1) d e) (hk : k + 1 ≤ m) (hm : m < d.size) : Rot k m (m + 1) d (swp e (k + 1) k) := by
  refine ⟨by rw [swp_size, h.1], fun t => ?_⟩
  rw [swp_get e (by rw [h.1]; omega) (by rw [h.1]; omega)]
  by_cases h1 : t = k
  · subst h1
    rw [if_pos rfl, h.2]
    congr 1; unfold rotI
    repeat' split
    all_goals omega
  · rw [if_neg h1]
    by_cases h2 : t = k + 1
    · subst h2
      rw [if_pos rfl, h.2]
      congr 1; unfold rotI
      repeat' split
      all_goals omega
    · rw [if_neg h2, h.2]
      congr 1; unfold rotI
      repeat' split
      all_goals omega

def Srtd (a b : Nat) (d : Array α) : Prop := ∀ i j, a ≤ i → i < j → j < b → key d[i]! ≤ key d[j]!
theorem Srtd.le {a b : Nat} {d : Array α} (h : Srtd key a b d) {i j : Nat} (h1 : a ≤ i) (h2 : i ≤ j) (h3 : j < b) : key d[i]! ≤ key d[j]! := by
  rcases Nat.lt_or_ge i j with h4 | h4
  · exact h i j h1 h4 h3
  · obtain rfl : i = j := by omega
    exact Int.le_refl _
theorem Srtd.congr {a b : Nat} {d e : Array α} (h : Srtd key a b d) (he : ∀ t, a ≤ t → t < b → e[t]! = d[t]!) : Srtd key a b e := fun i j h1 h2 h3 => by
  rw [he i h1 (by omega), he j (by omega) h3]; exact h i j h1 h2 h3

/-- [a, b) put in order, all else as it was -/
structure Merged (a b : Nat) (d e : Array α) : Prop where
  size : e.size = d.size
  out : ∀ t, t < a ∨ b ≤ t → e[t]! = d[t]!
  mem : ∀ t, a ≤ t → t < b → ∃ s, a ≤ s ∧ s < b ∧ e[t]! = d[s]!
  srt : Srtd key a b e
  same : Same key d e
theorem Merged.refl {a b : Nat} {d : Array α} (h : Srtd key a b d) : Merged key a b d d := ⟨rfl, fun _ _ => rfl, fun t h1 h2 => ⟨t, h1, h2, rfl⟩, h, Same.refl key d⟩

theorem Rot.mem {a m b : Nat} {d e : Array α} (h : Rot a m b d e) (ham : a ≤ m) (hmb : m ≤ b) {t : Nat} (h1 : a ≤ t) (h2 : t < b) : ∃ s, a ≤ s ∧ s < b ∧ e[t]! = d[s]! := by
  by_cases h3 : t < a + (b - m)
  · exact ⟨_, by omega, by omega, h.y h1 h3⟩
  · exact ⟨_, by omega, by omega, h.x h1 (by omega) h2⟩

theorem merged_first {a b i : Nat} {d e : Array α} (hb : b ≤ d.size) (hs : Srtd key (a + 1) b d) (hi : a + 1 ≤ i) (hib : i ≤ b)
    (hlo : ∀ t, a + 1 ≤ t → t < i → key d[t]! < key d[a]!) (hhi : ∀ t, i ≤ t → t < b → key d[a]! ≤ key d[t]!) (h : Rot a (a + 1) i d e) : Merged key a b d e := {
  size := h.1
  out := fun t ht => by
    rcases ht with ht | ht
    · exact h.lo ht
    · exact h.hi (by omega) hi (by omega)
  mem := fun t h1 h2 => by
    by_cases h3 : t < i
    · obtain ⟨s, q1, q2, q3⟩ := h.mem (by omega) hi h1 h3
      exact ⟨s, q1, by omega, q3⟩
    · exact ⟨t, h1, h2, h.hi (by omega) hi (by omega)⟩
  srt := fun p q h1 h2 h3 => by
    have ex : e[i - 1]! = d[a]! := by rw [h.x (by omega) (by omega) (by omega)]; congr 1; omega
    have ey : ∀ t, a ≤ t → t < i - 1 → e[t]! = d[t + 1]! := fun t q1 q2 => by rw [h.y q1 (by omega)]; congr 1; omega
    have eh : ∀ t, i ≤ t → e[t]! = d[t]! := fun t q1 => h.hi (by omega) hi q1
    by_cases p1 : p < i - 1
    · rw [ey p h1 p1]
      by_cases q1 : q < i - 1
      · rw [ey q (by omega) q1]; exact hs _ _ (by omega) (by omega) (by omega)
      · by_cases q2 : q = i - 1
        · rw [q2, ex]; exact Int.le_of_lt (hlo _ (by omega) (by omega))
        · rw [eh q (by omega)]; exact hs _ _ (by omega) (by omega) h3
    · by_cases p2 : p = i - 1
      · rw [p2, ex, eh q (by omega)]; exact hhi _ (by omega) h3
      · rw [eh p (by omega), eh q (by omega)]; exact hs _ _ (by omega) h2 h3
  same := rot_same key (by omega) hi (by omega) h fun p q h1 h2 h3 h4 => by
    obtain rfl : p = a := by omega
    have := hlo q h3 h4
    omega }

theorem merged_last {a m i : Nat} {d e : Array α} (hb : m < d.size) (hs : Srtd key a m d) (hi : a ≤ i) (him : i ≤ m)
    (hlo : ∀ t, a ≤ t → t < i → key d[t]! ≤ key d[m]!) (hhi : ∀ t, i ≤ t → t < m → key d[m]! < key d[t]!) (h : Rot i m (m + 1) d e) : Merged key a (m + 1) d e := {
  size := h.1
  out := fun t ht => by
    rcases ht with ht | ht
    · exact h.lo (by omega)
    · exact h.hi him (by omega) ht
  mem := fun t h1 h2 => by
    by_cases h3 : i ≤ t
    · obtain ⟨s, q1, q2, q3⟩ := h.mem him (by omega) h3 h2
      exact ⟨s, by omega, q2, q3⟩
    · exact ⟨t, h1, h2, h.lo (by omega)⟩
  srt := fun p q h1 h2 h3 => by
    have ex : ∀ t, i < t → t < m + 1 → e[t]! = d[t - 1]! := fun t q1 q2 => by rw [h.x (by omega) (by omega) q2]; congr 1; omega
    have ey : e[i]! = d[m]! := by rw [h.y (by omega) (by omega)]; congr 1; omega
    have el : ∀ t, t < i → e[t]! = d[t]! := fun t q1 => h.lo q1
    by_cases p1 : p < i
    · rw [el p p1]
      by_cases q1 : q < i
      · rw [el q q1]; exact hs _ _ h1 h2 (by omega)
      · by_cases q2 : q = i
        · rw [q2, ey]; exact hlo _ h1 p1
        · rw [ex q (by omega) h3]; exact hs.le key h1 (by omega) (by omega)
    · by_cases p2 : p = i
      · rw [p2, ey, ex q (by omega) h3]; exact Int.le_of_lt (hhi _ (by omega) (by omega))
      · rw [ex p (by omega) (by omega), ex q (by omega) h3]; exact hs _ _ (by omega) (by omega) (by omega)
  same := rot_same key him (by omega) (by omega) h fun p q h1 h2 h3 h4 => by
    obtain rfl : q = m := by omega
    have := hhi p h1 h2
    omega }

/-- what is known behind the turn in the midst -/
structure Halved (a mid b st en : Nat) (d e : Array α) : Prop where
  size : e.size = d.size
  out : ∀ t, t < a ∨ b ≤ t → e[t]! = d[t]!
  mem : ∀ t, a ≤ t → t < b → ∃ s, a ≤ s ∧ s < b ∧ e[t]! = d[s]!
  s1 : Srtd key a st e
  s2 : Srtd key st mid e
  s3 : Srtd key mid en e
  s4 : Srtd key en b e
  dom : ∀ i j, a ≤ i → i < mid → mid ≤ j → j < b → key e[i]! ≤ key e[j]!
  same : Same key d e

theorem halved {a m b mid st en st0 r0 : Nat} {d e : Array α} (hb : b ≤ d.size) (h1 : Srtd key a m d) (h2 : Srtd key m b d)
    (hst : a ≤ st) (hsm : st ≤ m) (hsd : st ≤ mid) (hen : en + st = mid + m) (heb : en ≤ b) (hme : m ≤ en)
    (hlo : ∀ c, st0 ≤ c → c < st → key d[c]! ≤ key d[mid + m - 1 - c]!) (hhi : ∀ c, st ≤ c → c < r0 → key d[mid + m - 1 - c]! < key d[c]!)
    (h0 : st0 ≤ st) (hr : st ≤ r0) (hcase : (st0 = a ∧ r0 = m) ∨ (st0 + b = mid + m ∧ r0 = mid)) (h : Rot st m en d e) : Halved key a mid b st en d e := by
  have el : ∀ t, t < st → e[t]! = d[t]! := fun t q => h.lo q
  have ey : ∀ t, st ≤ t → t < mid → e[t]! = d[t + (m - st)]! := fun t q1 q2 => h.y q1 (by omega)
  have ex : ∀ t, mid ≤ t → t < en → e[t]! = d[t - (en - m)]! := fun t q1 q2 => h.x (by omega) (by omega) q2
  have eh : ∀ t, en ≤ t → e[t]! = d[t]! := fun t q => h.hi hsm hme q
  -- ahead of the turn against behind it
  have d1 : ∀ i j, a ≤ i → i < st → en ≤ j → j < b → key d[i]! ≤ key d[j]! := fun i j q1 q2 q3 q4 => by
    rcases hcase with ⟨c1, c2⟩ | ⟨c1, c2⟩
    · have hx := hlo (st - 1) (by omega) (by omega)
      rw [show mid + m - 1 - (st - 1) = en by omega] at hx
      have u1 := h1.le key q1 (show i ≤ st - 1 by omega) (by omega)
      have u2 := h2.le key (show m ≤ en by omega) q3 q4
      omega
    · by_cases hq : st0 < st
      · have hx := hlo (st - 1) (by omega) (by omega)
        rw [show mid + m - 1 - (st - 1) = en by omega] at hx
        have u1 := h1.le key q1 (show i ≤ st - 1 by omega) (by omega)
        have u2 := h2.le key (show m ≤ en by omega) q3 q4
        omega
      · omega
  have d2 : ∀ i j, st ≤ i → i < m → m ≤ j → j < en → key d[j]! < key d[i]! := fun i j q1 q2 q3 q4 => by
    have hx : st < r0 → key d[j]! < key d[i]! := fun hq => by
      have hx := hhi st (Nat.le_refl _) hq
      have u1 := h1.le key (show a ≤ st by omega) q1 q2
      have u2 := h2.le key q3 (show j ≤ mid + m - 1 - st by omega) (by omega)
      omega
    rcases hcase with ⟨c1, c2⟩ | ⟨c1, c2⟩
    · exact hx (by omega)
    · by_cases hq : st < r0
      · exact hx hq
      · omega
  refine ⟨h.1, fun t ht => ?_, fun t q1 q2 => ?_, ?_, ?_, ?_, ?_, ?_, ?_⟩
  · rcases ht with ht | ht
    · exact el t (by omega)
    · exact eh t (by omega)
  · by_cases p1 : t < st
    · exact ⟨t, q1, q2, el t p1⟩
    · by_cases p2 : t < en
      · obtain ⟨s, r1, r2, r3⟩ := h.mem hsm hme (show st ≤ t by omega) p2
        exact ⟨s, by omega, by omega, r3⟩
      · exact ⟨t, q1, q2, eh t (by omega)⟩
  · exact fun i j q1 q2 q3 => by rw [el i (by omega), el j q3]; exact h1 _ _ q1 q2 (by omega)
  · exact fun i j q1 q2 q3 => by rw [ey i q1 (by omega), ey j (by omega) q3]; exact h2 _ _ (by omega) (by omega) (by omega)
  · exact fun i j q1 q2 q3 => by rw [ex i q1 (by omega), ex j (by omega) q3]; exact h1 _ _ (by omega) (by omega) (by omega)
  · exact fun i j q1 q2 q3 => by rw [eh i q1, eh j (by omega)]; exact h2 _ _ (by omega) q2 q3
  · intro i j q1 q2 q3 q4
    by_cases p1 : i < st
    · rw [el i p1]
      by_cases p2 : j < en
      · rw [ex j q3 p2]; exact h1.le key q1 (by omega) (by omega)
      · rw [eh j (by omega)]; exact d1 i j q1 p1 (by omega) q4
    · rw [ey i (by omega) q2]
      by_cases p2 : j < en
      · rw [ex j q3 p2]; exact Int.le_of_lt (d2 _ _ (by omega) (by omega) (by omega) (by omega))
      · rw [eh j (by omega)]; exact h2.le key (by omega) (by omega) q4
  · exact rot_same key hsm hme (by omega) h fun i j q1 q2 q3 q4 => by
      have := d2 i j q1 q2 q3 q4
      omega

theorem Halved.whole {a mid b st en : Nat} {d e f g : Array α} (h : Halved key a mid b st en d e) (ham : a ≤ mid) (hmb : mid ≤ b) (hl : Merged key a mid e f) (hr : Merged key mid b f g) : Merged key a b d g := {
  size := by rw [hr.size, hl.size, h.size]
  out := fun t ht => by rw [hr.out t (by omega), hl.out t (by omega), h.out t ht]
  mem := fun t h1 h2 => by
    have hf : ∃ s, a ≤ s ∧ s < b ∧ g[t]! = f[s]! := by
      by_cases hq : t < mid
      · exact ⟨t, h1, h2, hr.out t (by omega)⟩
      · obtain ⟨s, q1, q2, q3⟩ := hr.mem t (by omega) h2
        exact ⟨s, by omega, q2, q3⟩
    obtain ⟨s, q1, q2, q3⟩ := hf
    have he : ∃ u, a ≤ u ∧ u < b ∧ f[s]! = e[u]! := by
      by_cases hq : s < mid
      · obtain ⟨u, r1, r2, r3⟩ := hl.mem s q1 hq
        exact ⟨u, r1, by omega, r3⟩
      · exact ⟨s, q1, q2, hl.out s (by omega)⟩
    obtain ⟨u, r1, r2, r3⟩ := he
    obtain ⟨v, s1, s2, s3⟩ := h.mem u r1 r2
    exact ⟨v, s1, s2, by rw [q3, r3, s3]⟩
  srt := fun i j h1 h2 h3 => by
    by_cases hj : j < mid
    · rw [hr.out i (by omega), hr.out j (by omega)]; exact hl.srt i j h1 h2 hj
    · by_cases hi : i < mid
      · rw [hr.out i (by omega)]
        obtain ⟨u, r1, r2, r3⟩ := hl.mem i h1 hi
        obtain ⟨s, q1, q2, q3⟩ := hr.mem j (by omega) h3
        rw [r3, q3, hl.out s (by omega)]
        exact h.dom u s r1 r2 q1 q2
      · exact hr.srt i j (by omega) h2 h3
  same := (h.same.trans key hl.same).trans key hr.same }

/-! by insertion -/
theorem swp_same {d : Array α} {j : Nat} (hj : j + 1 < d.size) (hne : key d[j]! ≠ key d[j + 1]!) : Same key d (swp d (j + 1) j) := by
  have h := Rot.bwd (k := j) (m := j + 1) (Rot.none_l (j + 1) (j + 1 + 1) d) (Nat.le_refl _) hj
  exact rot_same key (Nat.le_succ _) (Nat.le_succ _) hj h fun p q h1 h2 h3 h4 => by
    obtain rfl : p = j := by omega
    obtain rfl : q = p + 1 := by omega
    exact hne
theorem insInner_same (a : Nat) : ∀ (j : Nat) (d : Array α), j < d.size → Same key d (insInner (keyLt key) a j d)
  | 0, d, _ => by unfold insInner; exact Same.refl key d
  | j + 1, d, hj => by
    unfold insInner
    split
    · rename_i hc
      simp only [Bool.and_eq_true, keyLt, decide_eq_true_eq] at hc
      exact (swp_same key hj (by omega)).trans key (insInner_same a j _ (by rw [swp_size]; omega))
    · exact Same.refl key d
theorem insInner_size (a : Nat) : ∀ (j : Nat) (d : Array α), (insInner (keyLt key) a j d).size = d.size
  | 0, d => by unfold insInner; rfl
  | j + 1, d => by
    unfold insInner
    split
    · rw [insInner_size a j, swp_size]
    · rfl
theorem insOuter_same (a b : Nat) : ∀ (n i : Nat) (d : Array α), b - i = n → b ≤ d.size → Same key d (insOuter (keyLt key) a b i d)
  | 0, i, d, hn, hb => by rw [insOuter_stop _ _ _ _ _ (by omega)]; exact Same.refl key d
  | n + 1, i, d, hn, hb => by
    rw [insOuter_go _ _ _ _ _ (by omega)]
    exact (insInner_same key a i d (by omega)).trans key (insOuter_same a b n (i + 1) _ (by omega) (by rw [insInner_size]; exact hb))
theorem ins_merged (d : Array α) (a b : Nat) (hab : a ≤ b) (hb : b ≤ d.size) : Merged key a b d (insertionSort (keyLt key) d a b) := by
  obtain ⟨hp, hs⟩ := insertionSort_holds (lt := keyLt key) (keyLt_swo key) d a b hab hb
  refine ⟨hp.1, hp.2.1, ?_, ?_, ?_⟩
  · exact permIn_all d _ a b (fun x => ∃ s, a ≤ s ∧ s < b ∧ x = d[s]!) hb hp fun i h1 h2 => ⟨i, h1, h2, rfl⟩
  · intro i j h1 h2 h3
    have := hs i j h1 h2 h3
    simp only [keyLt, decide_eq_false_iff_not] at this
    omega
  · exact insOuter_same key a b _ (a + 1) d rfl hb

/-! block by block -/
def Blocks (s n : Nat) (e : Array α) : Prop := ∀ p, Srtd key (p * s) (min (p * s + s) n) e

/-- the first a are in blocks of s -/
structure Firsts (s a : Nat) (d e : Array α) : Prop where
  size : e.size = d.size
  same : Same key d e
  at_ : ∃ q, a = q * s
  blk : ∀ p, p * s + s ≤ a → Srtd key (p * s) (p * s + s) e
theorem Firsts.zero (s : Nat) (hs : 0 < s) (d : Array α) : Firsts key s 0 d d := ⟨rfl, Same.refl key d, ⟨0, by simp⟩, fun p hp => by omega⟩
theorem mul_between {p q s : Nat} (h1 : p * s ≤ q * s) (h2 : q * s < p * s + s) (hs : 0 < s) : p = q := by
  have a1 : p ≤ q := Nat.le_of_mul_le_mul_right h1 hs
  have a2 : q < p + 1 := by
    have : q * s < (p + 1) * s := by rw [Nat.add_mul, Nat.one_mul]; exact h2
    exact Nat.lt_of_mul_lt_mul_right this
  omega
theorem Firsts.step {s a : Nat} {d e f : Array α} (h : Firsts key s a d e) (hs : 0 < s) (hm : Merged key a (a + s) e f) : Firsts key s (a + s) d f := by
  obtain ⟨q, rfl⟩ := h.at_
  refine ⟨by rw [hm.size, h.size], h.same.trans key hm.same, ⟨q + 1, by rw [Nat.add_mul, Nat.one_mul]⟩, fun p hp => ?_⟩
  by_cases hc : p * s + s ≤ q * s
  · exact (h.blk p hc).congr key fun t h1 h2 => hm.out t (by omega)
  · obtain rfl := mul_between (show p * s ≤ q * s by omega) (by omega) hs
    exact hm.srt
theorem Firsts.last {s a n : Nat} {d e f : Array α} (h : Firsts key s a d e) (hs : 0 < s) (han : a ≤ n) (hn : n < a + s) (hm : Merged key a n e f) : Blocks key s n f ∧ Same key d f ∧ f.size = d.size := by
  obtain ⟨q, rfl⟩ := h.at_
  refine ⟨fun p => ?_, h.same.trans key hm.same, by rw [hm.size, h.size]⟩
  by_cases hc : p * s + s ≤ q * s
  · rw [Nat.min_eq_left (by omega)]
    exact (h.blk p hc).congr key fun t h1 h2 => hm.out t (by omega)
  · by_cases hc2 : q * s < p * s
    · have : q * s + s ≤ p * s := by
        have : q + 1 ≤ p := Nat.lt_of_mul_lt_mul_right hc2
        have := Nat.mul_le_mul_right s this
        rwa [Nat.add_mul, Nat.one_mul] at this
      intro i j h1 h2 h3; omega
    · obtain rfl := mul_between (show p * s ≤ q * s by omega) (by omega) hs
      rw [Nat.min_eq_right (by omega)]
      exact hm.srt

/-- the first a are in blocks of twice s, the others in blocks of s -/
structure Pairs (s n a : Nat) (d e : Array α) : Prop where
  fst : Firsts key (2 * s) a d e
  rest : ∀ p, a ≤ p * s → Srtd key (p * s) (min (p * s + s) n) e
theorem Pairs.start {s n : Nat} {d e : Array α} (hs : 0 < s) (hb : Blocks key s n e) (hm : Same key d e) (hz : e.size = d.size) : Pairs key s n 0 d e :=
  ⟨⟨hz, hm, ⟨0, by simp⟩, fun p hp => by omega⟩, fun p _ => hb p⟩
theorem Pairs.two {s n a : Nat} {d e : Array α} (h : Pairs key s n a d e) : Srtd key a (min (a + s) n) e ∧ Srtd key (a + s) (min (a + s + s) n) e := by
  obtain ⟨q, hq⟩ := h.fst.at_
  have e1 : (2 * q) * s = a := by rw [hq, Nat.mul_comm 2 q, Nat.mul_assoc]
  have e2 : (2 * q + 1) * s = a + s := by rw [Nat.add_mul, Nat.one_mul, e1]
  have r1 := h.rest (2 * q) (by omega)
  have r2 := h.rest (2 * q + 1) (by omega)
  rw [e1] at r1
  rw [e2] at r2
  exact ⟨r1, r2⟩
theorem Pairs.step {s n a : Nat} {d e f : Array α} (h : Pairs key s n a d e) (hs : 0 < s) (hm : Merged key a (a + 2 * s) e f) : Pairs key s n (a + 2 * s) d f :=
  ⟨h.fst.step key (by omega) hm, fun p hp => (h.rest p (by omega)).congr key fun t h1 h2 => hm.out t (by omega)⟩
theorem Pairs.last {s n a : Nat} {d e f : Array α} (h : Pairs key s n a d e) (hs : 0 < s) (han : a ≤ n) (hn : n < a + 2 * s) (hm : Merged key a n e f) : Blocks key (2 * s) n f ∧ Same key d f ∧ f.size = d.size :=
  h.fst.last key (by omega) han hn hm
theorem Blocks.all {s n : Nat} {e : Array α} (h : Blocks key s n e) (hn : n ≤ s) : Srtd key 0 n e := by
  have := h 0
  rw [Nat.zero_mul, Nat.zero_add, Nat.min_eq_right hn] at this
  exact this

theorem srtd_list {e : Array α} (h : Srtd key 0 e.size e) : SrtL key e.toList := by
  unfold SrtL
  rw [List.pairwise_iff_getElem]
  intro i j hi hj hij
  have := h i j (Nat.zero_le _) hij (by simpa using hj)
  simpa [show i < e.size by simpa using hi, show j < e.size by simpa using hj] using this
end
end

end Go.Proofs.YtlkemmdcjnaepaaDoor
