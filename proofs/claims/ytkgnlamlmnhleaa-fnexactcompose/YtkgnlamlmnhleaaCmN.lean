/- Signs put together: what Compose comes to. No word of the program. -/
import Derived.Test.YtkgnlamlmnhleaaRows
import Derived.Test.YtkgnlamlmnhleaaPaN
namespace Go.Proofs.Ytkgnlamlmnhleaa

/-- may the sign d be put together with the letter at t? -/
def freeB (o : List Int) (t d : Int) : Bool :=
  decide (0 ≤ t) && (decide (t = (o.length : Int) - 1) || (decide (0 < clsN (o.getD (o.length - 1) 0)) && decide (clsN (o.getD (o.length - 1) 0) < clsN d)))
def pushS (s : List Int × Int) (d : Int) : List Int × Int := (s.1 ++ [d], if clsN d = 0 then (s.1.length : Int) else s.2)
def cmpStep (s : List Int × Int) (d : Int) : List Int × Int :=
  if freeB s.1 s.2 d then
    match pairN (s.1.getD s.2.toNat 0) d with
    | some c => (s.1.set s.2.toNat c, s.2)
    | none => pushS s d
  else pushS s d
def cmpS (x : List Int) : List Int × Int := x.foldl cmpStep ([], -1)
def composeN (l : List Int) : List Int := (cmpS (apartN l)).1

theorem cls_nonneg (c : Int) : 0 ≤ clsN c := by
  unfold clsN
  split
  · omega
  · split
    · omega
    · split <;> omega

/-- the marks behind the letter; r: what was gone through, backward -/
structure MOk (r M : List Int) : Prop where
  up : M.Pairwise fun a b => clsN a ≤ clsN b
  one : ∀ m ∈ M, partsN m = [] ∧ 0 < clsN m ∧ clsN m ≤ clsN (r.headD 0)
structure CmI (r : List Int) (s : List Int × Int) : Prop where
  apart : apartN s.1 = r.reverse
  len : s.1.length ≤ r.length
  shape : (s.2 = -1 ∧ MOk r s.1) ∨ ∃ A L M, s.1 = A ++ L :: M ∧ s.2 = (A.length : Int) ∧ MOk r M
theorem MOk.nil (r : List Int) : MOk r [] := ⟨List.Pairwise.nil, fun m hm => by cases hm⟩
theorem CmI.nil : CmI [] ([], -1) := ⟨rfl, Nat.le_refl _, .inl ⟨rfl, MOk.nil _⟩⟩

theorem okR_tail {d : Int} {r : List Int} (h : okR (d :: r)) : okR r := by
  cases r with
  | nil => trivial
  | cons z p => exact h.2
/-- a mark more, in order -/
theorem MOk.more {d : Int} {r M : List Int} (h : MOk r M) (hok : okR (d :: r)) (hk : 0 < clsN d) : ∀ m ∈ M, clsN m ≤ clsN d := by
  intro m hm
  have h1 := (h.one m hm).2
  cases r with
  | nil => have : clsN (0 : Int) = 0 := by decide
           simp only [List.headD_nil] at h1; omega
  | cons z p =>
    have hn : ¬ past d z := hok.1
    unfold past at hn
    simp only [List.headD_cons] at h1
    omega
theorem MOk.push {d : Int} {r M : List Int} (h : MOk r M) (hok : okR (d :: r)) (hl : partsN d = []) (hk : 0 < clsN d) : MOk (d :: r) (M ++ [d]) := by
  have hm := h.more hok hk
  refine ⟨?_, fun m hm' => ?_⟩
  · rw [List.pairwise_append]
    exact ⟨h.up, List.pairwise_singleton _ _, fun a ha b hb => by rw [List.mem_singleton.1 hb]; exact hm a ha⟩
  · rcases List.mem_append.1 hm' with e | e
    · exact ⟨(h.one m e).1, (h.one m e).2.1, hm m e⟩
    · rw [List.mem_singleton.1 e]; exact ⟨hl, hk, Int.le_refl _⟩
theorem apart_push {o r : List Int} {d : Int} (h : apartN o = r.reverse) (hok : okR (d :: r)) (hl : ∀ x ∈ d :: r, partsN x = []) : apartN (o ++ [d]) = (d :: r).reverse := by
  have h1 : apartN [d] = [d] := by
    rw [apart_of_leaves _ fun y hy => by rw [List.mem_singleton.1 hy]; exact hl d (by simp)]
    rfl
  rw [← apart_parts, h, h1, apart_of_leaves _ fun y hy => hl y (by simpa [or_comm] using hy), ← List.reverse_cons]
  unfold srtN
  rw [srtR_self _ hok]
theorem CmI.push {r : List Int} {s : List Int × Int} {d : Int} (h : CmI r s) (hok : okR (d :: r)) (hl : ∀ x ∈ d :: r, partsN x = []) : CmI (d :: r) (pushS s d) := by
  refine ⟨apart_push h.apart hok hl, ?_, ?_⟩
  · unfold pushS
    have := h.len
    simp; omega
  · by_cases hk : clsN d = 0
    · right
      refine ⟨s.1, d, [], rfl, ?_, MOk.nil _⟩
      unfold pushS; rw [if_pos hk]
    · have hk' : 0 < clsN d := by have := cls_nonneg d; omega
      rcases h.shape with ⟨e, hm⟩ | ⟨A, L, M, e1, e2, hm⟩
      · left
        exact ⟨by unfold pushS; rw [if_neg hk]; exact e, hm.push hok (hl d (by simp)) hk'⟩
      · right
        refine ⟨A, L, M ++ [d], ?_, ?_, hm.push hok (hl d (by simp)) hk'⟩
        · show s.1 ++ [d] = _
          rw [e1]; simp
        · unfold pushS; rw [if_neg hk]; exact e2
theorem srt_past {d : Int} : ∀ (M r : List Int), (∀ m ∈ M, past m d) → srtR (insR d r) M = insR d (srtR r M)
  | [], _, _ => rfl
  | m :: M, r, h => by
    show srtR (insR m (insR d r)) M = insR d (srtR (insR m r) M)
    rw [insR_swap d m (h m (by simp)) r]
    exact srt_past M _ fun x hx => h x (by simp [hx])
theorem set_mid (A M : List Int) (L c : Int) : (A ++ L :: M).set A.length c = A ++ c :: M := by
  induction A with
  | nil => rfl
  | cons a A ih => simp [ih]
theorem getD_mid (A M : List Int) (L : Int) : (A ++ L :: M).getD A.length 0 = L := by simp [List.getD]
theorem CmI.take {r : List Int} {s : List Int × Int} {d c : Int} (h : CmI r s) (hok : okR (d :: r)) (hl : ∀ x ∈ d :: r, partsN x = []) (hf : freeB s.1 s.2 d = true) (hp : pairN (s.1.getD s.2.toNat 0) d = some c) :
    CmI (d :: r) (s.1.set s.2.toNat c, s.2) := by
  unfold freeB at hf
  simp only [Bool.and_eq_true, Bool.or_eq_true, decide_eq_true_eq] at hf
  rcases h.shape with ⟨e, hm⟩ | ⟨A, L, M, e1, e2, hm⟩
  · omega
  have et : s.2.toNat = A.length := by omega
  rw [et] at hp ⊢
  rw [e1, getD_mid] at hp
  rw [e1, set_mid]
  have hM : ∀ m ∈ M, past m d := by
    intro m hmm
    obtain ⟨Q, z, rfl⟩ : ∃ Q z, M = Q ++ [z] := ⟨M.dropLast, M.getLast (List.ne_nil_of_mem hmm), (List.dropLast_concat_getLast _).symm⟩
    have hz : (A ++ L :: (Q ++ [z])).getD ((A ++ L :: (Q ++ [z])).length - 1) 0 = z := by
      rw [show A ++ L :: (Q ++ [z]) = (A ++ L :: Q) ++ [z] by simp, List.length_append]
      simp [List.getD]
    rw [e1, hz, e2] at hf
    rcases hf.2 with e | ⟨_, e⟩
    · simp at e; omega
    · refine ⟨(hm.one m hmm).2.1, ?_⟩
      rcases List.mem_append.1 hmm with hq | hq
      · have := (List.pairwise_append.1 hm.up).2.2 m hq z (by simp)
        omega
      · rw [List.mem_singleton.1 hq]; exact e
  have hleaf : ∀ m ∈ M, partsN m = [] := fun m hm' => (hm.one m hm').1
  have hfl : M.flatMap takeN = M := flat_leaves M hleaf
  refine ⟨?_, ?_, ?_⟩
  · rw [← apart_push h.apart hok hl, e1]
    unfold apartN srtN
    congr 1
    rw [List.flatMap_append, List.flatMap_cons, List.append_assoc, List.flatMap_append, List.cons_append, List.flatMap_cons, List.flatMap_append, pair_take hp, hfl, List.flatMap_cons, List.flatMap_nil, takeN_leaf d (hl d (by simp))]
    simp only [srtR_append, List.append_nil]
    show srtR (insR d _) M = insR d (srtR _ M)
    exact srt_past M _ hM
  · have := h.len
    rw [e1] at this
    simp at this ⊢; omega
  · right
    refine ⟨A, c, M, rfl, e2, hm.up, fun m hm' => ⟨(hm.one m hm').1, (hm.one m hm').2.1, ?_⟩⟩
    have := (hM m hm').2
    simp only [List.headD_cons]; omega
theorem CmI.step {r : List Int} {s : List Int × Int} {d : Int} (h : CmI r s) (hok : okR (d :: r)) (hl : ∀ x ∈ d :: r, partsN x = []) : CmI (d :: r) (cmpStep s d) := by
  unfold cmpStep
  split
  · rename_i hf
    cases hp : pairN (s.1.getD s.2.toNat 0) d with
    | none => exact h.push hok hl
    | some c => exact h.take hok hl hf hp
  · exact h.push hok hl
theorem cmp_inv : ∀ r : List Int, okR r → (∀ x ∈ r, partsN x = []) → CmI r (cmpS r.reverse)
  | [], _, _ => CmI.nil
  | d :: r, hok, hl => by
    rw [List.reverse_cons]
    unfold cmpS
    rw [List.foldl_append]
    exact (cmp_inv r (okR_tail hok) fun x hx => hl x (by simp [hx])).step hok hl
theorem compose_inv (l : List Int) : CmI (apartN l).reverse (cmpS (apartN l)) := by
  have h := cmp_inv (apartN l).reverse ?_ ?_
  · rwa [List.reverse_reverse] at h
  · unfold apartN srtN
    rw [List.reverse_reverse]
    exact srtR_ok _ [] trivial
  · exact fun x hx => apart_leaves l x (by simpa using hx)
/-- put together and taken apart -/
theorem compose_apart (l : List Int) : apartN (composeN l) = apartN l := by
  have := (compose_inv l).apart
  rwa [List.reverse_reverse] at this
theorem compose_idem (l : List Int) : composeN (composeN l) = composeN l := by
  unfold composeN
  have := compose_apart l
  unfold composeN at this
  rw [this]
theorem compose_len (l : List Int) : (composeN l).length ≤ (apartN l).length := by
  have := (compose_inv l).len
  rwa [List.length_reverse] at this
end Go.Proofs.Ytkgnlamlmnhleaa
