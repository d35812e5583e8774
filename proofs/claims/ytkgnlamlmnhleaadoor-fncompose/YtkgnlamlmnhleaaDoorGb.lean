/- Signs put together: what Pair comes to. No word of the program. Signs put together: what Compose comes to. No word of the program. Signs put together: spec.Pair. Signs put together: spec.Compose. -/
import Derived.Test.YtkgnlamlmnhleaaDoorRows
import Derived.Test.YtkgnlamlmnhleaaDoorSgn
import Derived.Test.YtkgnlamlmnhleaaDoorTak
import Derived.Test.YtkgnlamlmnhleaaDoorApt
import Derived.Test.YtkgnlamlmnhleaaDoorPrt3
import Derived.Test.YtkgnlamlmnhleaaDoorGa
import Derived.Deep.Cut
import Derived.Deep.CutRange
namespace Go.Proofs.YtkgnlamlmnhleaaDoor

section
/-- the sign whose two parts they are, by the table -/
def pairT (a b : Int) : Option Int := (pTab.find? fun r => r.2.1 == a && (r.2.2 == b && r.2.2 != 0)).map (·.1)
def pairN (a b : Int) : Option Int :=
  if inB a 4352 4370 && inB b 4449 4469 then some (44032 + (a - 4352) * 588 + (b - 4449) * 28)
  else if inB a 44032 55203 && (decide ((a - 44032) % 28 = 0) && inB b 4520 4546) then some (a + b - 4519)
  else pairT a b

theorem ptab_two : ∀ r ∈ pTab, r.2.2 ≠ 0 → partsN r.1 = [r.2.1, r.2.2] ∧ ((192 ≤ r.1 ∧ r.1 ≤ 255) ∨ (469 ≤ r.1 ∧ r.1 ≤ 470) ∨ (902 ≤ r.1 ∧ r.1 ≤ 974) ∨ (7840 ≤ r.1 ∧ r.1 ≤ 7853)) := by decide
theorem ptab_one : ∀ r ∈ pTab, r.2.2 = 0 → (partsN r.1).length ≠ 2 := by decide
theorem pair_key {a b c : Int} (h : pairT a b = some c) : partsN c = [a, b] ∧ ((192 ≤ c ∧ c ≤ 255) ∨ (469 ≤ c ∧ c ≤ 470) ∨ (902 ≤ c ∧ c ≤ 974) ∨ (7840 ≤ c ∧ c ≤ 7853)) := by
  unfold pairT at h
  obtain ⟨r, hr, rfl⟩ := Option.map_eq_some_iff.1 h
  have hp := List.find?_some hr
  have hm := List.mem_of_find?_eq_some hr
  simp only [Bool.and_eq_true, beq_iff_eq, bne_iff_ne] at hp
  have := ptab_two r hm hp.2.2
  rw [hp.1, hp.2.1] at this
  exact this
set_option maxRecDepth 100000 in
theorem ptab_uniq : ∀ r ∈ pTab, ∀ q ∈ pTab, r.2 = q.2 → r.1 = q.1 := by decide
theorem pair_is {a b c : Int} (h : partsN c = [a, b]) (hc : c < 44032) : pairT a b = some c := by
  rcases partsN_cases c with ⟨j, hj, rfl⟩ | ⟨h1, h2, _⟩ | h0
  · have hm : pRow j ∈ pTab := by rw [pTab_range]; exact List.mem_map.2 ⟨j, List.mem_range.2 hj, rfl⟩
    have hz : (pRow j).2.2 ≠ 0 := fun e => ptab_one _ hm e (by rw [h]; rfl)
    have h2 := (ptab_two _ hm hz).1
    rw [h] at h2
    injection h2 with e1 e2
    injection e2 with e2 _
    unfold pairT
    cases hf : pTab.find? fun r => r.2.1 == a && (r.2.2 == b && r.2.2 != 0) with
    | none =>
      have := List.find?_eq_none.1 hf _ hm
      rw [e1, e2] at this
      exact absurd (by simp [hz]) this
    | some r =>
      have hp := List.find?_some hf
      have hr := List.mem_of_find?_eq_some hf
      simp only [Bool.and_eq_true, beq_iff_eq, bne_iff_ne] at hp
      show some r.1 = _
      rw [ptab_uniq r hr _ hm (Prod.ext (by rw [hp.1, e1]) (by rw [hp.2.1, e2]))]
  · omega
  · rw [h] at h0; cases h0

theorem keys_low : ∀ x ∈ keysAll, x < 44032 := by decide
theorem parts_han (c : Int) (h0 : 44032 ≤ c) (h1 : c ≤ 55203) : partsN c = hanN c := by
  rw [partsN_rest c fun h => by have := keys_low c h; omega, inB_mk h0 h1]; rfl
theorem take1_of_parts (c a : Int) (h : a ∈ partsN c) : take1 a = takeN a := by
  by_cases e : partsN a = []
  · rw [take1_leaf a e, takeN_leaf a e]
  · have key : ∀ l : List Int, (∀ x ∈ l, partsN x = []) → l.flatMap take1 = l := by
      intro l
      induction l with
      | nil => intro _; rfl
      | cons x l ih => intro hl; rw [List.flatMap_cons, take1_leaf x (hl x (by simp)), ih fun y hy => hl y (by simp [hy])]; rfl
    have k1 : ∀ l : List Int, l.flatMap (fun d => [d]) = l := by
      intro l
      induction l with
      | nil => rfl
      | cons x l ih => rw [List.flatMap_cons, ih]; rfl
    unfold take1 takeN takeBy
    rw [if_neg e, if_neg e, key _ fun x hx => parts_two c a x h hx, k1]
theorem takeN_parts (c : Int) (h : partsN c ≠ []) : takeN c = (partsN c).flatMap takeN := by
  have key : ∀ l : List Int, (∀ x ∈ l, x ∈ partsN c) → l.flatMap take1 = l.flatMap takeN := by
    intro l
    induction l with
    | nil => intro _; rfl
    | cons x l ih => intro hl; rw [List.flatMap_cons, List.flatMap_cons, take1_of_parts c x (hl x (by simp)), ih fun y hy => hl y (by simp [hy])]
  rw [show takeN c = (partsN c).flatMap take1 by unfold takeN takeBy; rw [if_neg h]]
  exact key _ fun x hx => hx
theorem takeN_jamo (d : Int) (h0 : 4352 ≤ d) (h1 : d ≤ 4546) : takeN d = [d] := takeN_leaf d (partsN_jamo d h0 h1)

/-- a sign that two make is taken apart to what both are -/
theorem pair_take {a b c : Int} (h : pairN a b = some c) : takeN c = takeN a ++ takeN b := by
  unfold pairN at h
  split at h
  · rename_i hc
    simp only [Bool.and_eq_true] at hc
    have ha := inB_le hc.1
    have hb := inB_le hc.2
    injection h with h
    subst h
    have hp : partsN (44032 + (a - 4352) * 588 + (b - 4449) * 28) = [a, b] := by
      rw [parts_han _ (by omega) (by omega)]
      unfold hanN
      rw [if_neg (by omega)]
      congr 1
      · omega
      · congr 1; omega
    rw [takeN_parts _ (by rw [hp]; simp), hp]
    simp
  · split at h
    · rename_i hc
      simp only [Bool.and_eq_true, decide_eq_true_eq] at hc
      have ha := inB_le hc.1
      have hb := inB_le hc.2.2
      have hd := hc.2.1
      injection h with h
      subst h
      have hp : partsN (a + b - 4519) = [4352 + (a - 44032) / 588, 4449 + (a - 44032) % 588 / 28, b] := by
        rw [parts_han _ (by omega) (by omega)]
        unfold hanN
        rw [if_pos (by omega)]
        congr 1
        · omega
        · congr 1
          · omega
          · congr 1; omega
      have hq : partsN a = [4352 + (a - 44032) / 588, 4449 + (a - 44032) % 588 / 28] := by
        rw [parts_han _ (by omega) (by omega)]
        unfold hanN
        rw [if_neg (by omega)]
      rw [takeN_parts _ (by rw [hp]; simp), hp, takeN_parts a (by rw [hq]; simp), hq]
      simp
    · have hp := (pair_key h).1
      rw [takeN_parts _ (by rw [hp]; simp), hp]
      simp
theorem pair_apart {a b c : Int} (h : pairN a b = some c) : apartN [c] = apartN [a, b] := by
  unfold apartN
  simp [pair_take h]
end

section
/-- may the sign d be put together with the letter at t? -/
def freeB (o : List Int) (t d : Int) : Bool :=
  decide (0 ≤ t) && (decide (t = (o.length : Int) - 1) || (decide (0 < clsN (o.getD (o.length - 1) 0)) && decide (clsN (o.getD (o.length - 1) 0) < clsN d)))
def pushS (s : List Int × Int) (d : Int) : List Int × Int := (s.1 ++ [d], if clsN d = 0 then (s.1.length : Int) else s.2)
def cmpStep (s : List Int × Int) (d : Int) : List Int × Int :=
  if freeB s.1 s.2 d then
    match pairN (s.1.getD s.2.toNat 0) d with
    | some c => (s.1.set s.2.toNat c, s.2)
    | none => pushS s d
  else pushS s d
def cmpS (x : List Int) : List Int × Int := x.foldl cmpStep ([], -1)
def composeN (l : List Int) : List Int := (cmpS (apartN l)).1

theorem cls_nonneg (c : Int) : 0 ≤ clsN c := by
  unfold clsN
  split
  · omega
  · split
    · omega
    · split <;> omega

/-- the marks behind the letter; r: what was gone through, backward -/
structure MOk (r M : List Int) : Prop where
  up : M.Pairwise fun a b => clsN a ≤ clsN b
  one : ∀ m ∈ M, partsN m = [] ∧ 0 < clsN m ∧ clsN m ≤ clsN (r.headD 0)
structure CmI (r : List Int) (s : List Int × Int) : Prop where
  apart : apartN s.1 = r.reverse
  len : s.1.length ≤ r.length
  shape : (s.2 = -1 ∧ MOk r s.1) ∨ ∃ A L M, s.1 = A ++ L :: M ∧ s.2 = (A.length : Int) ∧ MOk r M
theorem MOk.nil (r : List Int) : MOk r [] := ⟨List.Pairwise.nil, fun m hm => by cases hm⟩
theorem CmI.nil : CmI [] ([], -1) := ⟨rfl, Nat.le_refl _, .inl ⟨rfl, MOk.nil _⟩⟩

theorem okR_tail {d : Int} {r : List Int} (h : okR (d :: r)) : okR r := by
  cases r with
  | nil => trivial
  | cons z p => exact h.2
/-- a mark more, in order -/
theorem MOk.more {d : Int} {r M : List Int} (h : MOk r M) (hok : okR (d :: r)) (hk : 0 < clsN d) : ∀ m ∈ M, clsN m ≤ clsN d := by
  intro m hm
  have h1 := (h.one m hm).2
  cases r with
  | nil => have : clsN (0 : Int) = 0 := by decide
           simp only [List.headD_nil] at h1; omega
  | cons z p =>
    have hn : ¬ past d z := hok.1
    unfold past at hn
    simp only [List.headD_cons] at h1
    omega
theorem MOk.push {d : Int} {r M : List Int} (h : MOk r M) (hok : okR (d :: r)) (hl : partsN d = []) (hk : 0 < clsN d) : MOk (d :: r) (M ++ [d]) := by
  have hm := h.more hok hk
  refine ⟨?_, fun m hm' => ?_⟩
  · rw [List.pairwise_append]
    exact ⟨h.up, List.pairwise_singleton _ _, fun a ha b hb => by rw [List.mem_singleton.1 hb]; exact hm a ha⟩
  · rcases List.mem_append.1 hm' with e | e
    · exact ⟨(h.one m e).1, (h.one m e).2.1, hm m e⟩
    · rw [List.mem_singleton.1 e]; exact ⟨hl, hk, Int.le_refl _⟩
theorem apart_push {o r : List Int} {d : Int} (h : apartN o = r.reverse) (hok : okR (d :: r)) (hl : ∀ x ∈ d :: r, partsN x = []) : apartN (o ++ [d]) = (d :: r).reverse := by
  have h1 : apartN [d] = [d] := by
    rw [apart_of_leaves _ fun y hy => by rw [List.mem_singleton.1 hy]; exact hl d (by simp)]
    rfl
  rw [← apart_parts, h, h1, apart_of_leaves _ fun y hy => hl y (by simpa [or_comm] using hy), ← List.reverse_cons]
  unfold srtN
  rw [srtR_self _ hok]
theorem CmI.push {r : List Int} {s : List Int × Int} {d : Int} (h : CmI r s) (hok : okR (d :: r)) (hl : ∀ x ∈ d :: r, partsN x = []) : CmI (d :: r) (pushS s d) := by
  refine ⟨apart_push h.apart hok hl, ?_, ?_⟩
  · unfold pushS
    have := h.len
    simp; omega
  · by_cases hk : clsN d = 0
    · right
      refine ⟨s.1, d, [], rfl, ?_, MOk.nil _⟩
      unfold pushS; rw [if_pos hk]
    · have hk' : 0 < clsN d := by have := cls_nonneg d; omega
      rcases h.shape with ⟨e, hm⟩ | ⟨A, L, M, e1, e2, hm⟩
      · left
        exact ⟨by unfold pushS; rw [if_neg hk]; exact e, hm.push hok (hl d (by simp)) hk'⟩
      · right
        refine ⟨A, L, M ++ [d], ?_, ?_, hm.push hok (hl d (by simp)) hk'⟩
        · show s.1 ++ [d] = _
          rw [e1]; simp
        · unfold pushS; rw [if_neg hk]; exact e2
theorem srt_past {d : Int} : ∀ (M r : List Int), (∀ m ∈ M, past m d) → srtR (insR d r) M = insR d (srtR r M)
  | [], _, _ => rfl
  | m :: M, r, h => by
    show srtR (insR m (insR d r)) M = insR d (srtR (insR m r) M)
    rw [insR_swap d m (h m (by simp)) r]
    exact srt_past M _ fun x hx => h x (by simp [hx])
theorem set_mid (A M : List Int) (L c : Int) : (A ++ L :: M).set A.length c = A ++ c :: M := by
  induction A with
  | nil => rfl
  | cons a A ih => simp [ih]
theorem getD_mid (A M : List Int) (L : Int) : (A ++ L :: M).getD A.length 0 = L := by simp [List.getD]
theorem CmI.take {r : List Int} {s : List Int × Int} {d c : Int} (h : CmI r s) (hok : okR (d :: r)) (hl : ∀ x ∈ d :: r, partsN x = []) (hf : freeB s.1 s.2 d = true) (hp : pairN (s.1.getD s.2.toNat 0) d = some c) :
    CmI (d :: r) (s.1.set s.2.toNat c, s.2) := by
  unfold freeB at hf
  simp only [Bool.and_eq_true, Bool.or_eq_true, decide_eq_true_eq] at hf
  rcases h.shape with ⟨e, hm⟩ | ⟨A, L, M, e1, e2, hm⟩
  · omega
  have et : s.2.toNat = A.length := by omega
  rw [et] at hp ⊢
  rw [e1, getD_mid] at hp
  rw [e1, set_mid]
  have hM : ∀ m ∈ M, past m d := by
    intro m hmm
    obtain ⟨Q, z, rfl⟩ : ∃ Q z, M = Q ++ [z] := ⟨M.dropLast, M.getLast (List.ne_nil_of_mem hmm), (List.dropLast_concat_getLast _).symm⟩
    have hz : (A ++ L :: (Q ++ [z])).getD ((A ++ L :: (Q ++ [z])).length - 1) 0 = z := by
      rw [show A ++ L :: (Q ++ [z]) = (A ++ L :: Q) ++ [z] by simp, List.length_append]
      simp [List.getD]
    rw [e1, hz, e2] at hf
    rcases hf.2 with e | ⟨_, e⟩
    · simp at e; omega
    · refine ⟨(hm.one m hmm).2.1, ?_⟩
      rcases List.mem_append.1 hmm with hq | hq
      · have := (List.pairwise_append.1 hm.up).2.2 m hq z (by simp)
        omega
      · rw [List.mem_singleton.1 hq]; exact e
  have hleaf : ∀ m ∈ M, partsN m = [] := fun m hm' => (hm.one m hm').1
  have hfl : M.flatMap takeN = M := flat_leaves M hleaf
  refine ⟨?_, ?_, ?_⟩
  · rw [← apart_push h.apart hok hl, e1]
    unfold apartN srtN
    congr 1
    rw [List.flatMap_append, List.flatMap_cons, List.append_assoc, List.flatMap_append, List.cons_append, List.flatMap_cons, List.flatMap_append, pair_take hp, hfl, List.flatMap_cons, List.flatMap_nil, takeN_leaf d (hl d (by simp))]
    simp only [srtR_append, List.append_nil]
    show srtR (insR d _) M = insR d (srtR _ M)
    exact srt_past M _ hM
  · have := h.len
    rw [e1] at this
    simp at this ⊢; omega
  · right
    refine ⟨A, c, M, rfl, e2, hm.up, fun m hm' => ⟨(hm.one m hm').1, (hm.one m hm').2.1, ?_⟩⟩
    have := (hM m hm').2
    simp only [List.headD_cons]; omega
theorem CmI.step {r : List Int} {s : List Int × Int} {d : Int} (h : CmI r s) (hok : okR (d :: r)) (hl : ∀ x ∈ d :: r, partsN x = []) : CmI (d :: r) (cmpStep s d) := by
  unfold cmpStep
  split
  · rename_i hf
    cases hp : pairN (s.1.getD s.2.toNat 0) d with
    | none => exact h.push hok hl
    | some c => exact h.take hok hl hf hp
  · exact h.push hok hl
theorem cmp_inv : ∀ r : List Int, okR r → (∀ x ∈ r, partsN x = []) → CmI r (cmpS r.reverse)
  | [], _, _ => CmI.nil
  | d :: r, hok, hl => by
    rw [List.reverse_cons]
    unfold cmpS
    rw [List.foldl_append]
    exact (cmp_inv r (okR_tail hok) fun x hx => hl x (by simp [hx])).step hok hl
theorem compose_inv (l : List Int) : CmI (apartN l).reverse (cmpS (apartN l)) := by
  have h := cmp_inv (apartN l).reverse ?_ ?_
  · rwa [List.reverse_reverse] at h
  · unfold apartN srtN
    rw [List.reverse_reverse]
    exact srtR_ok _ [] trivial
  · exact fun x hx => apart_leaves l x (by simpa using hx)
/-- put together and taken apart -/
theorem compose_apart (l : List Int) : apartN (composeN l) = apartN l := by
  have := (compose_inv l).apart
  rwa [List.reverse_reverse] at this
theorem compose_idem (l : List Int) : composeN (composeN l) = composeN l := by
  unfold composeN
  have := compose_apart l
  unfold composeN at this
  rw [this]
theorem compose_len (l : List Int) : (composeN l).length ≤ (apartN l).length := by
  have := (compose_inv l).len
  rwa [List.length_reverse] at this
end

section
open Go.RowKit

def pzF : List Int := [192, 469, 902, 7840]
def pzT : List Int := [255, 470, 974, 7853]
theorem pz_le : ∀ t, t < 4 → 0 ≤ pzF.getD t 0 ∧ pzF.getD t 0 ≤ pzT.getD t 0 ∧ pzT.getD t 0 ≤ 7853 := by decide
theorem pairT_none {a b : Int} (h : ∀ t, t < 4 → ∀ c, pzF.getD t 0 ≤ c → c ≤ pzT.getD t 0 → partsN c ≠ [a, b]) : pairT a b = none := by
  cases hp : pairT a b with
  | none => rfl
  | some c =>
    obtain ⟨h1, h2⟩ := pair_key hp
    rcases h2 with h2 | h2 | h2 | h2
    · exact absurd h1 (h 0 (by omega) c h2.1 h2.2)
    · exact absurd h1 (h 1 (by omega) c h2.1 h2.2)
    · exact absurd h1 (h 2 (by omega) c h2.1 h2.2)
    · exact absurd h1 (h 3 (by omega) c h2.1 h2.2)
/-- what Pair answers -/
def pairV (o : Option Int) : Value := .tuple #[.int .i64 (o.getD 0), .bool o.isSome]

theorem pair_cases (a b : Int) : (inB a 4352 4370 = true ∧ inB b 4449 4469 = true ∧ pairN a b = some (44032 + (a - 4352) * 588 + (b - 4449) * 28)) ∨
    (inB a 4352 4370 = false ∧ inB a 44032 55203 = true ∧ (a - 44032) % 28 = 0 ∧ inB b 4520 4546 = true ∧ pairN a b = some (a + b - 4519)) ∨
    (pairN a b = pairT a b ∧ ((inB a 4352 4370 = false ∧ inB a 44032 55203 = false) ∨ (inB a 4352 4370 = true ∧ inB b 4449 4469 = false ∧ inB a 44032 55203 = false) ∨
      (inB a 4352 4370 = false ∧ inB a 44032 55203 = true ∧ ¬ (a - 44032) % 28 = 0) ∨ (inB a 4352 4370 = false ∧ inB a 44032 55203 = true ∧ (a - 44032) % 28 = 0 ∧ inB b 4520 4546 = false))) := by
  unfold pairN
  cases h1 : inB a 4352 4370 <;> cases h2 : inB b 4449 4469 <;> cases h3 : inB a 44032 55203 <;> cases h5 : inB b 4520 4546 <;> by_cases h4 : (a - 44032) % 28 = 0 <;> simp [h4]
  all_goals (have e1 := inB_le h1; have e3 := inB_le h3; omega)

set_option maxRecDepth 100000 in
set_option maxHeartbeats 2000000 in
theorem sPair (a b : Int) (w : World) :
    Calls Tryd.prog 13 #[.int .i64 a, .int .i64 b] w fun e w' => e = .returned (pairV (pairN a b)) ∧ Below w.heap.size w w' := by
  rcases pair_cases a b with ⟨g1, g2, HR⟩ | ⟨g1, g2, g3, g4, HR⟩ | ⟨HR, hc⟩
  · rw [HR]
    have ha := inB_le g1
    have hb := inB_le g2
    go_enter Tryd.func13, Tryd.ntmps13
    go_wp2_with (go_at_call 29; refine (in_any _ _ _ _).mono ?_; rintro e w' ⟨rfl, rfl⟩)
    go_ret2
    exact ⟨rfl, Below.refl _ _⟩
  · rw [HR]
    have ha := inB_le g2
    have hb := inB_le g4
    go_enter Tryd.func13, Tryd.ntmps13
    go_wp2_with (go_at_call 29; refine (in_any _ _ _ _).mono ?_; rintro e w' ⟨rfl, rfl⟩)
    go_ret2
    exact ⟨rfl, Below.refl _ _⟩
  · rw [HR]
    have HY : Hid (∀ c, partsN c = [a, b] → c ≤ 7853 → pairT a b = some c) := fun c h hc => pair_is h (by omega)
    have HN : Hid ((∀ t, t < 4 → ∀ c, pzF.getD t 0 ≤ c → c ≤ pzT.getD t 0 → partsN c ≠ [a, b]) → pairT a b = none) := fun h => pairT_none h
    have HZ : Hid (∀ t, t < 4 → 0 ≤ pzF.getD t 0 ∧ pzF.getD t 0 ≤ pzT.getD t 0 ∧ pzT.getD t 0 ≤ 7853) := pz_le
    clear HR
    generalize pairT a b = r at HY HN ⊢
    obtain ⟨f1, f2, hb0, hs0⟩ := lits_two w #[.int .i64 192, .int .i64 469, .int .i64 902, .int .i64 7840] #[.int .i64 255, .int .i64 470, .int .i64 974, .int .i64 7853] pzF pzT 4 _ rfl rfl rfl rfl (by decide) rfl
    have hx3 : inB a 44032 55203 = true → IntKind.i64.wrap (a - 44032) = a - 44032 := fun h => by have := inB_le h; rw [IntKind.wrap_i64]; omega
    rcases hc with ⟨g1, g2⟩ | ⟨g1, g2, g3⟩ | ⟨g1, g2, g3⟩ | ⟨g1, g2, g3, g4⟩
    all_goals
      (try have hw3 := hx3 g2)
      (try have ha3 := inB_le g2)
      go_enter Tryd.func13, Tryd.ntmps13
      go_wp2_with (go_at_call 29; refine (in_any _ _ _ _).mono ?_; rintro e w' ⟨rfl, rfl⟩)
      generalize (w.alloc (.cells #[.int .i64 192, .int .i64 469, .int .i64 902, .int .i64 7840] 3)).alloc (.cells #[.int .i64 255, .int .i64 470, .int .i64 974, .int .i64 7853] 3) = w2 at *
      clear hx3
      go_loopw [8] (fun i wr => ∃ k : Nat, k ≤ 4 ∧ i = .int .i64 k ∧ Hid (∀ t, t < k → ∀ c, pzF.getD t 0 ≤ c → c ≤ pzT.getD t 0 → partsN c ≠ [a, b]) ∧ Below w2.heap.size w2 wr) (fun i _ => 4 - (intOf i).toNat)
      case atStart => exact ⟨0, Nat.zero_le _, rfl, fun t ht => by omega, Below.refl _ _⟩
      case round =>
        obtain ⟨k, hk, rfl, HNE, hbel⟩ := hrel
        by_cases hlt : k < 4
        · have hc1 := (hbel.cell (p := ⟨w.heap.size, k, none⟩) (by show w.heap.size < _; omega)).trans (f1 k hlt)
          have HC2 : Hid (∀ wx, Below wr.heap.size wr wx → wx.cell? ⟨w.heap.size + 1, k, none⟩ = some (.int .i64 (pzT.getD k 0))) := fun wx h => (h.cell (p := ⟨w.heap.size + 1, k, none⟩) (by have := hbel.size; show w.heap.size + 1 < _; omega)).trans ((hbel.cell (p := ⟨w.heap.size + 1, k, none⟩) (by show w.heap.size + 1 < _; omega)).trans (f2 k hlt))
          have hz := HZ.out k hlt
          have HST : Hid ((∀ c, pzF.getD k 0 ≤ c → c ≤ pzT.getD k 0 → partsN c ≠ [a, b]) → ∀ t, t < k + 1 → ∀ c, pzF.getD t 0 ≤ c → c ≤ pzT.getD t 0 → partsN c ≠ [a, b]) := fun h t ht c h1 h2 => by
            by_cases e : t = k
            · subst e; exact h c h1 h2
            · exact HNE.out t (by omega) c h1 h2
          clear HNE f1 f2 HZ hs0
          generalize pzF.getD k 0 = x at hc1 hz HST
          generalize pzT.getD k 0 = y at HC2 hz HST
          obtain ⟨hz0, hz1, hz2⟩ := hz
          have hkn : (k : Int) < 4 := by omega
          have hk0 : (0 : Int) ≤ (k : Int) := by omega
          have HBE : Hid (Below w2.heap.size w2 wr) := hbel
          have HBW : Hid (Below w.heap.size w wr) := hb0.trans (hbel.mono hb0.size)
          have HSW : Hid (w.heap.size ≤ wr.heap.size) := HBW.out.size
          have HS2 : Hid (w2.heap.size ≤ wr.heap.size) := hbel.size
          clear hbel hb0
          obtain ⟨G, HG⟩ : ∃ G, Hid (G = w.heap.size) := ⟨_, rfl⟩
          rw [← HG.out] at hc1 HC2 HSW ⊢
          go_wp2
          go_loopw [9] (fun cv wx => ∃ c : Int, (x ≤ c ∧ c ≤ y + 1) ∧ cv = .int .i64 c ∧ Hid (∀ d, x ≤ d → d < c → partsN d ≠ [a, b]) ∧ Below wr.heap.size wr wx) (fun cv _ => (y + 1 - intOf cv).toNat)
          case atStart => exact ⟨x, ⟨by omega, by omega⟩, rfl, fun d h1 h2 => by omega, Below.refl _ _⟩
          case round =>
            obtain ⟨c, ⟨hx, hy⟩, rfl, HD, hbx⟩ := hrel
            have hc2 := HC2.out _ hbx
            by_cases hcy : c ≤ y
            · have hwc : IntKind.i64.wrap (c + 1) = c + 1 := by rw [IntKind.wrap_i64]; omega
              have HPC := sParts c wr
              have HFO : Hid (partsN c = [a, b] → r = some c) := fun h => HY.out c h (by omega)
              have HGO : Hid (partsN c ≠ [a, b] → ∀ d, x ≤ d → d < c + 1 → partsN d ≠ [a, b]) := fun h d h1 h2 => by
                by_cases e : d = c
                · subst e; exact h
                · exact HD.out d h1 (by omega)
              generalize partsN c = P at HPC HFO HGO
              clear HD
              go_wp2_with fail
              refine HPC.mono ?_
              rintro e w5 ⟨u, rfl, row, b5⟩
              have hbx5 := hbx.trans (b5.mono hbx.size)
              obtain ⟨aa, ca, rfl, hcs⟩ := row.at
              clear row HPC
              by_cases hl : P.length = 2
              · obtain ⟨p0, p1, rfl⟩ : ∃ p0 p1, P = [p0, p1] := by
                  match P, hl with
                  | [p0, p1], _ => exact ⟨p0, p1, rfl⟩
                obtain ⟨bb, o, rfl, -, c0⟩ := hcs 0 (by simp)
                obtain ⟨bb2, o2, e2, -, c1⟩ := hcs 1 (by simp)
                injection e2 with e2
                injection e2 with e3 e4
                subst e3; subst e4
                simp only [Nat.add_zero, List.getD_cons_zero, List.getD_cons_succ] at c0 c1
                simp only [List.length_cons, List.length_nil, Nat.zero_add, Nat.reduceAdd]
                clear hcs hl
                cases hq0 : (p0 == a)
                · have HK := HGO.out (fun e => by injection e with e; simp [e] at hq0)
                  go_wp2
                  go_roundw
                  case rel => exact ⟨c + 1, ⟨by omega, by omega⟩, rfl, HK, hbx5⟩
                  case measure => simp [intOf]; omega
                · cases hq1 : (p1 == b)
                  · have HK := HGO.out (fun e => by injection e with _ e; injection e with e; simp [e] at hq1)
                    go_wp2
                    go_roundw
                    case rel => exact ⟨c + 1, ⟨by omega, by omega⟩, rfl, HK, hbx5⟩
                    case measure => simp [intOf]; omega
                  · obtain rfl := HFO.out (by rw [eq_of_beq hq0, eq_of_beq hq1])
                    go_wp2
                    go_ret2
                    exact ⟨rfl, HBW.out.trans (hbx5.mono (by rw [← HG.out]; exact HSW.out))⟩
              · have hl2 : ¬ ((P.length : Int) = 2) := by omega
                have HK := HGO.out (fun e => hl (by rw [e]; rfl))
                clear hcs
                go_wp2
                go_roundw
                case rel => exact ⟨c + 1, ⟨by omega, by omega⟩, rfl, HK, hbx5⟩
                case measure => simp [intOf]; omega
            · have HK := HST.out (fun d h1 h2 => HD.out d h1 (by omega))
              go_wp2
              go_roundw
              case rel => exact ⟨k + 1, by omega, by go_num, HK, HBE.out.trans (hbx.mono HS2.out)⟩
              case measure => simp [intOf]; omega
        · obtain rfl : k = 4 := by omega
          obtain rfl := HN.out HNE.out
          go_wp2
          go_ret2
          exact ⟨rfl, hb0.trans (hbel.mono hb0.size)⟩
end

section
open Go.RowKit

theorem cmp_idx (x : List Int) : ((cmpS x).2 = -1 ∨ (0 ≤ (cmpS x).2 ∧ (cmpS x).2 < ((cmpS x).1.length : Int))) ∧ (cmpS x).1.length ≤ x.length := by
  have key : ∀ (y : List Int) (s : List Int × Int) (n : Nat), (s.2 = -1 ∨ (0 ≤ s.2 ∧ s.2 < (s.1.length : Int))) → s.1.length ≤ n →
      ((y.foldl cmpStep s).2 = -1 ∨ (0 ≤ (y.foldl cmpStep s).2 ∧ (y.foldl cmpStep s).2 < ((y.foldl cmpStep s).1.length : Int))) ∧ (y.foldl cmpStep s).1.length ≤ n + y.length := by
    intro y
    induction y with
    | nil => intro s n h hn; exact ⟨h, by simpa using hn⟩
    | cons d y ih =>
      intro s n h hn
      have hp : ((pushS s d).2 = -1 ∨ (0 ≤ (pushS s d).2 ∧ (pushS s d).2 < ((pushS s d).1.length : Int))) ∧ (pushS s d).1.length ≤ n + 1 := by
        unfold pushS
        constructor
        · split
          · right; simp; omega
          · rcases h with h | h
            · left; exact h
            · right; simp; omega
        · simp; omega
      have hs : ((cmpStep s d).2 = -1 ∨ (0 ≤ (cmpStep s d).2 ∧ (cmpStep s d).2 < ((cmpStep s d).1.length : Int))) ∧ (cmpStep s d).1.length ≤ n + 1 := by
        unfold cmpStep
        split
        · split
          · rw [List.length_set]; exact ⟨h, by omega⟩
          · exact hp
        · exact hp
      have := ih (cmpStep s d) (n + 1) hs.1 hs.2
      rw [List.length_cons]
      exact ⟨this.1, by have := this.2; show _ ≤ _; rw [List.foldl_cons]; omega⟩
  have := key x ([], -1) 0 (.inl rfl) (Nat.zero_le _)
  unfold cmpS
  exact ⟨this.1, by have := this.2; omega⟩
theorem cmp_succ (x : List Int) (k : Nat) (hk : k < x.length) : cmpS (x.take (k + 1)) = cmpStep (cmpS (x.take k)) (x.getD k 0) := by
  unfold cmpS
  rw [List.take_add_one, List.getElem?_eq_getElem hk, List.foldl_append]
  simp [List.getD, hk]
theorem apart_len9 (l : List Int) : (apartN l).length ≤ 9 * l.length := by
  unfold apartN srtN
  rw [List.length_reverse, srtR_len]
  have := flat_len takeN 9 (fun c => (takeN_ne c).2) l
  simpa using this
theorem step_free {o : List Int} {t d c : Int} (hf : freeB o t d = true) (hp : pairN (o.getD t.toNat 0) d = some c) : cmpStep (o, t) d = (o.set t.toNat c, t) := by
  unfold cmpStep; rw [if_pos hf]; dsimp only; rw [hp]
theorem step_none {o : List Int} {t d : Int} (hp : pairN (o.getD t.toNat 0) d = none) : cmpStep (o, t) d = pushS (o, t) d := by
  unfold cmpStep
  split
  · dsimp only; rw [hp]
  · rfl
theorem step_not {o : List Int} {t d : Int} (hf : freeB o t d = false) : cmpStep (o, t) d = pushS (o, t) d := by
  unfold cmpStep; rw [if_neg (by simp [hf])]

set_option maxRecDepth 100000 in
set_option maxHeartbeats 2000000 in
theorem sCompose (v : Value) (l : List Int) (w : World) (hl : l.length ≤ 1048576) (hv : IntsAt w v l) :
    Calls Tryd.prog 8 #[v] w fun e w' => ∃ u, e = .returned u ∧ IntRow w' w.heap.size u (composeN l) ∧ Below w.heap.size w w' := by
  have HA := sApart v l w hl hv
  have hx9 := apart_len9 l
  have HR : Hid (composeN l = (cmpS (apartN l)).1) := rfl
  generalize composeN l = r at HR ⊢
  generalize apartN l = x at HA hx9 HR
  have HIX := fun k => cmp_idx (x.take k)
  have HSU : Hid (∀ k, k < x.length → cmpS (x.take (k + 1)) = cmpStep (cmpS (x.take k)) (x.getD k 0)) := fun k hk => cmp_succ x k hk
  have HEN : Hid ((cmpS (x.take x.length)).1 = r) := by show _ = _; rw [List.take_length]; exact HR.out.symm
  have H0 : cmpS (x.take 0) = ([], -1) := rfl
  obtain ⟨n, HN⟩ : ∃ n, Hid (n = x.length) := ⟨_, rfl⟩
  have hn : n ≤ 9437184 := by rw [HN.out]; omega
  obtain ⟨av, cv, rfl, -⟩ := hv
  clear hx9 HR
  go_enter Tryd.func8, Tryd.ntmps8
  go_wp2_with fail
  refine HA.mono ?_
  rintro e w1 ⟨ux, rfl, rowx, b1⟩
  obtain ⟨ax, cx, rfl, hxa⟩ := rowx.at
  rw [← HN.out] at hxa HSU HEN ⊢
  clear rowx HA
  go_wp2
  go_loopw [4, 5, 6] (fun ov tv iv wr => ∃ k : Nat, k ≤ n ∧ iv = .int .i64 k ∧ IntRow wr w1.heap.size ov (cmpS (x.take k)).1 ∧ tv = .int .i64 (cmpS (x.take k)).2 ∧ Below w1.heap.size w1 wr) (fun _ _ iv _ => n - (intOf iv).toNat)
  case atStart => exact ⟨0, Nat.zero_le _, rfl, by rw [H0]; exact lit_at w1 #[] [] 0 rfl rfl (by decide), by rw [H0], below_lit _ _⟩
  case round =>
    obtain ⟨k, hk, rfl, hrow, rfl, hbel⟩ := hrel
    by_cases hlt : k < n
    · obtain ⟨bx, ox, rfl, hbx, hcx⟩ := hxa k hlt
      have HCX : Hid (∀ W, Below w1.heap.size w1 W → W.cell? ⟨bx, ox + k, none⟩ = some (.int .i64 (x.getD k 0))) := fun W h => (h.cell (p := ⟨bx, ox + k, none⟩) hbx).trans hcx
      have hS := HSU.out k hlt
      have hI := HIX k
      have hkl : (x.take k).length ≤ k := by rw [List.length_take]; exact Nat.min_le_left _ _
      generalize x.getD k 0 = d at HCX hS
      generalize cmpS (x.take k) = s at hS hI hrow ⊢
      obtain ⟨o, t⟩ := s
      dsimp only at hI hrow ⊢
      have HST : Hid (cmpS (x.take (k + 1)) = cmpStep (o, t) d) := hS
      obtain ⟨hI1, hI2⟩ := hI
      have hon : o.length ≤ 9437184 := by omega
      obtain ⟨ao, co, rfl, hoc⟩ := hrow.at
      have hcx := HCX.out _ hbel
      have HCL := sClass d wr
      have HCL2 := fun c W => sClass c W
      clear hS hcx HSU HIX HEN hkl hI2 hxa
      have hcx := HCX.out _ hbel
      go_upto_region 9 with (go_at_call 22; refine HCL.mono ?_; rintro e w2 ⟨rfl, b2⟩)
      have row2 := hrow.below b2
      have hbel2 := hbel.trans (b2.mono hbel.size)
      clear HCL hoc hcx hrow b2 hbel
      have HF : Hid (freeB o t d = (decide (0 ≤ t) && (decide (t = (o.length : Int) - 1) || (decide (0 < clsN (o.getD (o.length - 1) 0)) && decide (clsN (o.getD (o.length - 1) 0) < clsN d))))) := rfl
      obtain ⟨m, HM⟩ : ∃ m, Hid (m = (o.length : Int) - 1) := ⟨_, rfl⟩
      obtain ⟨kd, HKD⟩ : ∃ kd, Hid (kd = clsN d) := ⟨_, rfl⟩
      rw [← HM.out, ← HKD.out] at HF ⊢
      have hm1 : m < (o.length : Int) := by rw [HM.out]; omega
      have hmt : m.toNat = o.length - 1 := by rw [HM.out]; omega
      rw [← hmt] at HF
      obtain ⟨fb, HFB⟩ : ∃ fb, Hid (fb = freeB o t d) := ⟨_, rfl⟩
      rw [← HFB.out] at HF
      go_cut [9] from 15 to 82 (fun fv wx => fv = .bool fb ∧ Below w2.heap.size w2 wx)
      case first =>
        by_cases h0 : 0 ≤ t
        · have h0b : (decide (t ≥ 0)) = true := decide_eq_true h0
          have hm0 : 0 ≤ m := by rw [HM.out]; omega
          obtain ⟨ao2, co2, e2, hoc⟩ := row2.at
          injection e2 with e3 e4 e5
          subst e3; subst e5
          obtain ⟨bo, oo, rfl, hbo, hco⟩ := hoc m.toNat (by omega)
          clear hoc hmt
          rw [decide_eq_true h0, Bool.true_and] at HF
          generalize o.getD m.toNat 0 = z at hco HF
          cases h1 : (t == m)
          · have HF2 : Hid (fb = (decide (0 < clsN z) && decide (clsN z < kd))) := by
              show _ = _
              rw [HF.out, decide_eq_false (by simpa using h1), Bool.false_or]
            clear HF
            have HC1 := HCL2 z w2
            have HC2 := fun w' (h : Below w2.heap.size w2 w') => HCL2 z w'
            have hcz : ∀ w', Below w2.heap.size w2 w' → w'.cell? ⟨bo, oo + m.toNat, none⟩ = some (.int .i64 z) := fun w' h => (h.cell (p := ⟨bo, oo + m.toNat, none⟩) hbo).trans hco
            generalize clsN z = kz at HC1 HC2 HF2
            by_cases h2 : 0 < kz
            · go_wp2_with fail
              refine HC1.mono ?_
              rintro e w3 ⟨rfl, b3⟩
              have c3 := hcz w3 b3
              go_wp2_with fail
              refine (HC2 w3 b3).mono ?_
              rintro e w4 ⟨rfl, b4⟩
              by_cases h3 : kz < kd
              · go_wp2_with fail
                go_meet
                exact ⟨by rw [HF2.out]; simp [h2, h3], b3.trans (b4.mono b3.size)⟩
              · go_wp2_with fail
                go_meet
                exact ⟨by rw [HF2.out, decide_eq_false (by omega : ¬ kz < kd), Bool.and_false], b3.trans (b4.mono b3.size)⟩
            · go_wp2_with fail
              refine HC1.mono ?_
              rintro e w3 ⟨rfl, b3⟩
              go_wp2_with fail
              go_meet
              exact ⟨by rw [HF2.out, decide_eq_false (by omega : ¬ 0 < kz), Bool.false_and], b3⟩
          · obtain rfl : fb = true := by rw [HF.out, decide_eq_true (by simpa using h1), Bool.true_or]
            go_wp2_with fail
            go_meet
            exact ⟨rfl, Below.refl _ _⟩
        · obtain rfl : fb = false := by rw [HF.out, decide_eq_false h0, Bool.false_and]
          go_wp2_with fail
          go_meet
          exact ⟨rfl, Below.refl _ _⟩
      case rest =>
        obtain ⟨rfl, hbx⟩ := hcut
        have rowc := row2.below hbx
        have hbelc := hbel2.trans (hbx.mono hbel2.size)
        have hcx := HCX.out _ hbelc
        clear row2 hbx hbel2 HM hm1 hmt HCL2
        cases fb
        · have HPU : Hid (cmpStep (o, t) d = pushS (o, t) d) := step_not HFB.out.symm
          clear HF HFB HCX
          have hkz : kd = 0 ∨ ¬ kd = 0 := Classical.em _
          rcases hkz with hkz | hkz
          · go_wp2_with (at_builtin; refine append_int wc rfl (.tmp 71) (.tmp 76) rfl w1.heap.size _ o d (by omega) rowc rfl rfl hbelc.size ?_; intro v8 w8 row8 b8; obtain ⟨a8, c8, rfl, -⟩ := row8.at)
            go_roundw
            case rel => exact ⟨k + 1, by omega, by go_num, by rw [HST.out, HPU.out, show o.length + 1 = (o ++ [d]).length by simp]; exact row8, by rw [HST.out, HPU.out]; unfold pushS; rw [if_pos (by rw [← HKD.out]; exact hkz)], hbelc.trans b8⟩
            case measure => simp [intOf]; omega
          · go_wp2_with (at_builtin; refine append_int wc rfl (.tmp 71) (.tmp 76) rfl w1.heap.size _ o d (by omega) rowc rfl rfl hbelc.size ?_; intro v8 w8 row8 b8; obtain ⟨a8, c8, rfl, -⟩ := row8.at)
            go_roundw
            case rel => exact ⟨k + 1, by omega, by go_num, by rw [HST.out, HPU.out, show o.length + 1 = (o ++ [d]).length by simp]; exact row8, by rw [HST.out, HPU.out]; unfold pushS; rw [if_neg (by rw [← HKD.out]; exact hkz)], hbelc.trans b8⟩
            case measure => simp [intOf]; omega
        · have h0 : 0 ≤ t := by
            by_cases h : 0 ≤ t
            · exact h
            · have := HF.out
              rw [decide_eq_false h, Bool.false_and] at this
              cases this
          have ht : t < (o.length : Int) := by omega
          obtain ⟨ao2, co2, e2, hoc⟩ := rowc.at
          injection e2 with e3 e4 e5
          subst e3; subst e5
          obtain ⟨bo, oo, rfl, hbo, hco⟩ := hoc t.toNat (by omega)
          have HSO : Hid (∀ c, pairN (o.getD t.toNat 0) d = some c → cmpStep (o, t) d = (o.set t.toNat c, t)) := fun c h => step_free HFB.out.symm h
          have HNO : Hid (pairN (o.getD t.toNat 0) d = none → cmpStep (o, t) d = pushS (o, t) d) := fun h => step_none h
          have HPR := fun W => sPair (o.getD t.toNat 0) d W
          generalize pairN (o.getD t.toNat 0) d = po at HSO HNO HPR
          generalize o.getD t.toNat 0 = z at hco HPR
          unfold pairV at HPR
          clear HF HFB HCX hoc e4 hI1
          go_upto_region 11 with fail
          go_cut [10, 11] from 15 to 82 (fun cv bv wx => cv = .int .i64 (po.getD 0) ∧ bv = .bool po.isSome ∧ Below wc.heap.size wc wx)
          case first =>
            go_region_with (go_at_call 13; refine (HPR _).mono ?_; rintro e w5 ⟨rfl, b5⟩)
            all_goals (try go_wp2_with fail)
            all_goals go_meet
            all_goals exact ⟨rfl, rfl, ⟨b5.os, b5.tape, b5.output, b5.size, b5.block⟩⟩
          case rest =>
            obtain ⟨rfl, rfl, hby⟩ := hcut
            have rowy := rowc.below hby
            have hbely := hbelc.trans (hby.mono hbelc.size)
            have hcy := (hby.cell (p := ⟨bx, ox + k, none⟩) (Nat.lt_of_lt_of_le hbx hbelc.size)).trans hcx
            clear rowc hcx hco HPR hby
            cases po with
            | none =>
              have HPU : Hid (cmpStep (o, t) d = pushS (o, t) d) := HNO.out rfl
              clear HNO HSO
              have hkz : kd = 0 ∨ ¬ kd = 0 := Classical.em _
              rcases hkz with hkz | hkz
              · go_wp2_with (at_builtin; refine append_int wc rfl (.tmp 71) (.tmp 76) rfl w1.heap.size _ o d (by omega) rowy rfl rfl hbely.size ?_; intro v8 w8 row8 b8; obtain ⟨a8, c8, rfl, -⟩ := row8.at)
                go_roundw
                case rel => exact ⟨k + 1, by omega, by go_num, by rw [HST.out, HPU.out, show o.length + 1 = (o ++ [d]).length by simp]; exact row8, by rw [HST.out, HPU.out]; unfold pushS; rw [if_pos (by rw [← HKD.out]; exact hkz)], hbely.trans b8⟩
                case measure => simp [intOf]; omega
              · go_wp2_with (at_builtin; refine append_int wc rfl (.tmp 71) (.tmp 76) rfl w1.heap.size _ o d (by omega) rowy rfl rfl hbely.size ?_; intro v8 w8 row8 b8; obtain ⟨a8, c8, rfl, -⟩ := row8.at)
                go_roundw
                case rel => exact ⟨k + 1, by omega, by go_num, by rw [HST.out, HPU.out, show o.length + 1 = (o ++ [d]).length by simp]; exact row8, by rw [HST.out, HPU.out]; unfold pushS; rw [if_neg (by rw [← HKD.out]; exact hkz)], hbely.trans b8⟩
                case measure => simp [intOf]; omega
            | some c =>
              have HPU : Hid (cmpStep (o, t) d = (o.set t.toNat c, t)) := HSO.out c rfl
              clear HNO HSO
              rcases rowy.2 with ⟨e, h0'⟩ | ⟨g, cap, cur, e, hg, hh, -⟩
              · exact absurd h0' (by omega)
              injection e with e1 e2 e3
              injection e1 with e1
              injection e1 with e1 e4
              subst e1; subst e3; subst e4
              have rowz : wc.ownsRow w1.heap.size 3 1 (.slice (some ⟨bo, 0, none⟩) o.length co) o.length (intsV o) := rowy
              have hfz := rowz.frozenAt t.toNat
              obtain ⟨u0, hcl⟩ : ∃ u0, wc.cell? ⟨bo, t.toNat, none⟩ = some u0 := ⟨_, (rowz.cellAt t.toNat (by omega)).trans (List.getElem?_eq_getElem (by have := rowz.1; omega))⟩
              have HS : Hid (IntRow (wc.setCell ⟨bo, t.toNat, none⟩ (.int .i64 c)) w1.heap.size (.slice (some ⟨bo, 0, none⟩) o.length co) (o.set t.toNat c)) := by
                have := (rowz.stored t.toNat (.int .i64 c)).1
                show World.ownsRow _ _ _ _ _ _ _
                rw [List.length_set, show intsV (o.set t.toNat c) = (intsV o).set t.toNat (.int .i64 c) by simp [intsV, List.map_set]]
                exact this
              have HB : Hid (Below w1.heap.size w1 (wc.setCell ⟨bo, t.toNat, none⟩ (.int .i64 c))) := hbely.grown (gbi_set wc bo t.toNat (.int .i64 c)) hbely.size (fun q hq => by injection hq with hq; omega)
              clear rowy rowz hh
              go_wp2
              go_roundw
              case rel => exact ⟨k + 1, by omega, by go_num, by rw [HST.out, HPU.out]; exact HS.out, by rw [HST.out, HPU.out], HB.out⟩
              case measure => simp [intOf]; omega
    · obtain rfl : k = n := by omega
      rw [HEN.out] at hrow
      go_wp2
      go_ret
      exact ⟨_, rfl, hrow.mono b1.size, b1.trans (hbel.mono b1.size)⟩
end

end Go.Proofs.YtkgnlamlmnhleaaDoor
