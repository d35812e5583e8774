/- Signs put together: what Pair comes to. No word of the program. Names in order: the units of a name's key, and a star behind a name. No word of the program. Names in order: spec.l14Key and spec.Order. -/
import Derived.Test.YtlkemmdcjnaepaaDoorRows
import Derived.Test.YtlkemmdcjnaepaaDoorG00
import Derived.Test.YtlkemmdcjnaepaaDoorG09
import Derived.Test.YtlkemmdcjnaepaaDoorG10
import Derived.Test.YtlkemmdcjnaepaaDoorG19
import Derived.Test.YtlkemmdcjnaepaaDoorG24
namespace Go.Proofs.YtlkemmdcjnaepaaDoor

section
/-- the sign whose two parts they are, by the table -/
def pairT (a b : Int) : Option Int := (pTab.find? fun r => r.2.1 == a && (r.2.2 == b && r.2.2 != 0)).map (·.1)
def pairN (a b : Int) : Option Int :=
  if inB a 4352 4370 && inB b 4449 4469 then some (44032 + (a - 4352) * 588 + (b - 4449) * 28)
  else if inB a 44032 55203 && (decide ((a - 44032) % 28 = 0) && inB b 4520 4546) then some (a + b - 4519)
  else pairT a b

theorem ptab_two : ∀ r ∈ pTab, r.2.2 ≠ 0 → partsN r.1 = [r.2.1, r.2.2] ∧ ((192 ≤ r.1 ∧ r.1 ≤ 255) ∨ (469 ≤ r.1 ∧ r.1 ≤ 470) ∨ (902 ≤ r.1 ∧ r.1 ≤ 974) ∨ (7840 ≤ r.1 ∧ r.1 ≤ 7853)) := by decide
theorem ptab_one : ∀ r ∈ pTab, r.2.2 = 0 → (partsN r.1).length ≠ 2 := by decide
theorem pair_key {a b c : Int} (h : pairT a b = some c) : partsN c = [a, b] ∧ ((192 ≤ c ∧ c ≤ 255) ∨ (469 ≤ c ∧ c ≤ 470) ∨ (902 ≤ c ∧ c ≤ 974) ∨ (7840 ≤ c ∧ c ≤ 7853)) := by
  unfold pairT at h
  obtain ⟨r, hr, rfl⟩ := Option.map_eq_some_iff.1 h
  have hp := List.find?_some hr
  have hm := List.mem_of_find?_eq_some hr
  simp only [Bool.and_eq_true, beq_iff_eq, bne_iff_ne] at hp
  have := ptab_two r hm hp.2.2
  rw [hp.1, hp.2.1] at this
  exact this
set_option maxRecDepth 100000 in
theorem ptab_uniq : ∀ r ∈ pTab, ∀ q ∈ pTab, r.2 = q.2 → r.1 = q.1 := by decide
theorem pair_is {a b c : Int} (h : partsN c = [a, b]) (hc : c < 44032) : pairT a b = some c := by
  rcases partsN_cases c with ⟨j, hj, rfl⟩ | ⟨h1, h2, _⟩ | h0
  · have hm : pRow j ∈ pTab := by rw [pTab_range]; exact List.mem_map.2 ⟨j, List.mem_range.2 hj, rfl⟩
    have hz : (pRow j).2.2 ≠ 0 := fun e => ptab_one _ hm e (by rw [h]; rfl)
    have h2 := (ptab_two _ hm hz).1
    rw [h] at h2
    injection h2 with e1 e2
    injection e2 with e2 _
    unfold pairT
    cases hf : pTab.find? fun r => r.2.1 == a && (r.2.2 == b && r.2.2 != 0) with
    | none =>
      have := List.find?_eq_none.1 hf _ hm
      rw [e1, e2] at this
      exact absurd (by simp [hz]) this
    | some r =>
      have hp := List.find?_some hf
      have hr := List.mem_of_find?_eq_some hf
      simp only [Bool.and_eq_true, beq_iff_eq, bne_iff_ne] at hp
      show some r.1 = _
      rw [ptab_uniq r hr _ hm (Prod.ext (by rw [hp.1, e1]) (by rw [hp.2.1, e2]))]
  · omega
  · rw [h] at h0; cases h0

theorem keys_low : ∀ x ∈ keysAll, x < 44032 := by decide
theorem parts_han (c : Int) (h0 : 44032 ≤ c) (h1 : c ≤ 55203) : partsN c = hanN c := by
  rw [partsN_rest c fun h => by have := keys_low c h; omega, inB_mk h0 h1]; rfl
theorem take1_of_parts (c a : Int) (h : a ∈ partsN c) : take1 a = takeN a := by
  by_cases e : partsN a = []
  · rw [take1_leaf a e, takeN_leaf a e]
  · have key : ∀ l : List Int, (∀ x ∈ l, partsN x = []) → l.flatMap take1 = l := by
      intro l
      induction l with
      | nil => intro _; rfl
      | cons x l ih => intro hl; rw [List.flatMap_cons, take1_leaf x (hl x (by simp)), ih fun y hy => hl y (by simp [hy])]; rfl
    have k1 : ∀ l : List Int, l.flatMap (fun d => [d]) = l := by
      intro l
      induction l with
      | nil => rfl
      | cons x l ih => rw [List.flatMap_cons, ih]; rfl
    unfold take1 takeN takeBy
    rw [if_neg e, if_neg e, key _ fun x hx => parts_two c a x h hx, k1]
theorem takeN_parts (c : Int) (h : partsN c ≠ []) : takeN c = (partsN c).flatMap takeN := by
  have key : ∀ l : List Int, (∀ x ∈ l, x ∈ partsN c) → l.flatMap take1 = l.flatMap takeN := by
    intro l
    induction l with
    | nil => intro _; rfl
    | cons x l ih => intro hl; rw [List.flatMap_cons, List.flatMap_cons, take1_of_parts c x (hl x (by simp)), ih fun y hy => hl y (by simp [hy])]
  rw [show takeN c = (partsN c).flatMap take1 by unfold takeN takeBy; rw [if_neg h]]
  exact key _ fun x hx => hx
theorem takeN_jamo (d : Int) (h0 : 4352 ≤ d) (h1 : d ≤ 4546) : takeN d = [d] := takeN_leaf d (partsN_jamo d h0 h1)

/-- a sign that two make is taken apart to what both are -/
theorem pair_take {a b c : Int} (h : pairN a b = some c) : takeN c = takeN a ++ takeN b := by
  unfold pairN at h
  split at h
  · rename_i hc
    simp only [Bool.and_eq_true] at hc
    have ha := inB_le hc.1
    have hb := inB_le hc.2
    injection h with h
    subst h
    have hp : partsN (44032 + (a - 4352) * 588 + (b - 4449) * 28) = [a, b] := by
      rw [parts_han _ (by omega) (by omega)]
      unfold hanN
      rw [if_neg (by omega)]
      congr 1
      · omega
      · congr 1; omega
    rw [takeN_parts _ (by rw [hp]; simp), hp]
    simp
  · split at h
    · rename_i hc
      simp only [Bool.and_eq_true, decide_eq_true_eq] at hc
      have ha := inB_le hc.1
      have hb := inB_le hc.2.2
      have hd := hc.2.1
      injection h with h
      subst h
      have hp : partsN (a + b - 4519) = [4352 + (a - 44032) / 588, 4449 + (a - 44032) % 588 / 28, b] := by
        rw [parts_han _ (by omega) (by omega)]
        unfold hanN
        rw [if_pos (by omega)]
        congr 1
        · omega
        · congr 1
          · omega
          · congr 1; omega
      have hq : partsN a = [4352 + (a - 44032) / 588, 4449 + (a - 44032) % 588 / 28] := by
        rw [parts_han _ (by omega) (by omega)]
        unfold hanN
        rw [if_neg (by omega)]
      rw [takeN_parts _ (by rw [hp]; simp), hp, takeN_parts a (by rw [hq]; simp), hq]
      simp
    · have hp := (pair_key h).1
      rw [takeN_parts _ (by rw [hp]; simp), hp]
      simp
theorem pair_apart {a b c : Int} (h : pairN a b = some c) : apartN [c] = apartN [a, b] := by
  unfold apartN
  simp [pair_take h]
end

section
theorem rows_sgn : ∀ j, j < 75 → ∀ y ∈ takeN (pRow j).1, sgnB y = true ∧ y ≠ 42 ∧ y ≠ 63 := by decide
theorem takeN_in {c y : Int} (hy : y ∈ takeN c) : y = c ∨ (sgnB y = true ∧ y ≠ 42 ∧ y ≠ 63) := by
  rcases partsN_cases c with ⟨j, hj, rfl⟩ | ⟨h0, h1, hp⟩ | hp
  · exact .inr (rows_sgn j hj y hy)
  · right
    have hne : partsN c ≠ [] := by rw [hp]; unfold hanN; split <;> simp
    rw [takeN_parts c hne, hp] at hy
    obtain ⟨d, hd, hyd⟩ := List.mem_flatMap.1 hy
    obtain ⟨b0, b1⟩ := hanN_bd c d h0 h1 hd
    rw [takeN_jamo d b0 b1, List.mem_singleton] at hyd
    subst hyd
    refine ⟨?_, by omega, by omega⟩
    simp [sgnB, inB]; omega
  · rw [takeN_leaf c hp, List.mem_singleton] at hy
    exact .inl hy
theorem foldN_in {x y : Int} (hy : y ∈ foldN x) : y = x ∨ (sgnB y = true ∧ y ≠ 42 ∧ y ≠ 63) := by
  unfold foldN at hy
  split at hy
  · rename_i hu
    have := upB_le x hu
    rw [List.mem_singleton] at hy
    subst hy
    right
    refine ⟨?_, by omega, by omega⟩
    simp [sgnB, inB]; omega
  · split at hy
    · right
      have : y = 115 := by simpa using hy
      subst this; decide
    · split at hy
      · right
        rw [List.mem_singleton] at hy
        subst hy; decide
      · rw [List.mem_singleton] at hy; exact .inl hy
theorem keyL_in {l : List Int} {y : Int} (hy : y ∈ keyL l) : y ∈ l ∨ (sgnB y = true ∧ y ≠ 42 ∧ y ≠ 63) := by
  unfold keyL at hy
  obtain ⟨c, hc, h1⟩ := (apartN_mem _ y).1 hy
  rcases takeN_in h1 with rfl | h1
  · unfold foldsN at hc
    obtain ⟨d, hd, h2⟩ := List.mem_flatMap.1 hc
    rcases foldN_in h2 with rfl | h2
    · obtain ⟨e, he, h3⟩ := (apartN_mem _ y).1 hd
      rcases takeN_in h3 with rfl | h3
      · exact .inl he
      · exact .inr h3
    · exact .inr h2
  · exact .inr h1
theorem keyL_sgn {l : List Int} (h : l.all sgnB = true) : (keyL l).all sgnB = true := by
  rw [List.all_eq_true] at h ⊢
  intro y hy
  rcases keyL_in hy with h1 | h1
  · exact h y h1
  · exact h1.1
theorem dec_enc' {l : List Int} (h : l.all sgnB = true) : decN ⟨(encN l).toArray⟩ = some l := by
  by_cases e : l = []
  · subst e; rfl
  · refine dec_enc l ?_
    unfold encN
    rw [if_pos h]
    intro h0
    have := encs_ge l
    rw [h0] at this
    exact e (List.length_eq_zero_iff.1 (by simpa using this))
theorem dec_sgn {s : ByteArray} {l : List Int} (h : decN s = some l) : l.all sgnB = true := by
  have := enc_dec s l h
  by_cases hs : l.all sgnB = true
  · exact hs
  · unfold decN at h
    exact (enc_decF s _ _ l h).1
/-- the units of a name's key -/
def un14 (s : ByteArray) : List (List Int) := unitsN ((decN (key14 s)).getD [])
theorem un14_name {s : ByteArray} {l : List Int} (h : nameL s = some l) : un14 s = unitsN (keyL l) := by
  unfold un14 key14
  rw [keyN_some h, if_pos rfl, dec_enc' (keyL_sgn (dec_sgn (nameL_some h).1))]
  rfl
theorem un14_alike {a b : ByteArray} (h : alikeB a b = true) : un14 a = un14 b := by unfold un14; rw [(alike_key14 h).2.2]
def startsN (n p : ByteArray) : Bool := (nameL n).isSome && ((nameL p).isSome && (un14 p).isPrefixOf (un14 n))
def globN (p n : ByteArray) : Bool := (nameL p).isSome && ((nameL n).isSome && fitsN (un14 p) (un14 n))
theorem glob_self {n : ByteArray} (h : (nameL n).isSome = true) : globN n n = true := by unfold globN; rw [h, fits_self]; rfl
theorem glob_alike {p n m : ByteArray} (h : alikeB n m = true) : globN p m = globN p n := by
  obtain ⟨h1, h2, _⟩ := alike_key14 h
  unfold globN
  rw [h1, h2, un14_alike h]

theorem srt_star (l : List Int) : srtN (l ++ [42]) = srtN l ++ [42] := by
  unfold srtN
  rw [srtR_append]
  show (insR 42 (srtR [] l)).reverse = _
  have : ∀ r, insR 42 r = 42 :: r := fun r => by
    cases r with
    | nil => rfl
    | cons z p => exact insR_neg (fun h => by have : clsN (42 : Int) = 0 := by decide
                                              unfold past at h; omega) p
  rw [this, List.reverse_cons]
theorem apart_star (l : List Int) : apartN (l ++ [42]) = apartN l ++ [42] := by
  unfold apartN
  rw [List.flatMap_append, show ([42] : List Int).flatMap takeN = [42] by decide, srt_star]
theorem key_star (l : List Int) : keyL (l ++ [42]) = keyL l ++ [42] := by
  unfold keyL
  rw [apart_star, show foldsN (apartN l ++ [42]) = foldsN (apartN l) ++ [42] by unfold foldsN; rw [List.flatMap_append]; congr 1, apart_star]
theorem units_star (l : List Int) : unitsN (l ++ [42]) = unitsN l ++ [[42]] :=
  (units_uniq _ _ ((units_right l).more 42 [] rfl (fun x hx => by cases hx) (fun _ => by decide))).symm
theorem name_star {s : ByteArray} {l : List Int} (h : nameL s = some l) (h2 : (nameL (s ++ ⟨#[42]⟩)).isSome = true) : nameL (s ++ ⟨#[42]⟩) = some (l ++ [42]) := by
  have hs := dec_sgn (nameL_some h).1
  have he := enc_dec s l (nameL_some h).1
  have e : s ++ ⟨#[42]⟩ = ⟨(encN (l ++ [42])).toArray⟩ := by
    rw [← he]
    have h42 : (l ++ [42]).all sgnB = true := by rw [List.all_append, hs]; decide
    unfold encN
    rw [if_pos hs, if_pos h42, encs_snoc]
    apply ByteArray.ext
    simp
    rfl
  rw [e] at h2 ⊢
  exact name_enc h2
theorem un14_star {s : ByteArray} (h : (nameL s).isSome = true) (h2 : (nameL (s ++ ⟨#[42]⟩)).isSome = true) : un14 (s ++ ⟨#[42]⟩) = un14 s ++ [[42]] := by
  obtain ⟨l, hl⟩ := Option.isSome_iff_exists.1 h
  rw [un14_name hl, un14_name (name_star hl h2), key_star, units_star]
theorem byte_of_sign {s : ByteArray} {l : List Int} (h : decN s = some l) (c : Int) (h1 : c < 128) (hc : c ∈ l) : b8 c ∈ s.data.toList := by
  have hs := dec_sgn h
  have he := enc_dec s l h
  rw [← he]
  unfold encN
  rw [if_pos hs]
  show b8 c ∈ encs l
  unfold encs
  refine List.mem_flatMap.2 ⟨c, hc, ?_⟩
  have : encOne c = [c] := by unfold encOne; rw [if_pos (by omega)]
  rw [this]
  simp [b8s]
theorem plain_units {s : ByteArray} (h : (nameL s).isSome = true) (hp : ∀ x ∈ s.data.toList, x ≠ 42 ∧ x ≠ 63) : [42] ∉ un14 s ∧ [63] ∉ un14 s := by
  obtain ⟨l, hl⟩ := Option.isSome_iff_exists.1 h
  rw [un14_name hl]
  have key : ∀ c : Int, (c = 42 ∨ c = 63) → [c] ∉ unitsN (keyL l) := fun c hc hm => by
    have h1 : c ∈ keyL l := by
      rw [← (units_right (keyL l)).all]
      exact List.mem_flatten.2 ⟨[c], hm, by simp⟩
    rcases keyL_in h1 with h2 | h2
    · have := hp _ (byte_of_sign (nameL_some hl).1 c (by omega) h2)
      rcases hc with rfl | rfl
      · exact this.1 (by decide)
      · exact this.2 (by decide)
    · rcases hc with rfl | rfl
      · exact h2.2.1 rfl
      · exact h2.2.2 rfl
  exact ⟨key 42 (.inl rfl), key 63 (.inr rfl)⟩
/-- with a star at its end it fits what begins so -/
theorem glob_star {s n : ByteArray} (h : (nameL s).isSome = true) (h2 : (nameL (s ++ ⟨#[42]⟩)).isSome = true) (hp : ∀ x ∈ s.data.toList, x ≠ 42 ∧ x ≠ 63) : globN (s ++ ⟨#[42]⟩) n = startsN n s := by
  obtain ⟨p1, p2⟩ := plain_units h hp
  unfold globN startsN
  rw [h, h2, un14_star h h2, fits_star _ _ p1 p2]
  cases (nameL n).isSome <;> rfl
end

section
open Go.RowKit

set_option maxRecDepth 100000 in
theorem l14Key_any (s : ByteArray) (w : World) (hs : s.size ≤ 1048576) :
    Calls Tryd.prog 43 #[.string s] w fun e w' => e = .returned (.string (key14 s)) ∧ Below w.heap.size w w' := by
  have HK := sKeyOf s w hs
  have HE : Hid (key14 s = if (keyN s).2 then (keyN s).1 else s) := rfl
  generalize key14 s = r at HE ⊢
  generalize (keyN s).1 = k at HK HE
  generalize (keyN s).2 = q at HK HE
  go_enter Tryd.func43, Tryd.ntmps43
  cases q
  · obtain rfl : r = s := HE.out
    go_wp2_with fail
    refine HK.mono ?_
    rintro e w1 ⟨rfl, b1⟩
    go_wp2
    go_ret
    exact ⟨rfl, b1⟩
  · obtain rfl : r = k := HE.out
    go_wp2_with fail
    refine HK.mono ?_
    rintro e w1 ⟨rfl, b1⟩
    go_wp2
    go_ret
    exact ⟨rfl, b1⟩
theorem key14_size (s : ByteArray) (hs : s.size ≤ 1048576) : (key14 s).size ≤ 1048576 := by
  unfold key14
  split
  · exact keyN_size s
  · exact hs
theorem key14_eq {a b : ByteArray} (h : (a.toList == b.toList) = true) : ((key14 a).toList == (key14 b).toList) = true := by
  obtain rfl : a = b := toList_inj (by simpa using h)
  simp

set_option maxRecDepth 100000 in
set_option maxHeartbeats 1000000 in
theorem sOrder (a b : ByteArray) (w : World) (ha : a.size ≤ 1048576) (hb : b.size ≤ 1048576) :
    Calls Tryd.prog 18 #[.string a, .string b] w fun e w' => e = .returned (.int .i64 (ordN a b)) ∧ Below w.heap.size w w' := by
  have K1 := l14Key_any a w ha
  have K2 := fun W => l14Key_any b W hb
  have HQ := @key14_eq a b
  have HE : Hid (ordN a b = if (Op.bytesLess (key14 a).toList (key14 b).toList || ((key14 a).toList == (key14 b).toList && Op.bytesLess a.toList b.toList)) then -1 else if a.toList == b.toList then 0 else 1) := rfl
  generalize ordN a b = r at HE ⊢
  generalize key14 a = x at *
  generalize key14 b = y at *
  obtain ⟨q1, h1⟩ : ∃ q, Op.bytesLess x.toList y.toList = q := ⟨_, rfl⟩
  obtain ⟨q2, h2⟩ : ∃ q, (x.toList == y.toList) = q := ⟨_, rfl⟩
  obtain ⟨q3, h3⟩ : ∃ q, Op.bytesLess a.toList b.toList = q := ⟨_, rfl⟩
  obtain ⟨q4, h4⟩ : ∃ q, (a.toList == b.toList) = q := ⟨_, rfl⟩
  rw [h1, h2, h3, h4] at HE
  rw [h2, h4] at HQ
  go_enter Tryd.func18, Tryd.ntmps18
  go_wp2_with fail
  refine K1.mono ?_
  rintro e w1 ⟨rfl, b1⟩
  go_wp2_with fail
  refine (K2 w1).mono ?_
  rintro e w2 ⟨rfl, b2⟩
  have B2 := b1.trans (b2.mono b1.size)
  clear K1 K2 b1 b2
  cases q1
  · cases q2
    · have e4 : q4 = false := by cases q4 with | false => rfl | true => exact absurd (HQ rfl) (by decide)
      subst e4
      obtain rfl : r = 1 := HE.out
      go_wp2
      go_ret
      exact ⟨rfl, B2⟩
    · cases q3
      · cases q4
        · obtain rfl : r = 1 := HE.out
          go_wp2
          go_ret
          exact ⟨rfl, B2⟩
        · obtain rfl : r = 0 := HE.out
          go_wp2
          go_ret
          exact ⟨rfl, B2⟩
      · obtain rfl : r = -1 := HE.out
        go_wp2
        go_ret
        exact ⟨rfl, B2⟩
  · obtain rfl : r = -1 := HE.out
    go_wp2
    go_ret
    exact ⟨rfl, B2⟩

set_option maxRecDepth 100000 in
theorem wOrder (a b : ByteArray) (w : World) (ha : a.size ≤ 9223372036854775807) (hb : b.size ≤ 9223372036854775807)
    (hI : a.size ≤ 1048576 → b.size ≤ 1048576 → ∀ w', Below w.heap.size w w' → Calls Tryd.prog 14 #[.string a, .string b] w' fun e w'' => e = .returned (.int .i64 (ordN a b)) ∧ Below w'.heap.size w' w'') :
    Calls Tryd.prog 5 #[.string a, .string b] w fun e w' => e = .returned (.bool true) ∧ Below w.heap.size w w' := by
  by_cases h1 : (1048576 : Int) < a.size
  · go_enter Tryd.func5, Tryd.ntmps5
    go_wp2
    go_ret
    exact ⟨rfl, Below.refl _ _⟩
  by_cases h2 : (1048576 : Int) < b.size
  · go_enter Tryd.func5, Tryd.ntmps5
    go_wp2
    go_ret
    exact ⟨rfl, Below.refl _ _⟩
  have hS := sOrder a b w (by omega) (by omega)
  have hI' := hI (by omega) (by omega)
  generalize ordN a b = r at hS hI'
  have hr : (r == r) = true := by simp
  go_enter Tryd.func5, Tryd.ntmps5
  go_wp2_with fail
  refine hS.mono ?_
  rintro e w1 ⟨rfl, b1⟩
  go_wp2_with fail
  refine (hI' w1 b1).mono ?_
  rintro e w2 ⟨rfl, b2⟩
  go_wp2
  go_ret
  exact ⟨rfl, b1.trans (b2.mono b1.size)⟩
end

end Go.Proofs.YtlkemmdcjnaepaaDoor
