/- Names: a row behind a row; spec.l4Take, spec.Fold: what they answer. Names: taken apart, folded, and both: what they come to. No word of the program. Names: spec.l4Take and spec.Fold: their contracts. Names: spec.Fold: its contract. Names: spec.Apart: its contract. -/
import Derived.Test.YtpijjinoeghgoaaGreatDoorRows
import Derived.Test.YtpijjinoeghgoaaGreatDoorMa
import Derived.Test.YtpijjinoeghgoaaGreatDoorMb
import Derived.Test.YtpijjinoeghgoaaGreatDoorMc
import Derived.Test.YtpijjinoeghgoaaGreatDoorMd
import Derived.Lib.QuietBelow
import Derived.BigQuiet
namespace Go.Proofs.YtpijjinoeghgoaaGreatDoor

section
open Go.RowKit

/-- 'append(out, x...)', out a row of the call's own, x a row of integers that is not empty -/
theorem append_ints (w : World) {ops : Array Oper} {rest : List Oper} {o : Oper} {a : Act} {Q : Exit → Act → World → Prop} (hgd : o.guard = none) (s x : Operand)
    (ho : o.op = .call { callee := .builtin .append, args := #[s, x], argTypes := #[51, 51] }) (base : Nat)
    (v u : Value) (l m : List Int) (hm : m ≠ []) (hl : l.length + m.length ≤ 1099511627776) (hown : IntRow w base v l) (hu : IntsAt w u m) (hs : a.eval s = v) (hx : a.eval x = u)
    (hbase : base ≤ w.heap.size)
    (h : ∀ v' w', IntRow w' base v' (l ++ m) → Below base w w' → wpList Tryz.prog ops Q rest (a.put o.dst v') w') :
    wpList Tryz.prog ops Q (o :: rest) a w := by
  obtain ⟨i0, hi, hz0, hz1, hz2⟩ := info_parts Tryz.infoInt
  obtain ⟨ad, cap, rfl, hc⟩ := hu
  have hpos : 0 < m.length := List.length_pos_iff.2 hm
  obtain ⟨b, off, rfl, hb, _⟩ := hc 0 hpos
  have hcl : ∀ j y, (intsV m)[j]? = some y → w.cell? ((⟨b, off, none⟩ : Addr).add j) = some y := by
    intro j y hy
    have hj : j < m.length := by
      have := (List.getElem?_eq_some_iff.1 hy).1
      simpa [intsV] using this
    obtain ⟨b1, off1, e, _, hcj⟩ := hc j hj
    cases e
    rw [Addr.add_lit, hcj, ← hy, intsV_get m j hj]
  have hlen : (intsV m).length = m.length := by simp [intsV]
  refine wpList_append_own _ hgd s x 51 ho base 3 i0 (.int .i64 0) 1 8 Tryz.underlying51 hi hz0 hz1 hz2 rfl (by decide) v l.length (intsV l) hs hown ⟨b, off, none⟩ m.length cap (intsV m) hx (by rw [hlen]; omega) hcl ?_ (by unfold maxLen; omega) (by omega) hbase ?_
  · intro y hy
    simp only [intsV] at hy
    obtain ⟨z, _, rfl⟩ := List.mem_map.1 hy
    rfl
  · intro v' w' hown' hgrow _
    refine h v' w' ?_ ?_
    · unfold IntRow
      rw [intsV_append, List.length_append]
      exact hown'
    · refine (Below.refl base w).grown hgrow hbase ?_
      intro k hk
      exact (World.ownsRow.lt hown k hk).1

/-- what is left of c, taken apart: of its parts, by tk -/
def takeBy (tk : Int → List Int) (c : Int) : List Int := if partsN c = [] then [c] else (partsN c).flatMap tk

def TakeSays (c : Int) (l : List Int) : Prop :=
  ∀ w, Calls Tryz.prog 105 #[.int .i64 c] w fun e w' => ∃ v, e = .returned v ∧ IntRow w' w.heap.size v l ∧ Below w.heap.size w w'

theorem flatMap_take (l : List Int) (tk : Int → List Int) (k : Nat) (h : k < l.length) : (l.take (k + 1)).flatMap tk = (l.take k).flatMap tk ++ tk (l.getD k 0) := by
  have e : l.take (k + 1) = l.take k ++ [l.getD k 0] := by
    rw [List.take_add_one, List.getElem?_eq_getElem h]; simp [List.getD, h]
  rw [e, List.flatMap_append]
  simp

/-! signs that are taken apart, and what they come to -/
theorem partsN_cases (c : Int) : (∃ j, j < 75 ∧ c = (pRow j).1) ∨ (44032 ≤ c ∧ c ≤ 55203 ∧ partsN c = hanN c) ∨ partsN c = [] := by
  by_cases h : c ∈ keysAll
  · left
    obtain ⟨x, hx, rfl⟩ := List.mem_map.1 h
    rw [pTab_range] at hx
    obtain ⟨j, hj, rfl⟩ := List.mem_map.1 hx
    exact ⟨j, List.mem_range.1 hj, rfl⟩
  · right
    cases h2 : inB c 44032 55203
    · right; rw [partsN_rest c h, h2]; rfl
    · left
      have hb := inB_le h2
      exact ⟨hb.1, hb.2, by rw [partsN_rest c h, h2]; rfl⟩
theorem keys_gap : ∀ x ∈ keysAll, x < 4352 ∨ 4546 < x := by decide
theorem partsN_jamo (d : Int) (h0 : 4352 ≤ d) (h1 : d ≤ 4546) : partsN d = [] := by
  rw [partsN_rest d (fun hd => by have := keys_gap d hd; omega), if_neg (by simp [inB]; omega)]
theorem hanN_bd (c d : Int) (h0 : 44032 ≤ c) (h1 : c ≤ 55203) (hd : d ∈ hanN c) : 4352 ≤ d ∧ d ≤ 4546 := by
  unfold hanN at hd
  split at hd
  · simp at hd; omega
  · simp at hd; omega
set_option maxRecDepth 100000 in
theorem rows_two : ∀ j, j < 75 → ∀ d ∈ partsN (pRow j).1, ∀ e ∈ partsN d, partsN e = [] := by decide
/-- parts of parts of parts there are none -/
theorem parts_two (c d e : Int) (hd : d ∈ partsN c) (he : e ∈ partsN d) : partsN e = [] := by
  rcases partsN_cases c with ⟨j, hj, rfl⟩ | ⟨h0, h1, hh⟩ | h
  · exact rows_two j hj d hd e he
  · rw [hh] at hd
    have hb := hanN_bd c d h0 h1 hd
    rw [partsN_jamo d hb.1 hb.2] at he
    cases he
  · rw [h] at hd; cases hd

def take1 (c : Int) : List Int := takeBy (fun d => [d]) c
def takeN (c : Int) : List Int := takeBy take1 c


theorem partsN_le (a0 : Int) : (partsN a0).length ≤ 3 := by
  have hp : ∀ l : List Int, (partsOf l).length ≤ l.length := fun l => List.length_filter_le _ _
  cases h1 : inB a0 44032 55203
  · cases h2 : inB a0 192 8491
    · rw [partsN_out a0 h2 h1]; simp
    · rw [partsN_tabl a0 h2]; exact Nat.le_trans (hp _) (by simp)
  · have hb := inB_le h1
    rw [partsN_rest a0 (fun hc => by have := keys_bd a0 hc; omega), h1, if_pos rfl, ← han_parts a0 hb.1]; exact Nat.le_trans (hp _) (by simp)
theorem take1_le (c : Int) : take1 c ≠ [] ∧ (take1 c).length ≤ 3 := by
  unfold take1 takeBy
  split
  · simp
  · rename_i hne
    have e : (partsN c).flatMap (fun d => [d]) = partsN c := by simp
    rw [e]
    exact ⟨hne, partsN_le c⟩
theorem take1_ne (c : Int) : take1 c ≠ [] ∧ (take1 c).length ≤ 9 := ⟨(take1_le c).1, Nat.le_trans (take1_le c).2 (by decide)⟩
theorem takeN_ne (c : Int) : takeN c ≠ [] ∧ (takeN c).length ≤ 9 := by
  unfold takeN takeBy
  split
  · simp
  · rename_i hne
    constructor
    · intro hf
      cases hl : partsN c with
      | nil => exact hne hl
      | cons d ds =>
        rw [hl] at hf
        simp only [List.flatMap_cons, List.append_eq_nil_iff] at hf
        exact (take1_le d).1 hf.1
    · have hb : ∀ l : List Int, (l.flatMap take1).length ≤ 3 * l.length := fun l => by
        induction l with
        | nil => simp
        | cons d ds ih => simp only [List.flatMap_cons, List.length_append, List.length_cons]; have := (take1_le d).2; omega
      have := hb (partsN c)
      have := partsN_le c
      omega
end

section
def apartN (l : List Int) : List Int := srtN (l.flatMap takeN)
def foldsN (l : List Int) : List Int := l.flatMap foldN
def keyL (l : List Int) : List Int := apartN (foldsN (apartN l))
end

section
open Go.RowKit

set_option maxRecDepth 100000 in
set_option maxHeartbeats 1000000 in
theorem take_step (c : Int) (tk : Int → List Int) (hne : ∀ d ∈ partsN c, tk d ≠ [] ∧ (tk d).length ≤ 9) (H : ∀ d ∈ partsN c, TakeSays d (tk d)) : TakeSays c (takeBy tk c) := by
  intro w
  have hP := sParts c w
  have hlen := partsN_le c
  by_cases h0 : partsN c = []
  · have HR : Hid (takeBy tk c = [c]) := by show _ = _; unfold takeBy; rw [if_pos h0]
    rw [h0] at hP
    generalize takeBy tk c = r at HR ⊢
    go_enter Tryz.func105, Tryz.ntmps105
    go_wp2_with fail
    refine hP.mono ?_
    rintro e w1 ⟨v, rfl, hrow, hb⟩
    obtain ⟨a, cap, rfl, -⟩ := hrow.at
    go_wp2
    go_ret
    rw [HR.out]
    refine ⟨.slice (some ⟨w1.heap.size, 0, none⟩) 1 1, rfl, ret_lit _ w _ _ 1 _ ?_ ?_ ?_ ?_ ?_⟩ <;> first | rfl | decide | exact hb | simp
  · have HR : Hid (takeBy tk c = (partsN c).flatMap tk) := by show _ = _; unfold takeBy; rw [if_neg h0]
    have HT := flatMap_take (partsN c) tk
    have HE : Hid (((partsN c).take (partsN c).length).flatMap tk = (partsN c).flatMap tk) := by show _ = _; rw [List.take_length]
    have HM : ∀ k, k < (partsN c).length → (partsN c).getD k 0 ∈ partsN c := fun k hk => by simp [List.getD, hk]
    have HL : ∀ k, k ≤ (partsN c).length → (((partsN c).take k).flatMap tk).length ≤ 9 * k := fun k => by
      induction k with
      | zero => intro _; simp
      | succ k ih =>
        intro hk
        rw [HT k (by omega), List.length_append]
        have := ih (by omega)
        have := (hne _ (HM k (by omega))).2
        omega
    generalize takeBy tk c = r at HR ⊢
    generalize partsN c = L at *
    have hpos : 0 < L.length := List.length_pos_iff.2 h0
    obtain ⟨n, HN⟩ : ∃ n, Hid (n = L.length) := ⟨_, rfl⟩
    go_enter Tryz.func105, Tryz.ntmps105
    go_wp2_with fail
    refine hP.mono ?_
    rintro e w1 ⟨v, rfl, hrow, hb⟩
    obtain ⟨a, cap, rfl, hva⟩ := hrow.at
    rw [← HN.out] at hva hlen hpos ⊢
    have hn0 : (n == 0) = false := by rw [beq_eq_false_iff_ne]; omega
    have hn1 : ((n : Int) == 0) = false := by rw [beq_eq_false_iff_ne]; omega
    go_wp2
    go_loopw [4, 5] (fun o i wr => ∃ k : Nat, k ≤ n ∧ i = .int .i64 k ∧ IntRow wr w1.heap.size o ((L.take k).flatMap tk) ∧ Below w1.heap.size w1 wr) (fun _ i _ => n - (intOf i).toNat)
    case atStart => exact ⟨0, Nat.zero_le _, rfl, by simpa using lit_at w1 #[] [] 0 rfl rfl (by decide), below_lit _ _⟩
    case round =>
      obtain ⟨k, hk, rfl, hown, hbel⟩ := hrel
      by_cases hlt : k < n
      · obtain ⟨b1, o1, rfl, hb1, hc1⟩ := hva k hlt
        have hc1' := (hbel.cell (p := ⟨b1, o1 + k, none⟩) hb1).trans hc1
        have hkL : k < L.length := by rw [← HN.out]; exact hlt
        have HS : Hid ((L.take (k + 1)).flatMap tk = (L.take k).flatMap tk ++ tk (L.getD k 0)) := HT k hkL
        have hd := HM k hkL
        have hH := H _ hd
        have hnn := hne _ hd
        have hll := HL k (by omega)
        generalize L.getD k 0 = d at hc1' HS hH hnn
        generalize (L.take k).flatMap tk = q at hown HS hll
        generalize tk d = m at HS hH hnn
        go_wp2_with (first | (go_at_call 105; refine (hH _).mono ?_; rintro e w2 ⟨u, rfl, hrow2, hb2⟩; have hown2 := hown.below hb2; have hbel2 := hbel.trans (hb2.mono hbel.size)) | (at_builtin; refine append_ints w2 rfl (.tmp 20) (.tmp 25) rfl w1.heap.size _ u q m hnn.1 (by omega) hown2 hrow2.at rfl rfl hbel2.size ?_; intro v' w3 hown3 hbel3))
        go_roundw
        case rel => exact ⟨k + 1, by omega, by go_num, by rw [HS.out]; exact hown3, hbel2.trans hbel3⟩
        case measure => simp [intOf]; omega
      · obtain rfl : k = n := by omega
        have HE' := HE.out
        rw [← HN.out] at HE'
        rw [HE'] at hown
        go_wp2
        go_ret
        exact ⟨_, rfl, by rw [HR.out]; exact hown.mono hb.size, hb.trans (hbel.mono hb.size)⟩

theorem sTake (c : Int) : TakeSays c (takeN c) := by
  have leaf : ∀ d, partsN d = [] → TakeSays d [d] := fun d hd => by
    have := take_step d (fun _ => [0]) (fun e he => by rw [hd] at he; cases he) (fun e he => by rw [hd] at he; cases he)
    unfold takeBy at this
    rwa [if_pos hd] at this
  have one : ∀ d, (∀ e ∈ partsN d, partsN e = []) → TakeSays d (take1 d) := fun d hd =>
    take_step d (fun e => [e]) (fun e _ => by simp) (fun e he => leaf e (hd e he))
  exact take_step c take1 (fun d hd => take1_ne d) (fun d hd => one d fun e he => parts_two c d e hd he)
end

section
open Go.RowKit

theorem foldN_ne (c : Int) : foldN c ≠ [] ∧ (foldN c).length ≤ 2 := by
  unfold foldN
  repeat' split
  all_goals simp
theorem flat_len (f : Int → List Int) (b : Nat) (h : ∀ c, (f c).length ≤ b) (l : List Int) : (l.flatMap f).length ≤ b * l.length := by
  induction l with
  | nil => simp
  | cons c l ih =>
    rw [List.flatMap_cons, List.length_append, List.length_cons, Nat.mul_add]
    have := h c
    omega

set_option maxRecDepth 100000 in
set_option maxHeartbeats 1000000 in
theorem sFold (v : Value) (l : List Int) (w : World) (hl : l.length ≤ 16777216) (hv : IntsAt w v l) :
    Calls Tryz.prog 88 #[v] w fun e w' => ∃ u, e = .returned u ∧ IntRow w' w.heap.size u (foldsN l) ∧ Below w.heap.size w w' := by
  obtain ⟨a, ca, rfl, hva⟩ := hv
  have HT := flatMap_take l foldN
  have HE : Hid ((l.take l.length).flatMap foldN = foldsN l) := by show _ = _; rw [List.take_length]; rfl
  have HL : ∀ k, ((l.take k).flatMap foldN).length ≤ 2 * l.length := fun k => Nat.le_trans (flat_len foldN 2 (fun c => (foldN_ne c).2) _) (by simp; omega)
  obtain ⟨n, HN⟩ : ∃ n, Hid (n = l.length) := ⟨_, rfl⟩
  rw [← HN.out] at hva hl HE HL ⊢
  generalize foldsN l = r at HE ⊢
  go_enter Tryz.func88, Tryz.ntmps88
  go_wp2
  go_loopw [3, 4] (fun o i wr => ∃ k : Nat, k ≤ n ∧ i = .int .i64 k ∧ IntRow wr w.heap.size o ((l.take k).flatMap foldN) ∧ Below w.heap.size w wr) (fun _ i _ => n - (intOf i).toNat)
  case atStart => exact ⟨0, Nat.zero_le _, rfl, by simpa using lit_at w #[] [] 0 rfl rfl (by decide), below_lit _ _⟩
  case round =>
    obtain ⟨k, hk, rfl, hown, hbel⟩ := hrel
    by_cases hlt : k < n
    · obtain ⟨b1, o1, rfl, hb1, hc1⟩ := hva k hlt
      have hc1' := (hbel.cell (p := ⟨b1, o1 + k, none⟩) hb1).trans hc1
      have HS : Hid ((l.take (k + 1)).flatMap foldN = (l.take k).flatMap foldN ++ foldN (l.getD k 0)) := HT k (by rw [← HN.out]; exact hlt)
      have hll := HL k
      have hnn := foldN_ne (l.getD k 0)
      have hH := fun w' => sFoldOf (l.getD k 0) w'
      generalize l.getD k 0 = d at hc1' HS hnn hH
      generalize (l.take k).flatMap foldN = q at hown HS hll
      generalize foldN d = m at HS hnn hH
      go_wp2_with (first | (go_at_call 107; refine (hH _).mono ?_; rintro e w2 ⟨u, rfl, hrow2, hb2⟩; have hown2 := hown.below hb2; have hbel2 := hbel.trans (hb2.mono hbel.size)) | (at_builtin; refine append_ints w2 rfl (.tmp 12) (.tmp 17) rfl w.heap.size _ u q m hnn.1 (by omega) hown2 hrow2.at rfl rfl hbel2.size ?_; intro v' w3 hown3 hbel3))
      go_roundw
      case rel => exact ⟨k + 1, by omega, by go_num, by rw [HS.out]; exact hown3, hbel2.trans hbel3⟩
      case measure => simp [intOf]; omega
    · obtain rfl : k = n := by omega
      rw [HE.out] at hown
      go_wp2
      go_ret
      exact ⟨_, rfl, hown, hbel⟩
end

section
open Go.RowKit Go.Sort

/-- two neighbours of a row change places -/
theorem row_swap {w : World} {base g cap n : Nat} {p : List Int} {z x : Int} {r : List Int} (h : w.ownsRow base 3 1 (.slice (some ⟨g, 0, none⟩) n cap) n (intsV (p ++ z :: x :: r))) :
    ((w.setCell ⟨g, p.length + 1, none⟩ (.int .i64 z)).setCell ⟨g, p.length, none⟩ (.int .i64 x)).ownsRow base 3 1 (.slice (some ⟨g, 0, none⟩) n cap) n (intsV (p ++ x :: z :: r)) := by
  have h1 := (h.stored (p.length + 1) (.int .i64 z)).1
  have h2 := (h1.stored p.length (.int .i64 x)).1
  have e : ((intsV (p ++ z :: x :: r)).set (p.length + 1) (.int .i64 z)).set p.length (.int .i64 x) = intsV (p ++ x :: z :: r) := by
    simp [intsV]
  rwa [e] at h2

theorem World.ownsRow.below' {w w' : World} {base : Nat} {v : Value} {n : Nat} {xs : List Value} (h : w.ownsRow base 3 1 v n xs) (b : Below w.heap.size w w') : w'.ownsRow base 3 1 v n xs := by
  rcases h.2 with ⟨rfl, h0⟩ | ⟨g, cap, cur, rfl, hg, hh, hnc, hcp, hcs, ht⟩
  · exact ⟨h.1, .inl ⟨rfl, h0⟩⟩
  · exact ⟨h.1, .inr ⟨g, cap, cur, rfl, hg, (b.block g (lt_of_block hh)).trans hh, hnc, hcp, hcs, ht⟩⟩

theorem srt_start (T : List Int) : (srtR [] (T.take 1)).reverse ++ T.drop 1 = T := by
  cases T with
  | nil => rfl
  | cons x T => rfl
theorem srt_next (T : List Int) (i : Nat) (h : i < T.length) : srtR [] (T.take (i + 1)) = insR (T.getD i 0) (srtR [] (T.take i)) := by
  have e : T.take (i + 1) = T.take i ++ [T.getD i 0] := by
    rw [List.take_add_one, List.getElem?_eq_getElem h]; simp [List.getD, h]
  rw [e, srtR_append]; rfl
theorem drop_next (T : List Int) (i : Nat) (h : i < T.length) : T.drop i = T.getD i 0 :: T.drop (i + 1) := by
  rw [List.drop_eq_getElem_cons h]; simp [List.getD, h]

theorem cls_any (c : Int) (w : World) (d : Nat) (os : Array Obj) :
    Calls Tryz.prog 106 #[.int .i64 c] (grow (redrawn w d) os) fun e w'' => e = .returned (.int .i64 (clsN c)) ∧ ∃ p : Regrown, w'' = grow (redrawn w p.d) p.os :=
  Calls.regrown_of (sClass c _)

set_option maxRecDepth 100000 in
set_option maxHeartbeats 1600000 in
theorem sApart (v : Value) (l : List Int) (w : World) (hl : l.length ≤ 1048576) (hv : IntsAt w v l) :
    Calls Tryz.prog 87 #[v] w fun e w' => ∃ u, e = .returned u ∧ IntRow w' w.heap.size u (apartN l) ∧ Below w.heap.size w w' := by
  obtain ⟨a, ca, rfl, hva⟩ := hv
  have HT := flatMap_take l takeN
  have HE : Hid ((l.take l.length).flatMap takeN = l.flatMap takeN) := by show _ = _; rw [List.take_length]
  have HL : ∀ k, ((l.take k).flatMap takeN).length ≤ 9 * l.length := fun k => Nat.le_trans (flat_len takeN 9 (fun c => (takeN_ne c).2) _) (by simp; omega)
  have HLL : (l.flatMap takeN).length ≤ 9 * l.length := flat_len takeN 9 (fun c => (takeN_ne c).2) _
  have HR : Hid (apartN l = srtN (l.flatMap takeN)) := rfl
  obtain ⟨n, HN⟩ : ∃ n, Hid (n = l.length) := ⟨_, rfl⟩
  rw [← HN.out] at hva hl HE HL HLL ⊢
  generalize apartN l = r at HR ⊢
  generalize l.flatMap takeN = T at HR HE HLL
  go_enter Tryz.func87, Tryz.ntmps87
  go_wp2
  go_loopw [3, 4] (fun o i wr => ∃ k : Nat, k ≤ n ∧ i = .int .i64 k ∧ IntRow wr w.heap.size o ((l.take k).flatMap takeN) ∧ Below w.heap.size w wr) (fun _ i _ => n - (intOf i).toNat)
  case atStart => exact ⟨0, Nat.zero_le _, rfl, by simpa using lit_at w #[] [] 0 rfl rfl (by decide), below_lit _ _⟩
  case round =>
    obtain ⟨k, hk, rfl, hown, hbel⟩ := hrel
    by_cases hlt : k < n
    · obtain ⟨b1, o1, rfl, hb1, hc1⟩ := hva k hlt
      have hc1' := (hbel.cell (p := ⟨b1, o1 + k, none⟩) hb1).trans hc1
      have HS : Hid ((l.take (k + 1)).flatMap takeN = (l.take k).flatMap takeN ++ takeN (l.getD k 0)) := HT k (by rw [← HN.out]; exact hlt)
      have hll := HL k
      have hnn := takeN_ne (l.getD k 0)
      have hH := sTake (l.getD k 0)
      generalize l.getD k 0 = d at hc1' HS hnn hH
      generalize (l.take k).flatMap takeN = q at hown HS hll
      generalize takeN d = m at HS hnn hH
      go_wp2_with (first | (go_at_call 105; refine (hH _).mono ?_; rintro e w2 ⟨u, rfl, hrow2, hb2⟩; have hown2 := hown.below hb2; have hbel2 := hbel.trans (hb2.mono hbel.size)) | (at_builtin; refine append_ints w2 rfl (.tmp 15) (.tmp 20) rfl w.heap.size _ u q m hnn.1 (by omega) hown2 hrow2.at rfl rfl hbel2.size ?_; intro v' w3 hown3 hbel3))
      go_roundw
      case rel => exact ⟨k + 1, by omega, by go_num, by rw [HS.out]; exact hown3, hbel2.trans hbel3⟩
      case measure => simp [intOf]; omega
    · obtain rfl : k = n := by omega
      rw [HE.out] at hown
      clear HE HT HL hva
      by_cases hT : T = []
      · subst hT
        obtain ⟨a2, c2, rfl, -⟩ := hown.at
        go_wp2
        refine wp_loop_rounds 1 ?_
        rw [rounds_succ]
        go_wp2
        go_ret
        exact ⟨_, rfl, by rw [HR.out]; exact hown, hbel⟩
      · have hpos : 0 < T.length := List.length_pos_iff.2 hT
        rcases hown.2 with ⟨-, h0⟩ | ⟨g, cap, cur, rfl, hg, -⟩
        · exact absurd h0 (by omega)
        · obtain ⟨m, HM⟩ : ∃ m, Hid (m = T.length) := ⟨_, rfl⟩
          have hown1 : wr.ownsRow w.heap.size 3 1 (.slice (some ⟨g, 0, none⟩) m cap) m (intsV ((srtR [] (T.take 1)).reverse ++ T.drop 1)) := by
            rw [srt_start, HM.out]; exact hown
          have hm : m ≤ 9437184 := by rw [HM.out]; omega
          have hpos' : 1 ≤ m := by rw [HM.out]; exact hpos
          rw [← HM.out]
          clear hown hlt
          go_wp2
          go_loopw [5] (fun iv wr2 => ∃ i : Nat, 1 ≤ i ∧ i ≤ m ∧ iv = .int .i64 i ∧ wr2.ownsRow w.heap.size 3 1 (.slice (some ⟨g, 0, none⟩) m cap) m (intsV ((srtR [] (T.take i)).reverse ++ T.drop i)) ∧ Below w.heap.size w wr2) (fun iv _ => m - (intOf iv).toNat)
          case atStart => exact ⟨1, Nat.le_refl _, hpos', rfl, hown1, hbel⟩
          case round =>
            obtain ⟨i, hi1, hi, rfl, hown2, hbel2⟩ := hrel
            by_cases hlt : i < m
            · have hiT : i < T.length := by rw [← HM.out]; exact hlt
              have HNX : Hid (srtR [] (T.take (i + 1)) = insR (T.getD i 0) (srtR [] (T.take i))) := srt_next T i hiT
              have hsl : (srtR [] (T.take i)).length = i := by rw [srtR_len]; simp; omega
              rw [drop_next T i hiT] at hown2
              generalize T.getD i 0 = x at HNX hown2
              generalize srtR [] (T.take i) = s at HNX hown2 hsl
              obtain ⟨rest, HRE⟩ : ∃ rest, Hid (rest = T.drop (i + 1)) := ⟨_, rfl⟩
              rw [← HRE.out] at hown2
              have hcl : ∀ (w4 : World) (p : List Int) (z : Int) (q : List Int), w4.ownsRow w.heap.size 3 1 (.slice (some ⟨g, 0, none⟩) m cap) m (intsV (p ++ z :: q)) → w4.cell? ⟨g, p.length, none⟩ = some (.int .i64 z) ∧ p.length < m := fun w4 p z q h => by
                have hlen := h.1
                simp [intsV] at hlen
                refine ⟨?_, by omega⟩
                rw [World.ownsRow.cellAt h p.length (by omega)]
                simp [intsV]
              go_wp2
              go_loopw [6] (fun kv wr3 => ∃ q p : List Int, s = q ++ p ∧ kv = .int .i64 (p.length : Nat) ∧ wr3.ownsRow w.heap.size 3 1 (.slice (some ⟨g, 0, none⟩) m cap) m (intsV (p.reverse ++ x :: (q.reverse ++ rest))) ∧ insR x s = q ++ insR x p ∧ Below w.heap.size w wr3) (fun kv _ => (intOf kv).toNat)
              case atStart => exact ⟨[], s, rfl, by rw [hsl], by simpa using hown2, rfl, hbel2⟩
              case round =>
                obtain ⟨q, p, hqp, rfl, hown3, HIN, hbel3⟩ := hrel
                cases p with
                | nil =>
                  have HIN' : insR x s = q ++ [x] := HIN
                  go_wp2
                  refine wp_region_quiet_below (by kernel_rfl) (by kernel_rfl) ?_
                  repeat (go_big_quiet_step (fail))
                  refine wpQuiet_nil ?_
                  rintro w' ⟨⟨dq, osq⟩, rfl⟩
                  have hbq := below_regrown wr dq osq
                  generalize grow (redrawn wr dq) osq = w4 at hbq ⊢
                  have hown4 : w4.ownsRow w.heap.size 3 1 (.slice (some ⟨g, 0, none⟩) m cap) m _ := World.ownsRow.below' hown3 hbq
                  have hbel4 : Below w.heap.size w w4 := hbel3.trans (hbq.mono hbel3.size)
                  go_wp2
                  go_roundw
                  case rel => exact ⟨i + 1, by omega, by omega, by go_num, by rw [HNX.out, HIN', ← HRE.out]; simpa using hown4, hbel4⟩
                  case measure => simp [intOf]; omega
                | cons z p =>
                  rw [List.reverse_cons, List.append_assoc] at hown3
                  have hz := hcl _ p.reverse z _ hown3
                  have hx := hcl wr (p.reverse ++ [z]) x (q.reverse ++ rest) (by simpa using hown3)
                  rw [List.length_reverse] at hz
                  simp only [List.length_append, List.length_reverse, List.length_cons, List.length_nil] at hx
                  have k1 := cell_regrown hz.1
                  have k2 := cell_regrown hx.1
                  have hpm := hx.2
                  have e1 : ((z :: p).length : Int) = (p.length : Int) + 1 := by simp
                  have hk0 : (0 : Int) < (p.length : Int) + 1 := by omega
                  by_cases h0 : 0 < clsN x
                  · by_cases h1 : clsN x < clsN z
                    · have hp : past x z := ⟨h0, h1⟩
                      have HIN' : Hid (insR x s = (q ++ [z]) ++ insR x p) := by show _ = _; rw [HIN, insR_pos hp]; simp
                      clear HIN hp
                      go_wp2
                      refine wp_region_quiet_below (by kernel_rfl) (by kernel_rfl) ?_
                      repeat (go_big_quiet_step (exact cls_any _ _ _ _))
                      refine wpQuiet_nil ?_
                      rintro w' ⟨⟨dq, osq⟩, rfl⟩
                      have hbq := below_regrown wr dq osq
                      generalize grow (redrawn wr dq) osq = w4 at hbq ⊢
                      have hown4 : w4.ownsRow w.heap.size 3 1 (.slice (some ⟨g, 0, none⟩) m cap) m _ := World.ownsRow.below' hown3 hbq
                      have hbel4 : Below w.heap.size w w4 := hbel3.trans (hbq.mono hbel3.size)
                      have hz4 := (hcl w4 p.reverse z _ hown4).1
                      have hx4 := (hcl w4 (p.reverse ++ [z]) x (q.reverse ++ rest) (by simpa using hown4)).1
                      rw [List.length_reverse] at hz4
                      simp only [List.length_append, List.length_reverse, List.length_cons, List.length_nil] at hx4
                      have f0 := World.ownsRow.frozenAt hown4 p.length
                      have f1 := World.ownsRow.frozenAt hown4 (p.length + 1)
                      have hsw := row_swap hown4
                      rw [List.length_reverse] at hsw
                      have HSW : Hid (((w4.setCell ⟨g, p.length + 1, none⟩ (.int .i64 z)).setCell ⟨g, p.length, none⟩ (.int .i64 x)).ownsRow w.heap.size 3 1 (.slice (some ⟨g, 0, none⟩) m cap) m (intsV (p.reverse ++ x :: z :: (q.reverse ++ rest)))) := hsw
                      have hgb : w.heap.size ≤ g := hg
                      clear hsw hown4 hown3
                      go_wp2
                      go_roundw
                      case rel => exact ⟨q ++ [z], p, by rw [hqp]; simp, by go_num, by simpa using HSW.out, HIN'.out, (hbel4.setCell hgb _).setCell hgb _⟩
                      case measure => simp [intOf]
                    · have hp : ¬ past x z := by unfold past; omega
                      have HIN' : insR x s = q ++ (x :: z :: p) := by rw [HIN, insR_neg hp]
                      clear HIN hp
                      go_wp2
                      refine wp_region_quiet_below (by kernel_rfl) (by kernel_rfl) ?_
                      repeat (go_big_quiet_step (exact cls_any _ _ _ _))
                      refine wpQuiet_nil ?_
                      rintro w' ⟨⟨dq, osq⟩, rfl⟩
                      have hbq := below_regrown wr dq osq
                      generalize grow (redrawn wr dq) osq = w4 at hbq ⊢
                      have hown4 : w4.ownsRow w.heap.size 3 1 (.slice (some ⟨g, 0, none⟩) m cap) m _ := World.ownsRow.below' hown3 hbq
                      have hbel4 : Below w.heap.size w w4 := hbel3.trans (hbq.mono hbel3.size)
                      go_wp2
                      go_roundw
                      case rel => exact ⟨i + 1, by omega, by omega, by go_num, by rw [HNX.out, HIN', ← HRE.out]; simpa using hown4, hbel4⟩
                      case measure => simp [intOf]; omega
                  · have hd0 : decide (0 < clsN x) = false := decide_eq_false h0
                    have hp : ¬ past x z := by unfold past; omega
                    have HIN' : insR x s = q ++ (x :: z :: p) := by rw [HIN, insR_neg hp]
                    clear HIN hp
                    go_wp2
                    refine wp_region_quiet_below (by kernel_rfl) (by kernel_rfl) ?_
                    repeat (go_big_quiet_step (exact cls_any _ _ _ _))
                    refine wpQuiet_nil ?_
                    rintro w' ⟨⟨dq, osq⟩, rfl⟩
                    have hbq := below_regrown wr dq osq
                    generalize grow (redrawn wr dq) osq = w4 at hbq ⊢
                    have hown4 : w4.ownsRow w.heap.size 3 1 (.slice (some ⟨g, 0, none⟩) m cap) m _ := World.ownsRow.below' hown3 hbq
                    have hbel4 : Below w.heap.size w w4 := hbel3.trans (hbq.mono hbel3.size)
                    go_wp2
                    go_roundw
                    case rel => exact ⟨i + 1, by omega, by omega, by go_num, by rw [HNX.out, HIN', ← HRE.out]; simpa using hown4, hbel4⟩
                    case measure => simp [intOf]; omega
            · obtain rfl : i = m := by omega
              have HF : Hid ((srtR [] (T.take i)).reverse ++ T.drop i = r) := by
                show _ = _
                rw [HR.out, HM.out, List.take_length, List.drop_length, List.append_nil]; rfl
              rw [HF.out] at hown2
              have hrl : r.length = i := by have := hown2.1; simpa [intsV] using this
              go_wp2
              go_ret
              exact ⟨_, rfl, by unfold IntRow; rw [hrl]; exact hown2, hbel2⟩
end

end Go.Proofs.YtpijjinoeghgoaaGreatDoor
