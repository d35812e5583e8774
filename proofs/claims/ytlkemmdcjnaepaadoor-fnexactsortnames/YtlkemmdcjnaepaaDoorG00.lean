/- Plain facts on numbers and rows of bytes, with no word of the program: what a big-endian row of bytes says, and its bounds. Rows of integers: what laws.eqIntS, markIntS, heldIntS and toIntS do to them. What spec.l1In, impl.widthOk, spec.ReadFixed and impl.ReadFixed answer, at every argument. Signs: spec.l3Sign, l3Among, Class, FoldOf, Known: what they answer. -/
import Derived.Test.YtlkemmdcjnaepaaDoorRows
import Derived.WalkKit
import Derived.Laws.BitsLemmas
import Derived.Lib.Strings
import Derived.WalkSpells
import Derived.WalkLawsBesides
import Derived.Deep.QuietTactic
import Derived.BigQuiet
import Derived.Deep.Onto
namespace Go.Proofs.YtlkemmdcjnaepaaDoor

section
open Go.RowKit

def inB (x l h : Int) : Bool := decide (l ≤ x) && decide (x ≤ h)

theorem inB_mk {x l h : Int} (a : l ≤ x) (b : x ≤ h) : inB x l h = true := by simp [inB, a, b]
theorem inB_le {x l h : Int} (e : inB x l h = true) : l ≤ x ∧ x ≤ h := by simpa [inB] using e
theorem inB_no {x l h : Int} (e : inB x l h = false) : x < l ∨ h < x := by
  have : ¬ (l ≤ x ∧ x ≤ h) := by rintro ⟨a, b⟩; rw [inB_mk a b] at e; cases e
  omega

theorem ret_bool {a b : Bool} (h : a = b) : Ending.returned (.bool a) = .returned (.bool b) := by rw [h]
theorem ret_int {k : IntKind} {a b : Int} (h : a = b) : Ending.returned (.int k a) = .returned (.int k b) := by rw [h]
theorem ret_str {a b : ByteArray} (h : a = b) : Ending.returned (.string a) = .returned (.string b) := by rw [h]

theorem snoc_ind {α : Type} {P : List α → Prop} (h0 : P []) (h1 : ∀ l a, P l → P (l ++ [a])) (l : List α) : P l := by
  have : ∀ m : List α, P m.reverse := by
    intro m
    induction m with
    | nil => exact h0
    | cons a m ih => rw [List.reverse_cons]; exact h1 _ _ ih
  have h := this l.reverse
  rwa [List.reverse_reverse] at h

theorem pow_mono (b : Int) (hb : 1 ≤ b) : ∀ (k d : Nat), b ^ k ≤ b ^ (k + d)
  | _, 0 => Int.le_refl _
  | k, d + 1 => by
    have h1 := pow_mono b hb k d
    have h2 : b ^ (k + d) * 1 ≤ b ^ (k + d) * b := Int.mul_le_mul_of_nonneg_left hb (Int.pow_nonneg (by omega))
    have h3 : b ^ (k + (d + 1)) = b ^ (k + d) * b := by rw [← Nat.add_assoc, Int.pow_succ]
    omega

theorem take_snoc (s : ByteArray) (k : Nat) (h : k < s.size) : s.data.toList.take (k + 1) = s.data.toList.take k ++ [s[k]] := by
  rw [List.take_succ_eq_append_getElem (by simpa using h)]; rfl

theorem list_ext {s t : ByteArray} (h : s.data.toList = t.data.toList) : s = t := by
  obtain ⟨⟨a⟩⟩ := s; obtain ⟨⟨b⟩⟩ := t; simp at h; rw [h]

/-- 's[:k]' -/
theorem ext_take (s : ByteArray) (k : Nat) : (s.extract 0 k).toList = s.data.toList.take k := by
  rw [ByteArray.toList_eq, Lib.extract_data]; simp

theorem wrap_byte (c : UInt8) : wrap64 (c.toNat : Int) = (c.toNat : Int) := by
  have := c.toNat_lt
  exact IntWalk.wrap64_in _ (by omega)

/-- what bytes say, the highest first -/
def be (l : List UInt8) : Int := l.foldl (fun a b => a * 256 + (b.toNat : Int)) 0

theorem be_snoc (l : List UInt8) (c : UInt8) : be (l ++ [c]) = be l * 256 + (c.toNat : Int) := by
  simp [be, List.foldl_append]

theorem be_len (l : List UInt8) : 0 ≤ be l ∧ be l < 256 ^ l.length := by
  induction l using snoc_ind with
  | h0 => simp [be]
  | h1 l c ih =>
    rw [be_snoc, List.length_append, List.length_singleton, Int.pow_succ]
    have := c.toNat_lt
    omega

theorem be_bd (l : List UInt8) (k : Nat) (h : l.length ≤ k) : 0 ≤ be l ∧ be l < 256 ^ k := by
  have := be_len l
  have h2 : (256 : Int) ^ l.length ≤ 256 ^ (l.length + (k - l.length)) := pow_mono 256 (by decide) _ _
  rw [show l.length + (k - l.length) = k from by omega] at h2
  omega

theorem wraps_i64 (n : Int) (h₀ : 0 ≤ n) (h₁ : n < 2 ^ 63) : IntKind.i64.wrap n = n := by rw [IntKind.wrap_i64]; omega

/-- 'x << 8 | b' -/
theorem or8 (x b : Int) (h0 : 0 ≤ x) (h1 : x < 281474976710656) (h2 : 0 ≤ b) (h3 : b < 256) : bits .or .i64 (x * 256) b = x * 256 + b :=
  bits_join .i64 63 (by decide) wraps_i64 8 (x * 256) b (by omega) (by omega) (by omega) h2 (by omega) (by omega)
end

section
open Go.RowKit

theorem below_drewN {B : Nat} {w w' : World} (h : Below B w w') (n : Nat) : Below B w (w'.drewN n) := ⟨h.os, h.tape, h.output, h.size, h.block⟩

theorem gbi_trans {w w1 w2 : World} {r : Option Nat} (a : w.grownBy w1 r) (b : w1.grownBy w2 r) : w.grownBy w2 r :=
  ⟨b.os.trans a.os, b.tape.trans a.tape, b.output.trans a.output, Nat.le_trans a.size b.size, fun k hk hn => (b.block k (Nat.lt_of_lt_of_le hk a.size) hn).trans (a.block k hk hn)⟩
theorem gbi_set (w : World) (p j : Nat) (v : Value) : w.grownBy (w.setCell ⟨p, j, none⟩ v) (some p) :=
  ⟨rfl, rfl, rfl, by simp [World.setCell], fun k _ hn => Below.heap_setCell _ _ _ _ (fun e => hn (by rw [e]))⟩

def intsV (l : List Int) : List Value := l.map fun z => .int .i64 z
theorem intsV_length (l : List Int) : (intsV l).length = l.length := by simp [intsV]
theorem intsV_append (l m : List Int) : intsV (l ++ m) = intsV l ++ intsV m := by simp [intsV]
theorem intsV_get (l : List Int) (t : Nat) (h : t < l.length) : (intsV l)[t]? = some (.int .i64 (l.getD t 0)) := by
  simp [intsV, List.getD, h]

/-- the slice v reads as the integers l -/
def IntsAt (w : World) (v : Value) (l : List Int) : Prop :=
  ∃ a cap, v = .slice a l.length cap ∧ ∀ t, t < l.length → ∃ b off, a = some ⟨b, off, none⟩ ∧ b < w.heap.size ∧ w.cell? ⟨b, off + t, none⟩ = some (.int .i64 (l.getD t 0))

/-- the slice v is a row of integers that lies from block base on and is the call's own -/
def IntRow (w : World) (base : Nat) (v : Value) (l : List Int) : Prop := w.ownsRow base 3 1 v l.length (intsV l)

theorem IntRow.at {w : World} {base : Nat} {v : Value} {l : List Int} (h : IntRow w base v l) : IntsAt w v l := by
  rcases h.2 with ⟨rfl, h0⟩ | ⟨g, cap, cur, rfl, hg, hh, hnc, hcp, hcs, htake⟩
  · exact ⟨none, 0, by rw [h0], fun t ht => by omega⟩
  · refine ⟨some ⟨g, 0, none⟩, cap, rfl, fun t ht => ⟨g, 0, rfl, lt_of_block hh, ?_⟩⟩
    rw [Nat.zero_add, World.ownsRow.cellAt h t (by omega)]
    exact intsV_get l t ht

theorem IntsAt.below {w w' : World} {v : Value} {l : List Int} (h : IntsAt w v l) (b : Below w.heap.size w w') : IntsAt w' v l := by
  obtain ⟨a, cap, rfl, hc⟩ := h
  refine ⟨a, cap, rfl, fun t ht => ?_⟩
  obtain ⟨bb, off, h1, h2, h3⟩ := hc t ht
  exact ⟨bb, off, h1, Nat.lt_of_lt_of_le h2 b.size, (b.cell (p := ⟨bb, off + t, none⟩) h2).trans h3⟩

theorem IntRow.below {w w' : World} {base : Nat} {v : Value} {l : List Int} (h : IntRow w base v l) (b : Below w.heap.size w w') : IntRow w' base v l :=
  ⟨h.1, by
    rcases h.2 with h0 | ⟨g, cap, cur, e, hg, hh, r⟩
    · exact .inl h0
    · exact .inr ⟨g, cap, cur, e, hg, (b.block g (lt_of_block hh)).trans hh, r⟩⟩

theorem ints_ext (l m : List Int) (hl : l.length = m.length) (h : ∀ t, t < l.length → l.getD t 0 = m.getD t 0) : l = m := by
  apply List.ext_getElem hl
  intro t h1 h2
  have := h t h1
  simpa [List.getD, h1, h2] using this


/-- the numbers from k on -/
def marks (k : Int) : Nat → List Int
  | 0 => []
  | n + 1 => marks k n ++ [k + n]
theorem marks_length (k : Int) (n : Nat) : (marks k n).length = n := by
  induction n with
  | zero => rfl
  | succ n ih => simp [marks, ih]
theorem marks_get (k : Int) (n t : Nat) (h : t < n) : (marks k n).getD t 0 = k + t := by
  induction n with
  | zero => omega
  | succ n ih =>
    by_cases ht : t < n
    · rw [← ih ht]; simp [marks, List.getD, List.getElem?_append, marks_length, ht]
    · obtain rfl : t = n := by omega
      simp [marks, List.getD, marks_length]

/-- the first j of them marked -/
def markd (k : Int) (j : Nat) (l : List Int) : List Int := marks k j ++ l.drop j
theorem markd_length (k : Int) (j : Nat) (l : List Int) (h : j ≤ l.length) : (markd k j l).length = l.length := by
  simp [markd, marks_length]; omega
theorem markd_all (k : Int) (l : List Int) : markd k l.length l = marks k l.length := by simp [markd]
theorem markd_step (k : Int) (j : Nat) (l : List Int) (h : j < l.length) : (intsV (markd k j l)).set j (.int .i64 (k + j)) = intsV (markd k (j + 1) l) := by
  apply List.ext_getElem?
  intro t
  simp only [intsV, markd, marks, List.getElem?_set, List.length_map, List.length_append, marks_length, List.length_drop, List.getElem?_map, List.getElem?_append, List.length_cons, List.length_nil, List.getElem?_drop]
  by_cases h1 : t < j
  · have h2 : ¬ j = t := by omega
    have h3 : t < j + (0 + 1) := by omega
    simp [h1, h2, h3]
  · by_cases h2 : j = t
    · subst h2; simp; omega
    · have h3 : ¬ t < j + (0 + 1) := by omega
      simp only [h1, h2, h3, if_false]
      congr 2; omega



theorem Tryd.infoInt : (Tryd.prog.info? 3).map (fun i => (i.zero, i.size, i.bytes)) = some (some (.int .i64 0), 1, 8) := by kernel_rfl

theorem cell_one_int (w : World) (u : Value) : ∀ j y, [u][j]? = some y → (w.alloc (.cells #[u] 3)).cell? ((⟨w.heap.size, 0, none⟩ : Addr).add j) = some y := by
  intro j y h
  rw [Addr.add_lit, Nat.zero_add, World.cell?_alloc_mark]
  simpa using h

/-- 'append(out, x)', out a row of integers of the call's own -/
theorem append_int (w : World) {ops : Array Oper} {rest : List Oper} {o : Oper} {a : Act} {Q : Exit → Act → World → Prop} (hgd : o.guard = none) (s x : Operand)
    (ho : o.op = .call { callee := .builtin .append, args := #[s, x], argTypes := #[39, 39] }) (base : Nat)
    (v : Value) (l : List Int) (X : Int) (hl : l.length + 1 ≤ 1099511627776) (hown : IntRow w base v l) (hs : a.eval s = v) (hx : a.eval x = .slice (some ⟨w.heap.size, 0, none⟩) 1 1)
    (hbase : base ≤ w.heap.size)
    (h : ∀ v' w', IntRow w' base v' (l ++ [X]) → Below base w w' → wpList Tryd.prog ops Q rest (a.put o.dst v') w') :
    wpList Tryd.prog ops Q (o :: rest) a (w.alloc (.cells #[.int .i64 X] 3)) := by
  obtain ⟨i0, hi, hz0, hz1, hz2⟩ := info_parts Tryd.infoInt
  refine wpList_append_own _ hgd s x 39 ho base 3 i0 (.int .i64 0) 1 8 Tryd.underlying39 hi hz0 hz1 hz2 rfl (by decide) v l.length (intsV l) hs (World.ownsRow.alloc hown _) ⟨w.heap.size, 0, none⟩ 1 1 [.int .i64 X] hx rfl (cell_one_int _ _) ?_ (by unfold maxLen; omega) (by omega) (by simp; omega) ?_
  · intro u hu; simp at hu; subst hu; rfl
  · intro v' w' hown' hgrow _
    refine h v' w' ?_ ?_
    · unfold IntRow
      rw [intsV_append, List.length_append]
      exact hown'
    · refine ((Below.refl base w).alloc hbase _).grown hgrow (by simp; omega) ?_
      intro k hk
      rcases hown.2 with ⟨rfl, _⟩ | ⟨g, cap, cur, rfl, hg, _⟩
      · simp [Value.ownBlock] at hk
      · simp [Value.ownBlock] at hk; omega

/-- the first j of l, then zeros -/
def filld (j : Nat) (l : List Int) : List Int := l.take j ++ List.replicate (l.length - j) 0
theorem filld_step (j : Nat) (l : List Int) (h : j < l.length) : (intsV (filld j l)).set j (.int .i64 (l.getD j 0)) = intsV (filld (j + 1) l) := by
  apply List.ext_getElem?
  intro t
  simp only [intsV, filld, List.getElem?_set, List.length_map, List.length_append, List.length_take, List.length_replicate, List.getElem?_map, List.getElem?_append, List.getElem?_take, List.getElem?_replicate]
  have hm : min j l.length = j := by omega
  have hm1 : min (j + 1) l.length = j + 1 := by omega
  rw [hm, hm1]
  by_cases h1 : t < j
  · have h2 : ¬ j = t := by omega
    have h3 : t < j + 1 := by omega
    simp [h1, h2, h3]
  · by_cases h2 : j = t
    · subst h2; simp [List.getD, h]; omega
    · have h3 : ¬ t < j + 1 := by omega
      simp only [h1, h2, h3, if_false]
      by_cases h4 : t < l.length
      · have h5 : t - j < l.length - j := by omega
        have h6 : t - (j + 1) < l.length - (j + 1) := by omega
        simp [h5, h6]
      · have h5 : ¬ t - j < l.length - j := by omega
        have h6 : ¬ t - (j + 1) < l.length - (j + 1) := by omega
        simp [h5, h6]
end

section
open Go.RowKit

theorem in_any (x l h : Int) (w : World) :
    Calls Tryd.prog 40 #[.int .i64 x, .int .i64 l, .int .i64 h] w fun e w' => e = .returned (.bool (inB x l h)) ∧ w = w' := by
  go_enter Tryd.func40, Tryd.ntmps40
  go_wp2
  all_goals go_ret
  · exact ⟨ret_bool (by simp [inB]; omega), rfl⟩
  · exact ⟨ret_bool (by simp [inB]; omega), rfl⟩
end

section
open Go.RowKit

theorem lit_ints (w : World) (l : List Int) (hl : l.length ≤ 1000) : IntRow (w.alloc (.cells (intsV l).toArray 3)) w.heap.size (.slice (some ⟨w.heap.size, 0, none⟩) l.length l.length) l := by
  have h := World.ownsRow_lit (base := w.heap.size) (e := 3) (size := 1) w (intsV l).toArray l.length (Nat.le_refl _) (by unfold maxLen; omega) (by simp [intsV])
  simpa [IntRow] using h

/-- a literal row, as the walk has it -/
theorem lit_at (w : World) (cs : Array Value) (l : List Int) (n : Nat) (hcs : cs.toList = intsV l) (hn : l.length = n) (hl : n ≤ 1000) : IntRow (w.alloc (.cells cs 3)) w.heap.size (.slice (some ⟨w.heap.size, 0, none⟩) n n) l := by
  subst hn
  have e : cs = (intsV l).toArray := by rw [← hcs]
  rw [e]; exact lit_ints w l hl

theorem below_lit (w : World) (o : Obj) : Below w.heap.size w (w.alloc o) := (Below.refl _ _).alloc (Nat.le_refl _) _

/-- is c a sign? -/
def sgnB (c : Int) : Bool := inB c 0 1114111 && !inB c 55296 57343

theorem l3Sign_any (c : Int) (w : World) :
    Calls Tryd.prog 70 #[.int .i64 c] w fun e w' => e = .returned (.bool (sgnB c)) ∧ w = w' := by
  have HR : Hid (sgnB c = (inB c 0 1114111 && !inB c 55296 57343)) := rfl
  cases h1 : inB c 0 1114111
  · go_enter Tryd.func70, Tryd.ntmps70
    go_wp2_with (go_at_call 40; refine (in_any _ _ _ _).mono ?_; rintro e w' ⟨rfl, rfl⟩)
    go_ret
    exact ⟨by rw [HR.out, h1]; rfl, rfl⟩
  · go_enter Tryd.func70, Tryd.ntmps70
    go_wp2_with (go_at_call 40; refine (in_any _ _ _ _).mono ?_; rintro e w' ⟨rfl, rfl⟩)
    go_ret
    exact ⟨by rw [HR.out, h1]; simp, rfl⟩

def amongB (c : Int) (l : List Int) : Bool := l.contains c

theorem among_no (c : Int) (l : List Int) (h : ∀ t, t < l.length → l.getD t 0 ≠ c) : amongB c l = false := by
  cases e : amongB c l with
  | false => rfl
  | true =>
    have hm : c ∈ l := by simpa [amongB] using e
    obtain ⟨t, ht, rfl⟩ := List.mem_iff_getElem.1 hm
    exact absurd (by simp [List.getD, ht]) (h t ht)
theorem among_yes (c : Int) (l : List Int) (t : Nat) (ht : t < l.length) (h : l.getD t 0 = c) : amongB c l = true := by
  have : c ∈ l := by
    rw [← h]; simp [List.getD, ht]
  simpa [amongB] using this

set_option maxRecDepth 100000 in
set_option maxHeartbeats 400000 in
theorem l3Among_any (c : Int) (v : Value) (l : List Int) (w : World) (hl : l.length ≤ 1048576) (hv : IntsAt w v l) :
    Calls Tryd.prog 105 #[.int .i64 c, v] w fun e w' => e = .returned (.bool (amongB c l)) ∧ w = w' := by
  obtain ⟨a, ca, rfl, hva⟩ := hv
  have HY := fun t ht h => among_yes c l t ht h
  have HN := among_no c l
  generalize amongB c l = r at HY HN ⊢
  obtain ⟨n, HL⟩ : ∃ n, Hid (n = l.length) := ⟨_, rfl⟩
  rw [← HL.out] at hva hl HY HN ⊢
  go_enter Tryd.func105, Tryd.ntmps105
  go_wp2
  go_loop [5] (fun i => ∃ k : Nat, k ≤ n ∧ i = .int .i64 k ∧ ∀ t, t < k → l.getD t 0 ≠ c) (fun i => n - (intOf i).toNat)
  case atStart => exact ⟨0, Nat.zero_le _, rfl, fun t ht => by omega⟩
  case round =>
    obtain ⟨k, hk, rfl, hne⟩ := hrel
    by_cases hlt : k < n
    · obtain ⟨b1, o1, rfl, hb1, hc1⟩ := hva k hlt
      have HK : Hid (l.getD k 0 = c → r = true) := HY k hlt
      obtain ⟨x, HX⟩ : ∃ x, Hid (x = l.getD k 0) := ⟨_, rfl⟩
      rw [← HX.out] at hc1 HK
      by_cases hx : x = c
      · obtain rfl := HK.out hx
        go_wp2
        go_ret
        exact ⟨rfl, rfl⟩
      · have hx' : (x == c) = false := by simpa using hx
        go_wp2
        go_round
        case rel => exact ⟨k + 1, by omega, by go_num, fun t ht => by
          by_cases htk : t < k
          · exact hne t htk
          · obtain rfl : t = k := by omega
            rw [← HX.out]; exact hx⟩
        case measure => simp [intOf]; omega
    · obtain rfl : k = n := by omega
      obtain rfl := HN hne
      go_wp2
      go_ret
      exact ⟨rfl, rfl⟩

def clsL : List Int := [768, 769, 770, 771, 772, 776, 778]
def clsN (c : Int) : Int := if amongB c clsL then 230 else if c = 803 then 220 else if c = 807 then 202 else 0

/-- the same at a literal row -/
theorem among_lit (c : Int) (l : List Int) (b : Bool) (hb : amongB c l = b) (w : World) (cs : Array Value) (n : Nat) (hcs : cs.toList = intsV l) (hn : l.length = n) (hl : n ≤ 1000) :
    Calls Tryd.prog 105 #[.int .i64 c, .slice (some ⟨w.heap.size, 0, none⟩) n n] (w.alloc (.cells cs 3)) fun e w' => e = .returned (.bool b) ∧ w.alloc (.cells cs 3) = w' := by
  subst hb
  exact l3Among_any c _ l _ (by omega) (lit_at w cs l n hcs hn hl).at

set_option maxRecDepth 100000 in
theorem sClass (c : Int) (w : World) :
    Calls Tryd.prog 87 #[.int .i64 c] w fun e w' => e = .returned (.int .i64 (clsN c)) ∧ Below w.heap.size w w' := by
  cases h1 : amongB c clsL
  · have HR : Hid (clsN c = if c = 803 then 220 else if c = 807 then 202 else 0) := by show _ = _; unfold clsN; rw [h1]; rfl
    go_enter Tryd.func87, Tryd.ntmps87
    go_wp2_with fail
    refine (among_lit c clsL _ h1 _ _ 7 ?_ ?_ ?_).mono ?_
    · rfl
    · rfl
    · decide
    rintro e w' ⟨rfl, rfl⟩
    by_cases h2 : c = 803
    · go_wp2
      go_ret
      exact ⟨ret_int (by rw [HR.out, if_pos h2]), below_lit _ _⟩
    · by_cases h3 : c = 807
      · go_wp2
        go_ret
        exact ⟨ret_int (by rw [HR.out, if_neg h2, if_pos h3]), below_lit _ _⟩
      · have h2' : (c == 803) = false := by simpa using h2
        have h3' : (c == 807) = false := by simpa using h3
        go_wp2
        go_ret
        exact ⟨ret_int (by rw [HR.out, if_neg h2, if_neg h3]), below_lit _ _⟩
  · have HR : Hid (clsN c = 230) := by show _ = _; unfold clsN; rw [h1]; rfl
    go_enter Tryd.func87, Tryd.ntmps87
    go_wp2_with fail
    refine (among_lit c clsL _ h1 _ _ 7 ?_ ?_ ?_).mono ?_
    · rfl
    · rfl
    · decide
    rintro e w' ⟨rfl, rfl⟩
    go_wp2
    go_ret
    exact ⟨ret_int HR.out.symm, below_lit _ _⟩

def foldL : List Int := [198, 208, 216, 222]
/-- is c folded to what is 32 above it? -/
def upB (c : Int) : Bool := inB c 65 90 || inB c 913 929 || inB c 931 937 || inB c 1040 1071 || amongB c foldL
def foldN (c : Int) : List Int := if upB c then [c + 32] else if c = 223 then [115, 115] else if c = 962 then [963] else [c]

theorem upB_le (c : Int) (h : upB c = true) : 65 ≤ c ∧ c ≤ 1071 := by
  simp only [upB, inB, amongB, foldL, Bool.or_eq_true, Bool.and_eq_true, decide_eq_true_eq, List.contains_cons, List.contains_nil, Bool.or_false, beq_iff_eq] at h
  omega

theorem IntRow.mono {w : World} {base base' : Nat} {v : Value} {l : List Int} (h : IntRow w base v l) (hb : base' ≤ base) : IntRow w base' v l := World.ownsRow.mono h hb

/-- a literal row is what is answered -/
theorem ret_lit (w w0 : World) (cs : Array Value) (l : List Int) (n g : Nat) (hg : w.heap.size = g) (hcs : cs.toList = intsV l) (hn : l.length = n) (hl : n ≤ 1000) (hb : Below w0.heap.size w0 w) :
    IntRow (w.alloc (.cells cs 3)) w0.heap.size (.slice (some ⟨g, 0, none⟩) n n) l ∧ Below w0.heap.size w0 (w.alloc (.cells cs 3)) := by
  subst hg
  exact ⟨(lit_at w cs l n hcs hn hl).mono hb.size, hb.alloc hb.size _⟩

set_option maxRecDepth 100000 in
set_option maxHeartbeats 1000000 in
theorem sFoldOf (c : Int) (w : World) :
    Calls Tryd.prog 88 #[.int .i64 c] w fun e w' => ∃ v, e = .returned v ∧ IntRow w' w.heap.size v (foldN c) ∧ Below w.heap.size w w' := by
  have HU : Hid (upB c = (inB c 65 90 || inB c 913 929 || inB c 931 937 || inB c 1040 1071 || amongB c foldL)) := rfl
  have HB := upB_le c
  have HF : Hid (foldN c = if upB c then [c + 32] else if c = 223 then [115, 115] else if c = 962 then [963] else [c]) := rfl
  generalize upB c = u at HU HB HF
  generalize foldN c = r at HF ⊢
  cases h1 : inB c 65 90
  · cases h2 : inB c 913 929
    · cases h3 : inB c 931 937
      · cases h4 : inB c 1040 1071
        · cases h5 : amongB c foldL
          · obtain rfl : u = false := by rw [HU.out, h1, h2, h3, h4, h5]; rfl
            clear HB
            rcases Bool.eq_false_or_eq_true (c == 223) with h6 | h6
            · have HF' : Hid (r = [115, 115]) := by show _ = _; rw [HF.out, if_neg (by decide), if_pos (by simpa using h6)]
              clear HF
              go_enter Tryd.func88, Tryd.ntmps88
              go_wp2_with (first | (go_at_call 40; refine (in_any _ _ _ _).mono ?_; rintro e w' ⟨rfl, rfl⟩) | (go_at_call 105; refine (among_lit c foldL _ h5 _ _ 4 ?_ ?_ ?_).mono ?_; (· rfl); (· rfl); (· decide); rintro e w' ⟨rfl, rfl⟩))
              go_ret
              rw [HF'.out]
              refine ⟨.slice (some ⟨w.heap.size + 1, 0, none⟩) 2 2, rfl, ret_lit _ w _ _ 2 _ ?_ ?_ ?_ ?_ ?_⟩ <;> first | rfl | decide | exact below_lit _ _ | simp
            · rcases Bool.eq_false_or_eq_true (c == 962) with h7 | h7
              · have HF' : Hid (r = [963]) := by show _ = _; rw [HF.out, if_neg (by decide), if_neg (by simpa using h6), if_pos (by simpa using h7)]
                clear HF
                go_enter Tryd.func88, Tryd.ntmps88
                go_wp2_with (first | (go_at_call 40; refine (in_any _ _ _ _).mono ?_; rintro e w' ⟨rfl, rfl⟩) | (go_at_call 105; refine (among_lit c foldL _ h5 _ _ 4 ?_ ?_ ?_).mono ?_; (· rfl); (· rfl); (· decide); rintro e w' ⟨rfl, rfl⟩))
                go_ret
                rw [HF'.out]
                refine ⟨.slice (some ⟨w.heap.size + 1, 0, none⟩) 1 1, rfl, ret_lit _ w _ _ 1 _ ?_ ?_ ?_ ?_ ?_⟩ <;> first | rfl | decide | exact below_lit _ _ | simp
              · have HF' : Hid (r = [c]) := by show _ = _; rw [HF.out, if_neg (by decide), if_neg (by simpa using h6), if_neg (by simpa using h7)]
                clear HF
                go_enter Tryd.func88, Tryd.ntmps88
                go_wp2_with (first | (go_at_call 40; refine (in_any _ _ _ _).mono ?_; rintro e w' ⟨rfl, rfl⟩) | (go_at_call 105; refine (among_lit c foldL _ h5 _ _ 4 ?_ ?_ ?_).mono ?_; (· rfl); (· rfl); (· decide); rintro e w' ⟨rfl, rfl⟩))
                go_ret
                rw [HF'.out]
                refine ⟨.slice (some ⟨w.heap.size + 1, 0, none⟩) 1 1, rfl, ret_lit _ w _ _ 1 _ ?_ ?_ ?_ ?_ ?_⟩ <;> first | rfl | decide | exact below_lit _ _ | simp
          · obtain rfl : u = true := by rw [HU.out, h1, h2, h3, h4, h5]; rfl
            have HF' : Hid (r = [c + 32]) := HF
            have hb := HB rfl
            clear HF HB
            go_enter Tryd.func88, Tryd.ntmps88
            go_wp2_with (first | (go_at_call 40; refine (in_any _ _ _ _).mono ?_; rintro e w' ⟨rfl, rfl⟩) | (go_at_call 105; refine (among_lit c foldL _ h5 _ _ 4 ?_ ?_ ?_).mono ?_; (· rfl); (· rfl); (· decide); rintro e w' ⟨rfl, rfl⟩))
            go_ret
            rw [HF'.out]
            refine ⟨.slice (some ⟨w.heap.size + 1, 0, none⟩) 1 1, rfl, ret_lit _ w _ _ 1 _ ?_ ?_ ?_ ?_ ?_⟩ <;> first | rfl | decide | exact below_lit _ _ | simp
        · obtain rfl : u = true := by rw [HU.out, h4]; simp
          have HF' : Hid (r = [c + 32]) := HF
          have hb := HB rfl
          clear HF HB
          go_enter Tryd.func88, Tryd.ntmps88
          go_wp2_with (first | (go_at_call 40; refine (in_any _ _ _ _).mono ?_; rintro e w' ⟨rfl, rfl⟩))
          go_ret
          rw [HF'.out]
          refine ⟨.slice (some ⟨w.heap.size, 0, none⟩) 1 1, rfl, ret_lit _ w _ _ 1 _ ?_ ?_ ?_ ?_ ?_⟩ <;> first | rfl | decide | exact Below.refl _ _ | simp
      · obtain rfl : u = true := by rw [HU.out, h3]; simp
        have HF' : Hid (r = [c + 32]) := HF
        have hb := HB rfl
        clear HF HB
        go_enter Tryd.func88, Tryd.ntmps88
        go_wp2_with (first | (go_at_call 40; refine (in_any _ _ _ _).mono ?_; rintro e w' ⟨rfl, rfl⟩))
        go_ret
        rw [HF'.out]
        refine ⟨.slice (some ⟨w.heap.size, 0, none⟩) 1 1, rfl, ret_lit _ w _ _ 1 _ ?_ ?_ ?_ ?_ ?_⟩ <;> first | rfl | decide | exact Below.refl _ _ | simp
    · obtain rfl : u = true := by rw [HU.out, h2]; simp
      have HF' : Hid (r = [c + 32]) := HF
      have hb := HB rfl
      clear HF HB
      go_enter Tryd.func88, Tryd.ntmps88
      go_wp2_with (first | (go_at_call 40; refine (in_any _ _ _ _).mono ?_; rintro e w' ⟨rfl, rfl⟩))
      go_ret
      rw [HF'.out]
      refine ⟨.slice (some ⟨w.heap.size, 0, none⟩) 1 1, rfl, ret_lit _ w _ _ 1 _ ?_ ?_ ?_ ?_ ?_⟩ <;> first | rfl | decide | exact Below.refl _ _ | simp
  · obtain rfl : u = true := by rw [HU.out, h1]; simp
    have HF' : Hid (r = [c + 32]) := HF
    have hb := HB rfl
    clear HF HB
    go_enter Tryd.func88, Tryd.ntmps88
    go_wp2_with (first | (go_at_call 40; refine (in_any _ _ _ _).mono ?_; rintro e w' ⟨rfl, rfl⟩))
    go_ret
    rw [HF'.out]
    refine ⟨.slice (some ⟨w.heap.size, 0, none⟩) 1 1, rfl, ret_lit _ w _ _ 1 _ ?_ ?_ ?_ ?_ ?_⟩ <;> first | rfl | decide | exact Below.refl _ _ | simp
end

end Go.Proofs.YtlkemmdcjnaepaaDoor
