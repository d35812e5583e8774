/- Signs: spec.l3Sign, l3Among, Class, FoldOf, Known: what they answer. -/
import Derived.Test.YtkgnlamlmnhleaaDoorRows
import Derived.Test.YtkgnlamlmnhleaaDoorNum
import Derived.Test.YtkgnlamlmnhleaaDoorRdFix
import Derived.Test.YtkgnlamlmnhleaaDoorIntS
import Derived.WalkKit
import Derived.WalkSpells
import Derived.WalkLawsBesides
namespace Go.Proofs.YtkgnlamlmnhleaaDoor
open Go.RowKit

theorem lit_ints (w : World) (l : List Int) (hl : l.length ≤ 1000) : IntRow (w.alloc (.cells (intsV l).toArray 3)) w.heap.size (.slice (some ⟨w.heap.size, 0, none⟩) l.length l.length) l := by
  have h := World.ownsRow_lit (base := w.heap.size) (e := 3) (size := 1) w (intsV l).toArray l.length (Nat.le_refl _) (by unfold maxLen; omega) (by simp [intsV])
  simpa [IntRow] using h

/-- a literal row, as the walk has it -/
theorem lit_at (w : World) (cs : Array Value) (l : List Int) (n : Nat) (hcs : cs.toList = intsV l) (hn : l.length = n) (hl : n ≤ 1000) : IntRow (w.alloc (.cells cs 3)) w.heap.size (.slice (some ⟨w.heap.size, 0, none⟩) n n) l := by
  subst hn
  have e : cs = (intsV l).toArray := by rw [← hcs]
  rw [e]; exact lit_ints w l hl

theorem below_lit (w : World) (o : Obj) : Below w.heap.size w (w.alloc o) := (Below.refl _ _).alloc (Nat.le_refl _) _

/-- is c a sign? -/
def sgnB (c : Int) : Bool := inB c 0 1114111 && !inB c 55296 57343

theorem l3Sign_any (c : Int) (w : World) :
    Calls Tryd.prog 30 #[.int .i64 c] w fun e w' => e = .returned (.bool (sgnB c)) ∧ w = w' := by
  have HR : Hid (sgnB c = (inB c 0 1114111 && !inB c 55296 57343)) := rfl
  cases h1 : inB c 0 1114111
  · go_enter Tryd.func30, Tryd.ntmps30
    go_wp2_with (go_at_call 29; refine (in_any _ _ _ _).mono ?_; rintro e w' ⟨rfl, rfl⟩)
    go_ret
    exact ⟨by rw [HR.out, h1]; rfl, rfl⟩
  · go_enter Tryd.func30, Tryd.ntmps30
    go_wp2_with (go_at_call 29; refine (in_any _ _ _ _).mono ?_; rintro e w' ⟨rfl, rfl⟩)
    go_ret
    exact ⟨by rw [HR.out, h1]; simp, rfl⟩

def amongB (c : Int) (l : List Int) : Bool := l.contains c

theorem among_no (c : Int) (l : List Int) (h : ∀ t, t < l.length → l.getD t 0 ≠ c) : amongB c l = false := by
  cases e : amongB c l with
  | false => rfl
  | true =>
    have hm : c ∈ l := by simpa [amongB] using e
    obtain ⟨t, ht, rfl⟩ := List.mem_iff_getElem.1 hm
    exact absurd (by simp [List.getD, ht]) (h t ht)
theorem among_yes (c : Int) (l : List Int) (t : Nat) (ht : t < l.length) (h : l.getD t 0 = c) : amongB c l = true := by
  have : c ∈ l := by
    rw [← h]; simp [List.getD, ht]
  simpa [amongB] using this

set_option maxRecDepth 100000 in
set_option maxHeartbeats 400000 in
theorem l3Among_any (c : Int) (v : Value) (l : List Int) (w : World) (hl : l.length ≤ 1048576) (hv : IntsAt w v l) :
    Calls Tryd.prog 38 #[.int .i64 c, v] w fun e w' => e = .returned (.bool (amongB c l)) ∧ w = w' := by
  obtain ⟨a, ca, rfl, hva⟩ := hv
  have HY := fun t ht h => among_yes c l t ht h
  have HN := among_no c l
  generalize amongB c l = r at HY HN ⊢
  obtain ⟨n, HL⟩ : ∃ n, Hid (n = l.length) := ⟨_, rfl⟩
  rw [← HL.out] at hva hl HY HN ⊢
  go_enter Tryd.func38, Tryd.ntmps38
  go_wp2
  go_loop [5] (fun i => ∃ k : Nat, k ≤ n ∧ i = .int .i64 k ∧ ∀ t, t < k → l.getD t 0 ≠ c) (fun i => n - (intOf i).toNat)
  case atStart => exact ⟨0, Nat.zero_le _, rfl, fun t ht => by omega⟩
  case round =>
    obtain ⟨k, hk, rfl, hne⟩ := hrel
    by_cases hlt : k < n
    · obtain ⟨b1, o1, rfl, hb1, hc1⟩ := hva k hlt
      have HK : Hid (l.getD k 0 = c → r = true) := HY k hlt
      obtain ⟨x, HX⟩ : ∃ x, Hid (x = l.getD k 0) := ⟨_, rfl⟩
      rw [← HX.out] at hc1 HK
      by_cases hx : x = c
      · obtain rfl := HK.out hx
        go_wp2
        go_ret
        exact ⟨rfl, rfl⟩
      · have hx' : (x == c) = false := by simpa using hx
        go_wp2
        go_round
        case rel => exact ⟨k + 1, by omega, by go_num, fun t ht => by
          by_cases htk : t < k
          · exact hne t htk
          · obtain rfl : t = k := by omega
            rw [← HX.out]; exact hx⟩
        case measure => simp [intOf]; omega
    · obtain rfl : k = n := by omega
      obtain rfl := HN hne
      go_wp2
      go_ret
      exact ⟨rfl, rfl⟩

def clsL : List Int := [768, 769, 770, 771, 772, 776, 778]
def clsN (c : Int) : Int := if amongB c clsL then 230 else if c = 803 then 220 else if c = 807 then 202 else 0

/-- the same at a literal row -/
theorem among_lit (c : Int) (l : List Int) (b : Bool) (hb : amongB c l = b) (w : World) (cs : Array Value) (n : Nat) (hcs : cs.toList = intsV l) (hn : l.length = n) (hl : n ≤ 1000) :
    Calls Tryd.prog 38 #[.int .i64 c, .slice (some ⟨w.heap.size, 0, none⟩) n n] (w.alloc (.cells cs 3)) fun e w' => e = .returned (.bool b) ∧ w.alloc (.cells cs 3) = w' := by
  subst hb
  exact l3Among_any c _ l _ (by omega) (lit_at w cs l n hcs hn hl).at

set_option maxRecDepth 100000 in
theorem sClass (c : Int) (w : World) :
    Calls Tryd.prog 22 #[.int .i64 c] w fun e w' => e = .returned (.int .i64 (clsN c)) ∧ Below w.heap.size w w' := by
  cases h1 : amongB c clsL
  · have HR : Hid (clsN c = if c = 803 then 220 else if c = 807 then 202 else 0) := by show _ = _; unfold clsN; rw [h1]; rfl
    go_enter Tryd.func22, Tryd.ntmps22
    go_wp2_with fail
    refine (among_lit c clsL _ h1 _ _ 7 ?_ ?_ ?_).mono ?_
    · rfl
    · rfl
    · decide
    rintro e w' ⟨rfl, rfl⟩
    by_cases h2 : c = 803
    · go_wp2
      go_ret
      exact ⟨ret_int (by rw [HR.out, if_pos h2]), below_lit _ _⟩
    · by_cases h3 : c = 807
      · go_wp2
        go_ret
        exact ⟨ret_int (by rw [HR.out, if_neg h2, if_pos h3]), below_lit _ _⟩
      · have h2' : (c == 803) = false := by simpa using h2
        have h3' : (c == 807) = false := by simpa using h3
        go_wp2
        go_ret
        exact ⟨ret_int (by rw [HR.out, if_neg h2, if_neg h3]), below_lit _ _⟩
  · have HR : Hid (clsN c = 230) := by show _ = _; unfold clsN; rw [h1]; rfl
    go_enter Tryd.func22, Tryd.ntmps22
    go_wp2_with fail
    refine (among_lit c clsL _ h1 _ _ 7 ?_ ?_ ?_).mono ?_
    · rfl
    · rfl
    · decide
    rintro e w' ⟨rfl, rfl⟩
    go_wp2
    go_ret
    exact ⟨ret_int HR.out.symm, below_lit _ _⟩

def foldL : List Int := [198, 208, 216, 222]
/-- is c folded to what is 32 above it? -/
def upB (c : Int) : Bool := inB c 65 90 || inB c 913 929 || inB c 931 937 || inB c 1040 1071 || amongB c foldL
def foldN (c : Int) : List Int := if upB c then [c + 32] else if c = 223 then [115, 115] else if c = 962 then [963] else [c]

theorem upB_le (c : Int) (h : upB c = true) : 65 ≤ c ∧ c ≤ 1071 := by
  simp only [upB, inB, amongB, foldL, Bool.or_eq_true, Bool.and_eq_true, decide_eq_true_eq, List.contains_cons, List.contains_nil, Bool.or_false, beq_iff_eq] at h
  omega

theorem IntRow.mono {w : World} {base base' : Nat} {v : Value} {l : List Int} (h : IntRow w base v l) (hb : base' ≤ base) : IntRow w base' v l := World.ownsRow.mono h hb

/-- a literal row is what is answered -/
theorem ret_lit (w w0 : World) (cs : Array Value) (l : List Int) (n g : Nat) (hg : w.heap.size = g) (hcs : cs.toList = intsV l) (hn : l.length = n) (hl : n ≤ 1000) (hb : Below w0.heap.size w0 w) :
    IntRow (w.alloc (.cells cs 3)) w0.heap.size (.slice (some ⟨g, 0, none⟩) n n) l ∧ Below w0.heap.size w0 (w.alloc (.cells cs 3)) := by
  subst hg
  exact ⟨(lit_at w cs l n hcs hn hl).mono hb.size, hb.alloc hb.size _⟩

end Go.Proofs.YtkgnlamlmnhleaaDoor
