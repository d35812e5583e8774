/- Signs: the tables of spec.Parts. Signs: spec.Parts. -/
import Derived.Test.YtlkemmdcjnaepaaDoorRows
import Derived.Test.YtlkemmdcjnaepaaDoorG05
import Derived.Deep.RegionWith
import Derived.Deep.Cut
import Derived.Deep.CutRange
namespace Go.Proofs.YtlkemmdcjnaepaaDoor

section
open Go.RowKit

theorem heap_alloc_if (w : World) (o : Obj) (i : Nat) : (w.alloc o).heap[i]? = if i = w.heap.size then some o else w.heap[i]? := by
  show (w.heap.push o)[i]? = _
  rw [Array.getElem?_push]

theorem heap_size_alloc (w : World) (o : Obj) : (w.alloc o).heap.size = w.heap.size + 1 := by simp

def prR : Nat → List Int
  | 0 => [192, 200, 204, 210, 217, 224, 232, 236, 242, 249]
  | 1 => [193, 201, 205, 211, 218, 221, 225, 233, 237, 243, 250, 253]
  | 2 => [194, 202, 206, 212, 219, 226, 234, 238, 244, 251]
  | 3 => [195, 209, 213, 227, 241, 245]
  | 4 => [196, 203, 207, 214, 220, 228, 235, 239, 246, 252, 255]
  | 5 => [197, 229]
  | 6 => [199, 231]
  | _ => [7840, 7841]
def prS : Nat → ByteArray
  | 0 => ⟨#[65, 69, 73, 79, 85, 97, 101, 105, 111, 117]⟩
  | 1 => ⟨#[65, 69, 73, 79, 85, 89, 97, 101, 105, 111, 117, 121]⟩
  | 2 => ⟨#[65, 69, 73, 79, 85, 97, 101, 105, 111, 117]⟩
  | 3 => ⟨#[65, 78, 79, 97, 110, 111]⟩
  | 4 => ⟨#[65, 69, 73, 79, 85, 97, 101, 105, 111, 117, 121]⟩
  | 5 => ⟨#[65, 97]⟩
  | 6 => ⟨#[67, 99]⟩
  | _ => ⟨#[65, 97]⟩
def prM : List Int := [768, 769, 770, 771, 776, 778, 807, 803]

theorem prR_le : ∀ t, t < 8 → (prR t).length ≤ (prS t).size ∧ (prR t).length ≤ 12 := by decide

/-- the tables lie in the blocks from w's size on -/
def PrtTab (w wr : World) : Prop :=
  w.heap.size + 11 ≤ wr.heap.size ∧ Below w.heap.size w wr ∧ ∀ t, t < 8 →
    wr.cell? ⟨w.heap.size + 8, t, none⟩ = some (.slice (some ⟨w.heap.size + t, 0, none⟩) (prR t).length (prR t).length) ∧
    IntsAt wr (.slice (some ⟨w.heap.size + t, 0, none⟩) (prR t).length (prR t).length) (prR t) ∧
    wr.cell? ⟨w.heap.size + 9, t, none⟩ = some (.string (prS t)) ∧
    wr.cell? ⟨w.heap.size + 10, t, none⟩ = some (.int .i64 (prM.getD t 0))

theorem PrtTab.below {w wr w' : World} (h : PrtTab w wr) (b : Below wr.heap.size wr w') : PrtTab w w' := by
  refine ⟨Nat.le_trans h.1 b.size, h.2.1.trans (b.mono (by have := h.1; omega)), fun t ht => ?_⟩
  obtain ⟨h1, h2, h3, h4⟩ := h.2.2 t ht
  have hs := h.1
  exact ⟨(b.cell (p := ⟨w.heap.size + 8, t, none⟩) (by show w.heap.size + 8 < _; omega)).trans h1, h2.below b,
    (b.cell (p := ⟨w.heap.size + 9, t, none⟩) (by show w.heap.size + 9 < _; omega)).trans h3, (b.cell (p := ⟨w.heap.size + 10, t, none⟩) (by show w.heap.size + 10 < _; omega)).trans h4⟩

/-- a block of integers reads as them -/
theorem ints_of_block {w : World} {g : Nat} {cs : Array Value} {l : List Int} (h : w.heap[g]? = some (.cells cs 3 (0, 0))) (hc : cs.toList = intsV l) : IntsAt w (.slice (some ⟨g, 0, none⟩) l.length l.length) l := by
  refine ⟨some ⟨g, 0, none⟩, l.length, rfl, fun t ht => ⟨g, 0, rfl, lt_of_block h, ?_⟩⟩
  rw [Nat.zero_add, cell_of_row w g t cs 3 (0, 0) h, ← Array.getElem?_toList, hc]
  exact intsV_get l t ht

def prtRows (g : Nat) : Array Value := #[.slice (some ⟨g, 0, none⟩) 10 10, .slice (some ⟨g + 1, 0, none⟩) 12 12, .slice (some ⟨g + 2, 0, none⟩) 10 10, .slice (some ⟨g + 3, 0, none⟩) 6 6, .slice (some ⟨g + 4, 0, none⟩) 11 11, .slice (some ⟨g + 5, 0, none⟩) 2 2, .slice (some ⟨g + 6, 0, none⟩) 2 2, .slice (some ⟨g + 7, 0, none⟩) 2 2]
def prtStrs : Array Value := #[.string (prS 0), .string (prS 1), .string (prS 2), .string (prS 3), .string (prS 4), .string (prS 5), .string (prS 6), .string (prS 7)]

theorem prtRows_get (g t : Nat) (ht : t < 8) : (prtRows g)[t]? = some (.slice (some ⟨g + t, 0, none⟩) (prR t).length (prR t).length) := by
  match t, ht with
  | 0, _ => rfl
  | 1, _ => rfl
  | 2, _ => rfl
  | 3, _ => rfl
  | 4, _ => rfl
  | 5, _ => rfl
  | 6, _ => rfl
  | 7, _ => rfl
theorem prtStrs_get (t : Nat) (ht : t < 8) : prtStrs[t]? = some (.string (prS t)) := by
  match t, ht with
  | 0, _ => rfl
  | 1, _ => rfl
  | 2, _ => rfl
  | 3, _ => rfl
  | 4, _ => rfl
  | 5, _ => rfl
  | 6, _ => rfl
  | 7, _ => rfl

theorem prt_tab (w w' : World) (c0 c1 c2 c3 c4 c5 c6 c7 rs ss ms : Array Value) (TR TS : TypeId)
    (h0 : c0.toList = intsV (prR 0)) (h1 : c1.toList = intsV (prR 1)) (h2 : c2.toList = intsV (prR 2)) (h3 : c3.toList = intsV (prR 3)) (h4 : c4.toList = intsV (prR 4)) (h5 : c5.toList = intsV (prR 5)) (h6 : c6.toList = intsV (prR 6)) (h7 : c7.toList = intsV (prR 7))
    (hr : rs = prtRows w.heap.size) (hs : ss = prtStrs) (hm : ms.toList = intsV prM)
    (hw : w' = ((((((((((w.alloc (.cells c0 3)).alloc (.cells c1 3)).alloc (.cells c2 3)).alloc (.cells c3 3)).alloc (.cells c4 3)).alloc (.cells c5 3)).alloc (.cells c6 3)).alloc (.cells c7 3)).alloc (.cells rs TR)).alloc (.cells ss TS)).alloc (.cells ms 3)) :
    PrtTab w w' := by
  have hsz : w'.heap.size = w.heap.size + 11 := by rw [hw]; simp
  have hB : Below w.heap.size w w' := by
    rw [hw]
    have e := Below.refl w.heap.size w
    exact ((((((((((e.alloc (by simp) _).alloc (by simp) _).alloc (by simp; omega) _).alloc (by simp; omega) _).alloc (by simp; omega) _).alloc (by simp; omega) _).alloc (by simp; omega) _).alloc (by simp; omega) _).alloc (by simp; omega) _).alloc (by simp; omega) _).alloc (by simp; omega) _
  have b8 : w'.heap[w.heap.size + 8]? = some (.cells rs TR) := by rw [hw]; simp only [heap_alloc_if, heap_size_alloc]; repeat (first | rw [if_pos trivial] | rw [if_pos (by omega)] | rw [if_neg (by omega)])
  have b9 : w'.heap[w.heap.size + 9]? = some (.cells ss TS) := by rw [hw]; simp only [heap_alloc_if, heap_size_alloc]; repeat (first | rw [if_pos trivial] | rw [if_pos (by omega)] | rw [if_neg (by omega)])
  have b10 : w'.heap[w.heap.size + 10]? = some (.cells ms 3) := by rw [hw]; simp only [heap_alloc_if, heap_size_alloc]; repeat (first | rw [if_pos trivial] | rw [if_pos (by omega)] | rw [if_neg (by omega)])
  have hI : ∀ t, t < 8 → IntsAt w' (.slice (some ⟨w.heap.size + t, 0, none⟩) (prR t).length (prR t).length) (prR t) := by
    intro t ht
    match t, ht with
    | 0, _ => exact ints_of_block (by rw [hw]; simp only [heap_alloc_if, heap_size_alloc]; repeat (first | rw [if_pos trivial] | rw [if_pos (by omega)] | rw [if_neg (by omega)])) h0
    | 1, _ => exact ints_of_block (by rw [hw]; simp only [heap_alloc_if, heap_size_alloc]; repeat (first | rw [if_pos trivial] | rw [if_pos (by omega)] | rw [if_neg (by omega)])) h1
    | 2, _ => exact ints_of_block (by rw [hw]; simp only [heap_alloc_if, heap_size_alloc]; repeat (first | rw [if_pos trivial] | rw [if_pos (by omega)] | rw [if_neg (by omega)])) h2
    | 3, _ => exact ints_of_block (by rw [hw]; simp only [heap_alloc_if, heap_size_alloc]; repeat (first | rw [if_pos trivial] | rw [if_pos (by omega)] | rw [if_neg (by omega)])) h3
    | 4, _ => exact ints_of_block (by rw [hw]; simp only [heap_alloc_if, heap_size_alloc]; repeat (first | rw [if_pos trivial] | rw [if_pos (by omega)] | rw [if_neg (by omega)])) h4
    | 5, _ => exact ints_of_block (by rw [hw]; simp only [heap_alloc_if, heap_size_alloc]; repeat (first | rw [if_pos trivial] | rw [if_pos (by omega)] | rw [if_neg (by omega)])) h5
    | 6, _ => exact ints_of_block (by rw [hw]; simp only [heap_alloc_if, heap_size_alloc]; repeat (first | rw [if_pos trivial] | rw [if_pos (by omega)] | rw [if_neg (by omega)])) h6
    | 7, _ => exact ints_of_block (by rw [hw]; simp only [heap_alloc_if, heap_size_alloc]; repeat (first | rw [if_pos trivial] | rw [if_pos (by omega)] | rw [if_neg (by omega)])) h7
  refine ⟨by omega, hB, fun t ht => ⟨?_, hI t ht, ?_, ?_⟩⟩
  · rw [cell_of_row w' _ t rs TR (0, 0) b8, hr]; exact prtRows_get _ t ht
  · rw [cell_of_row w' _ t ss TS (0, 0) b9, hs]; exact prtStrs_get t ht
  · rw [cell_of_row w' _ t ms 3 (0, 0) b10, ← Array.getElem?_toList, hm]; exact intsV_get prM t ht
end

section
open Go.RowKit

def grkL : List Int := [902, 904, 905, 906, 908, 910, 911, 940, 941, 942, 943, 972, 973, 974]
def grkB : List Int := [913, 917, 919, 921, 927, 933, 937, 945, 949, 951, 953, 959, 965, 969]
def grkF (c : Int) (t : Nat) : List Int := if grkL.getD t 0 = c then [grkB.getD t 0, 769] else []
def tabF (c : Int) (t : Nat) : List Int := rowN c (prR t) (prS t) (prM.getD t 0)
def hanN (c : Int) : List Int :=
  if (c - 44032) % 28 > 0 then [4352 + (c - 44032) / 588, 4449 + (c - 44032) % 588 / 28, 4519 + (c - 44032) % 28] else [4352 + (c - 44032) / 588, 4449 + (c - 44032) % 588 / 28]
def tailN (c : Int) : List Int :=
  if c == 469 then [220, 772] else if c == 470 then [252, 772] else if c == 7852 then [7840, 770] else if c == 7853 then [7841, 770] else if c == 8486 then [937] else if c == 8491 then [197]
  else if inB c 44032 55203 then hanN c else []
def partsN (c : Int) : List Int :=
  if firstNE (tabF c) 8 = [] then (if firstNE (grkF c) 14 = [] then tailN c else firstNE (grkF c) 14) else firstNE (tabF c) 8

theorem partsN_tab (c : Int) (k : Nat) (hk : k < 8) (h : ∀ t, t < k → tabF c t = []) (hne : tabF c k ≠ []) : partsN c = tabF c k := by
  unfold partsN; rw [firstNE_yes (tabF c) 8 k hk h hne, if_neg hne]
theorem partsN_grk (c : Int) (h0 : ∀ t, t < 8 → tabF c t = []) (k : Nat) (hk : k < 14) (h : ∀ t, t < k → grkF c t = []) (hne : grkF c k ≠ []) : partsN c = grkF c k := by
  unfold partsN; rw [firstNE_no (tabF c) 8 h0, if_pos rfl, firstNE_yes (grkF c) 14 k hk h hne, if_neg hne]
theorem partsN_tail (c : Int) (h0 : ∀ t, t < 8 → tabF c t = []) (h : ∀ t, t < 14 → grkF c t = []) : partsN c = tailN c := by
  unfold partsN; rw [firstNE_no (tabF c) 8 h0, if_pos rfl, firstNE_no (grkF c) 14 h, if_pos rfl]

set_option maxRecDepth 100000 in
set_option maxHeartbeats 4000000 in
theorem sParts (c : Int) (w : World) :
    Calls Tryd.prog 104 #[.int .i64 c] w fun e w' => ∃ v, e = .returned v ∧ IntRow w' w.heap.size v (partsN c) ∧ Below w.heap.size w w' := by
  have H1 := partsN_tab c
  have H2 := partsN_grk c
  have H3 := partsN_tail c
  generalize partsN c = r at H1 H2 H3 ⊢
  go_enter Tryd.func104, Tryd.ntmps104
  go_wp2
  go_loopw [6] (fun i wr => ∃ k : Nat, k ≤ 8 ∧ i = .int .i64 k ∧ (∀ t, t < k → tabF c t = []) ∧ PrtTab w wr) (fun i _ => 8 - (intOf i).toNat)
  case atStart =>
    refine ⟨0, Nat.zero_le _, rfl, fun t ht => by omega, ?_⟩
    refine prt_tab w _ _ _ _ _ _ _ _ _ _ _ _ _ _ ?_ ?_ ?_ ?_ ?_ ?_ ?_ ?_ ?_ ?_ ?_ rfl <;> rfl
  case round =>
    obtain ⟨k, hk, rfl, hne, htab⟩ := hrel
    by_cases hlt : k < 8
    · obtain ⟨hc1, hI, hc2, hc3⟩ := htab.2.2 k hlt
      have hle := prR_le k hlt
      have HT : Hid (tabF c k = rowN c (prR k) (prS k) (prM.getD k 0)) := rfl
      have hbel : Below w.heap.size w wr := htab.2.1
      have HK : Hid (tabF c k ≠ [] → r = tabF c k) := fun h => H1 k hlt hne h
      obtain ⟨q, HQ⟩ : ∃ q, Hid (tabF c k = q) := ⟨_, rfl⟩
      rw [HQ.out] at HT HK
      generalize prR k = l at hc1 hI hle HT
      generalize prS k = s at hc2 hle HT
      generalize prM.getD k 0 = m at hc3 HT
      have hkn : (k : Int) < 8 := by omega
      have hk0 : (0 : Int) ≤ (k : Int) := by omega
      go_wp2
      go_cut [7] from 24 to 47 (fun lv wx => IntRow wx wr.heap.size lv q ∧ Below wr.heap.size wr wx)
      case first =>
        go_region_with (go_at_call 114; refine (l3Row_any c m _ l s _ ?_ ?_ ?_).mono ?_; exact hle.1; omega; exact hI; rintro e w1 ⟨u, rfl, hrow, hb1⟩)
        all_goals (try go_wp2_with fail)
        all_goals go_meet
        all_goals (rw [HT.out]; exact ⟨hrow, ⟨hb1.os, hb1.tape, hb1.output, hb1.size, hb1.block⟩⟩)
      case rest =>
        obtain ⟨hrow, hb1⟩ := hcut
        obtain ⟨a, ca, rfl, -⟩ := hrow.at
        by_cases hq : q = []
        · subst hq
          go_wp2
          go_roundw
          case rel =>
            exact ⟨k + 1, by omega, by go_num, fun t ht => by
              by_cases htk : t < k
              · exact hne t htk
              · obtain rfl : t = k := by omega
                exact HQ.out, htab.below hb1⟩
          case measure => simp [intOf]; omega
        · have hlen : (0 : Int) < (q.length : Int) := by
            have := List.length_pos_iff.2 hq; omega
          go_wp2
          go_ret
          refine ⟨_, rfl, ?_, hbel.trans (hb1.mono hbel.size)⟩
          rw [HK.out hq]
          exact hrow.mono hbel.size
    · obtain rfl : k = 8 := by omega
      have hbel : Below w.heap.size w wr := htab.2.1
      have H2' := H2 hne
      have H3' := H3 hne
      clear H1 H2 H3 htab hlt hk
      go_wp2
      obtain ⟨f1, f2, hb0, hs0⟩ := lits_two wr #[.int .i64 902, .int .i64 904, .int .i64 905, .int .i64 906, .int .i64 908, .int .i64 910, .int .i64 911, .int .i64 940, .int .i64 941, .int .i64 942, .int .i64 943, .int .i64 972, .int .i64 973, .int .i64 974]
        #[.int .i64 913, .int .i64 917, .int .i64 919, .int .i64 921, .int .i64 927, .int .i64 933, .int .i64 937, .int .i64 945, .int .i64 949, .int .i64 951, .int .i64 953, .int .i64 959, .int .i64 965, .int .i64 969]
        grkL grkB 14 _ rfl rfl rfl rfl (by decide) rfl
      generalize (wr.alloc (.cells #[.int .i64 902, .int .i64 904, .int .i64 905, .int .i64 906, .int .i64 908, .int .i64 910, .int .i64 911, .int .i64 940, .int .i64 941, .int .i64 942, .int .i64 943, .int .i64 972, .int .i64 973, .int .i64 974] 3)).alloc (.cells #[.int .i64 913, .int .i64 917, .int .i64 919, .int .i64 921, .int .i64 927, .int .i64 933, .int .i64 937, .int .i64 945, .int .i64 949, .int .i64 951, .int .i64 953, .int .i64 959, .int .i64 965, .int .i64 969] 3) = w2 at f1 f2 hb0 hs0 ⊢
      have hbw : Below w.heap.size w w2 := hbel.trans (hb0.mono hbel.size)
      have hsw := hbel.size
      generalize wr.heap.size = G at f1 f2 hs0 hsw ⊢
      clear hb0 hbel
      go_loop [10] (fun i => ∃ k : Nat, k ≤ 14 ∧ i = .int .i64 k ∧ (∀ t, t < k → grkF c t = [])) (fun i => 14 - (intOf i).toNat)
      case atStart => exact ⟨0, Nat.zero_le _, rfl, fun t ht => by omega⟩
      case round =>
        obtain ⟨k, hk, rfl, hng⟩ := hrel
        by_cases hlt : k < 14
        · have hc1 := f1 k hlt
          have hc2 := f2 k hlt
          have HK : Hid (grkF c k ≠ [] → r = grkF c k) := H2' k hlt hng
          have HF : Hid (grkF c k = if grkL.getD k 0 = c then [grkB.getD k 0, 769] else []) := rfl
          obtain ⟨x, HX⟩ : ∃ x, Hid (x = grkL.getD k 0) := ⟨_, rfl⟩
          obtain ⟨y, HY⟩ : ∃ y, Hid (y = grkB.getD k 0) := ⟨_, rfl⟩
          rw [← HX.out] at hc1 HF
          rw [← HY.out] at hc2 HF
          rcases Bool.eq_false_or_eq_true (x == c) with hx | hx
          · have HE : Hid (r = [y, 769]) := by
              have e : grkF c k = [y, 769] := by rw [HF.out, if_pos (by simpa using hx)]
              show _ = _
              rw [HK.out (by rw [e]; simp), e]
            clear H2' H3' f1 f2
            go_wp2
            go_ret
            rw [HE.out]
            refine ⟨.slice (some ⟨G + 2, 0, none⟩) 2 2, rfl, ret_lit _ w _ _ 2 _ ?_ ?_ ?_ ?_ ?_⟩ <;> first | rfl | decide | exact hbw | exact hs0
          · have HE : Hid (grkF c k = []) := by
              show _ = _
              rw [HF.out, if_neg (by simpa using hx)]
            clear H2' H3' f1 f2
            go_wp2
            go_round
            case rel => exact ⟨k + 1, by omega, by go_num, fun t ht => by
              by_cases htk : t < k
              · exact hng t htk
              · obtain rfl : t = k := by omega
                exact HE.out⟩
            case measure => simp [intOf]; omega
        · obtain rfl : k = 14 := by omega
          have HR : Hid (r = tailN c) := H3' hng
          clear H2' H3' f1 f2 hlt hk hng
          rcases Bool.eq_false_or_eq_true (c == 469) with h0 | h0
          · have HE : Hid (r = [220, 772]) := by show _ = _; rw [HR.out]; unfold tailN; rw [if_pos h0]
            clear HR
            go_wp2
            go_ret
            rw [HE.out]
            refine ⟨.slice (some ⟨G + 2, 0, none⟩) 2 2, rfl, ret_lit _ w _ _ 2 _ ?_ ?_ ?_ ?_ ?_⟩ <;> first | rfl | decide | exact hbw | exact hs0
          · skip
            rcases Bool.eq_false_or_eq_true (c == 470) with h1 | h1
            · have HE : Hid (r = [252, 772]) := by show _ = _; rw [HR.out]; unfold tailN; rw [if_neg (by simp [h0]), if_pos h1]
              clear HR
              go_wp2
              go_ret
              rw [HE.out]
              refine ⟨.slice (some ⟨G + 2, 0, none⟩) 2 2, rfl, ret_lit _ w _ _ 2 _ ?_ ?_ ?_ ?_ ?_⟩ <;> first | rfl | decide | exact hbw | exact hs0
            · skip
              rcases Bool.eq_false_or_eq_true (c == 7852) with h2 | h2
              · have HE : Hid (r = [7840, 770]) := by show _ = _; rw [HR.out]; unfold tailN; rw [if_neg (by simp [h0]), if_neg (by simp [h1]), if_pos h2]
                clear HR
                go_wp2
                go_ret
                rw [HE.out]
                refine ⟨.slice (some ⟨G + 2, 0, none⟩) 2 2, rfl, ret_lit _ w _ _ 2 _ ?_ ?_ ?_ ?_ ?_⟩ <;> first | rfl | decide | exact hbw | exact hs0
              · skip
                rcases Bool.eq_false_or_eq_true (c == 7853) with h3 | h3
                · have HE : Hid (r = [7841, 770]) := by show _ = _; rw [HR.out]; unfold tailN; rw [if_neg (by simp [h0]), if_neg (by simp [h1]), if_neg (by simp [h2]), if_pos h3]
                  clear HR
                  go_wp2
                  go_ret
                  rw [HE.out]
                  refine ⟨.slice (some ⟨G + 2, 0, none⟩) 2 2, rfl, ret_lit _ w _ _ 2 _ ?_ ?_ ?_ ?_ ?_⟩ <;> first | rfl | decide | exact hbw | exact hs0
                · skip
                  rcases Bool.eq_false_or_eq_true (c == 8486) with h4 | h4
                  · have HE : Hid (r = [937]) := by show _ = _; rw [HR.out]; unfold tailN; rw [if_neg (by simp [h0]), if_neg (by simp [h1]), if_neg (by simp [h2]), if_neg (by simp [h3]), if_pos h4]
                    clear HR
                    go_wp2
                    go_ret
                    rw [HE.out]
                    refine ⟨.slice (some ⟨G + 2, 0, none⟩) 1 1, rfl, ret_lit _ w _ _ 1 _ ?_ ?_ ?_ ?_ ?_⟩ <;> first | rfl | decide | exact hbw | exact hs0
                  · skip
                    rcases Bool.eq_false_or_eq_true (c == 8491) with h5 | h5
                    · have HE : Hid (r = [197]) := by show _ = _; rw [HR.out]; unfold tailN; rw [if_neg (by simp [h0]), if_neg (by simp [h1]), if_neg (by simp [h2]), if_neg (by simp [h3]), if_neg (by simp [h4]), if_pos h5]
                      clear HR
                      go_wp2
                      go_ret
                      rw [HE.out]
                      refine ⟨.slice (some ⟨G + 2, 0, none⟩) 1 1, rfl, ret_lit _ w _ _ 1 _ ?_ ?_ ?_ ?_ ?_⟩ <;> first | rfl | decide | exact hbw | exact hs0
                    · skip
                      cases h6 : inB c 44032 55203
                      · have HE : Hid (r = []) := by show _ = _; rw [HR.out]; unfold tailN; rw [if_neg (by simp [h0]), if_neg (by simp [h1]), if_neg (by simp [h2]), if_neg (by simp [h3]), if_neg (by simp [h4]), if_neg (by simp [h5]), if_neg (by simp [h6])]
                        clear HR
                        go_wp2_with (go_at_call 40; refine (in_any _ _ _ _).mono ?_; rintro e w' ⟨rfl, rfl⟩)
                        go_ret
                        rw [HE.out]
                        refine ⟨.slice (some ⟨G + 2, 0, none⟩) 0 0, rfl, ret_lit _ w _ _ 0 _ ?_ ?_ ?_ ?_ ?_⟩ <;> first | rfl | decide | exact hbw | exact hs0
                      · have hb := inB_le h6
                        have HE : Hid (r = hanN c) := by show _ = _; rw [HR.out]; unfold tailN; rw [if_neg (by simp [h0]), if_neg (by simp [h1]), if_neg (by simp [h2]), if_neg (by simp [h3]), if_neg (by simp [h4]), if_neg (by simp [h5]), if_pos h6]
                        have HH : Hid (hanN c = if (c - 44032) % 28 > 0 then [4352 + (c - 44032) / 588, 4449 + (c - 44032) % 588 / 28, 4519 + (c - 44032) % 28] else [4352 + (c - 44032) / 588, 4449 + (c - 44032) % 588 / 28]) := rfl
                        clear HR
                        obtain ⟨n, hn⟩ : ∃ n, c - 44032 = n := ⟨_, rfl⟩
                        rw [hn] at HH
                        have hn0 : 0 ≤ n := by omega
                        have hn1 : n ≤ 11171 := by omega
                        by_cases h28 : n % 28 > 0
                        · have HX : Hid (r = [4352 + n / 588, 4449 + n % 588 / 28] ++ [4519 + n % 28]) := by show _ = _; rw [HE.out, HH.out, if_pos h28]; rfl
                          clear HE HH
                          obtain ⟨x0, hx0⟩ : ∃ x, 4352 + n / 588 = x := ⟨_, rfl⟩
                          obtain ⟨x1, hx1⟩ : ∃ x, 4449 + n % 588 / 28 = x := ⟨_, rfl⟩
                          obtain ⟨x2, hx2⟩ : ∃ x, 4519 + n % 28 = x := ⟨_, rfl⟩
                          rw [hx0, hx1, hx2] at HX
                          obtain ⟨hL, hLb⟩ := ret_lit w2 w #[.int .i64 x0, .int .i64 x1] [x0, x1] 2 (G + 2) hs0 rfl rfl (by decide) hbw
                          go_wp2_with (first | (go_at_call 40; refine (in_any _ _ _ _).mono ?_; rintro e w' ⟨rfl, rfl⟩) | (at_builtin; refine append_int _ rfl (.tmp 103) (.tmp 107) rfl w.heap.size _ [x0, x1] x2 (by simp) hL rfl (by rw [heap_size_alloc, hs0]; rfl) hLb.size ?_; intro v' w3 hrow3 hbel3))
                          go_ret
                          refine ⟨_, rfl, ?_, hLb.trans hbel3⟩
                          rw [HX.out]
                          exact hrow3
                        · have HX : Hid (r = [4352 + n / 588, 4449 + n % 588 / 28]) := by show _ = _; rw [HE.out, HH.out, if_neg h28]
                          clear HE HH
                          go_wp2_with (go_at_call 40; refine (in_any _ _ _ _).mono ?_; rintro e w' ⟨rfl, rfl⟩)
                          go_ret
                          rw [HX.out]
                          refine ⟨.slice (some ⟨G + 2, 0, none⟩) 2 2, rfl, ret_lit _ w _ _ 2 _ ?_ ?_ ?_ ?_ ?_⟩ <;> first | rfl | decide | exact hbw | exact hs0
end

end Go.Proofs.YtlkemmdcjnaepaaDoor
