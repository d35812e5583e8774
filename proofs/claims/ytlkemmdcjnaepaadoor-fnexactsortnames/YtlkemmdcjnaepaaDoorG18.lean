/- Names: spec.Apart: its contract. Sums: what eight halvings of a number make, and two look-ups in a table of sixteen. No word of the program. spec.Crc: its contract. impl.Crc: the running sum behind a pointer, its two look-ups a byte, and its contract. The table of sums; the sum of a text. -/
import Derived.Test.YtlkemmdcjnaepaaDoorRows
import Derived.Test.YtlkemmdcjnaepaaDoorG00
import Derived.Test.YtlkemmdcjnaepaaDoorG09
import Derived.Test.YtlkemmdcjnaepaaDoorG10
import Derived.Test.YtlkemmdcjnaepaaDoorG17
import Derived.Lib.QuietBelow
import Derived.BigQuiet
import Derived.Laws.BitsAllLaws
import Derived.WalkKit
import Derived.WalkSpells
import Derived.WalkLawsBesides
import Derived.RegionTactic
import Derived.ChangeAlike
import Derived.Deep.QuietTactic
import Derived.Below
namespace Go.Proofs.YtlkemmdcjnaepaaDoor

section
open Go.RowKit Go.Sort

/-- two neighbours of a row change places -/
theorem row_swap {w : World} {base g cap n : Nat} {p : List Int} {z x : Int} {r : List Int} (h : w.ownsRow base 3 1 (.slice (some ⟨g, 0, none⟩) n cap) n (intsV (p ++ z :: x :: r))) :
    ((w.setCell ⟨g, p.length + 1, none⟩ (.int .i64 z)).setCell ⟨g, p.length, none⟩ (.int .i64 x)).ownsRow base 3 1 (.slice (some ⟨g, 0, none⟩) n cap) n (intsV (p ++ x :: z :: r)) := by
  have h1 := (h.stored (p.length + 1) (.int .i64 z)).1
  have h2 := (h1.stored p.length (.int .i64 x)).1
  have e : ((intsV (p ++ z :: x :: r)).set (p.length + 1) (.int .i64 z)).set p.length (.int .i64 x) = intsV (p ++ x :: z :: r) := by
    simp [intsV]
  rwa [e] at h2

theorem World.ownsRow.below' {w w' : World} {base : Nat} {v : Value} {n : Nat} {xs : List Value} (h : w.ownsRow base 3 1 v n xs) (b : Below w.heap.size w w') : w'.ownsRow base 3 1 v n xs := by
  rcases h.2 with ⟨rfl, h0⟩ | ⟨g, cap, cur, rfl, hg, hh, hnc, hcp, hcs, ht⟩
  · exact ⟨h.1, .inl ⟨rfl, h0⟩⟩
  · exact ⟨h.1, .inr ⟨g, cap, cur, rfl, hg, (b.block g (lt_of_block hh)).trans hh, hnc, hcp, hcs, ht⟩⟩

theorem srt_start (T : List Int) : (srtR [] (T.take 1)).reverse ++ T.drop 1 = T := by
  cases T with
  | nil => rfl
  | cons x T => rfl
theorem srt_next (T : List Int) (i : Nat) (h : i < T.length) : srtR [] (T.take (i + 1)) = insR (T.getD i 0) (srtR [] (T.take i)) := by
  have e : T.take (i + 1) = T.take i ++ [T.getD i 0] := by
    rw [List.take_add_one, List.getElem?_eq_getElem h]; simp [List.getD, h]
  rw [e, srtR_append]; rfl
theorem drop_next (T : List Int) (i : Nat) (h : i < T.length) : T.drop i = T.getD i 0 :: T.drop (i + 1) := by
  rw [List.drop_eq_getElem_cons h]; simp [List.getD, h]

theorem cls_any (c : Int) (w : World) (d : Nat) (os : Array Obj) :
    Calls Tryd.prog 87 #[.int .i64 c] (grow (redrawn w d) os) fun e w'' => e = .returned (.int .i64 (clsN c)) ∧ ∃ p : Regrown, w'' = grow (redrawn w p.d) p.os :=
  Calls.regrown_of (sClass c _)

set_option maxRecDepth 100000 in
set_option maxHeartbeats 1600000 in
theorem sApart (v : Value) (l : List Int) (w : World) (hl : l.length ≤ 1048576) (hv : IntsAt w v l) :
    Calls Tryd.prog 61 #[v] w fun e w' => ∃ u, e = .returned u ∧ IntRow w' w.heap.size u (apartN l) ∧ Below w.heap.size w w' := by
  obtain ⟨a, ca, rfl, hva⟩ := hv
  have HT := flatMap_take l takeN
  have HE : Hid ((l.take l.length).flatMap takeN = l.flatMap takeN) := by show _ = _; rw [List.take_length]
  have HL : ∀ k, ((l.take k).flatMap takeN).length ≤ 9 * l.length := fun k => Nat.le_trans (flat_len takeN 9 (fun c => (takeN_ne c).2) _) (by simp; omega)
  have HLL : (l.flatMap takeN).length ≤ 9 * l.length := flat_len takeN 9 (fun c => (takeN_ne c).2) _
  have HR : Hid (apartN l = srtN (l.flatMap takeN)) := rfl
  obtain ⟨n, HN⟩ : ∃ n, Hid (n = l.length) := ⟨_, rfl⟩
  rw [← HN.out] at hva hl HE HL HLL ⊢
  generalize apartN l = r at HR ⊢
  generalize l.flatMap takeN = T at HR HE HLL
  go_enter Tryd.func61, Tryd.ntmps61
  go_wp2
  go_loopw [3, 4] (fun o i wr => ∃ k : Nat, k ≤ n ∧ i = .int .i64 k ∧ IntRow wr w.heap.size o ((l.take k).flatMap takeN) ∧ Below w.heap.size w wr) (fun _ i _ => n - (intOf i).toNat)
  case atStart => exact ⟨0, Nat.zero_le _, rfl, by simpa using lit_at w #[] [] 0 rfl rfl (by decide), below_lit _ _⟩
  case round =>
    obtain ⟨k, hk, rfl, hown, hbel⟩ := hrel
    by_cases hlt : k < n
    · obtain ⟨b1, o1, rfl, hb1, hc1⟩ := hva k hlt
      have hc1' := (hbel.cell (p := ⟨b1, o1 + k, none⟩) hb1).trans hc1
      have HS : Hid ((l.take (k + 1)).flatMap takeN = (l.take k).flatMap takeN ++ takeN (l.getD k 0)) := HT k (by rw [← HN.out]; exact hlt)
      have hll := HL k
      have hnn := takeN_ne (l.getD k 0)
      have hH := sTake (l.getD k 0)
      generalize l.getD k 0 = d at hc1' HS hnn hH
      generalize (l.take k).flatMap takeN = q at hown HS hll
      generalize takeN d = m at HS hnn hH
      go_wp2_with (first | (go_at_call 86; refine (hH _).mono ?_; rintro e w2 ⟨u, rfl, hrow2, hb2⟩; have hown2 := hown.below hb2; have hbel2 := hbel.trans (hb2.mono hbel.size)) | (at_builtin; refine append_ints w2 rfl (.tmp 15) (.tmp 20) rfl w.heap.size _ u q m hnn.1 (by omega) hown2 hrow2.at rfl rfl hbel2.size ?_; intro v' w3 hown3 hbel3))
      go_roundw
      case rel => exact ⟨k + 1, by omega, by go_num, by rw [HS.out]; exact hown3, hbel2.trans hbel3⟩
      case measure => simp [intOf]; omega
    · obtain rfl : k = n := by omega
      rw [HE.out] at hown
      clear HE HT HL hva
      by_cases hT : T = []
      · subst hT
        obtain ⟨a2, c2, rfl, -⟩ := hown.at
        go_wp2
        refine wp_loop_rounds 1 ?_
        rw [rounds_succ]
        go_wp2
        go_ret
        exact ⟨_, rfl, by rw [HR.out]; exact hown, hbel⟩
      · have hpos : 0 < T.length := List.length_pos_iff.2 hT
        rcases hown.2 with ⟨-, h0⟩ | ⟨g, cap, cur, rfl, hg, -⟩
        · exact absurd h0 (by omega)
        · obtain ⟨m, HM⟩ : ∃ m, Hid (m = T.length) := ⟨_, rfl⟩
          have hown1 : wr.ownsRow w.heap.size 3 1 (.slice (some ⟨g, 0, none⟩) m cap) m (intsV ((srtR [] (T.take 1)).reverse ++ T.drop 1)) := by
            rw [srt_start, HM.out]; exact hown
          have hm : m ≤ 9437184 := by rw [HM.out]; omega
          have hpos' : 1 ≤ m := by rw [HM.out]; exact hpos
          rw [← HM.out]
          clear hown hlt
          go_wp2
          go_loopw [5] (fun iv wr2 => ∃ i : Nat, 1 ≤ i ∧ i ≤ m ∧ iv = .int .i64 i ∧ wr2.ownsRow w.heap.size 3 1 (.slice (some ⟨g, 0, none⟩) m cap) m (intsV ((srtR [] (T.take i)).reverse ++ T.drop i)) ∧ Below w.heap.size w wr2) (fun iv _ => m - (intOf iv).toNat)
          case atStart => exact ⟨1, Nat.le_refl _, hpos', rfl, hown1, hbel⟩
          case round =>
            obtain ⟨i, hi1, hi, rfl, hown2, hbel2⟩ := hrel
            by_cases hlt : i < m
            · have hiT : i < T.length := by rw [← HM.out]; exact hlt
              have HNX : Hid (srtR [] (T.take (i + 1)) = insR (T.getD i 0) (srtR [] (T.take i))) := srt_next T i hiT
              have hsl : (srtR [] (T.take i)).length = i := by rw [srtR_len]; simp; omega
              rw [drop_next T i hiT] at hown2
              generalize T.getD i 0 = x at HNX hown2
              generalize srtR [] (T.take i) = s at HNX hown2 hsl
              obtain ⟨rest, HRE⟩ : ∃ rest, Hid (rest = T.drop (i + 1)) := ⟨_, rfl⟩
              rw [← HRE.out] at hown2
              have hcl : ∀ (w4 : World) (p : List Int) (z : Int) (q : List Int), w4.ownsRow w.heap.size 3 1 (.slice (some ⟨g, 0, none⟩) m cap) m (intsV (p ++ z :: q)) → w4.cell? ⟨g, p.length, none⟩ = some (.int .i64 z) ∧ p.length < m := fun w4 p z q h => by
                have hlen := h.1
                simp [intsV] at hlen
                refine ⟨?_, by omega⟩
                rw [World.ownsRow.cellAt h p.length (by omega)]
                simp [intsV]
              go_wp2
              go_loopw [6] (fun kv wr3 => ∃ q p : List Int, s = q ++ p ∧ kv = .int .i64 (p.length : Nat) ∧ wr3.ownsRow w.heap.size 3 1 (.slice (some ⟨g, 0, none⟩) m cap) m (intsV (p.reverse ++ x :: (q.reverse ++ rest))) ∧ insR x s = q ++ insR x p ∧ Below w.heap.size w wr3) (fun kv _ => (intOf kv).toNat)
              case atStart => exact ⟨[], s, rfl, by rw [hsl], by simpa using hown2, rfl, hbel2⟩
              case round =>
                obtain ⟨q, p, hqp, rfl, hown3, HIN, hbel3⟩ := hrel
                cases p with
                | nil =>
                  have HIN' : insR x s = q ++ [x] := HIN
                  go_wp2
                  refine wp_region_quiet_below (by kernel_rfl) (by kernel_rfl) ?_
                  repeat (go_big_quiet_step (fail))
                  refine wpQuiet_nil ?_
                  rintro w' ⟨⟨dq, osq⟩, rfl⟩
                  have hbq := below_regrown wr dq osq
                  generalize grow (redrawn wr dq) osq = w4 at hbq ⊢
                  have hown4 : w4.ownsRow w.heap.size 3 1 (.slice (some ⟨g, 0, none⟩) m cap) m _ := World.ownsRow.below' hown3 hbq
                  have hbel4 : Below w.heap.size w w4 := hbel3.trans (hbq.mono hbel3.size)
                  go_wp2
                  go_roundw
                  case rel => exact ⟨i + 1, by omega, by omega, by go_num, by rw [HNX.out, HIN', ← HRE.out]; simpa using hown4, hbel4⟩
                  case measure => simp [intOf]; omega
                | cons z p =>
                  rw [List.reverse_cons, List.append_assoc] at hown3
                  have hz := hcl _ p.reverse z _ hown3
                  have hx := hcl wr (p.reverse ++ [z]) x (q.reverse ++ rest) (by simpa using hown3)
                  rw [List.length_reverse] at hz
                  simp only [List.length_append, List.length_reverse, List.length_cons, List.length_nil] at hx
                  have k1 := cell_regrown hz.1
                  have k2 := cell_regrown hx.1
                  have hpm := hx.2
                  have e1 : ((z :: p).length : Int) = (p.length : Int) + 1 := by simp
                  have hk0 : (0 : Int) < (p.length : Int) + 1 := by omega
                  by_cases h0 : 0 < clsN x
                  · by_cases h1 : clsN x < clsN z
                    · have hp : past x z := ⟨h0, h1⟩
                      have HIN' : Hid (insR x s = (q ++ [z]) ++ insR x p) := by show _ = _; rw [HIN, insR_pos hp]; simp
                      clear HIN hp
                      go_wp2
                      refine wp_region_quiet_below (by kernel_rfl) (by kernel_rfl) ?_
                      repeat (go_big_quiet_step (exact cls_any _ _ _ _))
                      refine wpQuiet_nil ?_
                      rintro w' ⟨⟨dq, osq⟩, rfl⟩
                      have hbq := below_regrown wr dq osq
                      generalize grow (redrawn wr dq) osq = w4 at hbq ⊢
                      have hown4 : w4.ownsRow w.heap.size 3 1 (.slice (some ⟨g, 0, none⟩) m cap) m _ := World.ownsRow.below' hown3 hbq
                      have hbel4 : Below w.heap.size w w4 := hbel3.trans (hbq.mono hbel3.size)
                      have hz4 := (hcl w4 p.reverse z _ hown4).1
                      have hx4 := (hcl w4 (p.reverse ++ [z]) x (q.reverse ++ rest) (by simpa using hown4)).1
                      rw [List.length_reverse] at hz4
                      simp only [List.length_append, List.length_reverse, List.length_cons, List.length_nil] at hx4
                      have f0 := World.ownsRow.frozenAt hown4 p.length
                      have f1 := World.ownsRow.frozenAt hown4 (p.length + 1)
                      have hsw := row_swap hown4
                      rw [List.length_reverse] at hsw
                      have HSW : Hid (((w4.setCell ⟨g, p.length + 1, none⟩ (.int .i64 z)).setCell ⟨g, p.length, none⟩ (.int .i64 x)).ownsRow w.heap.size 3 1 (.slice (some ⟨g, 0, none⟩) m cap) m (intsV (p.reverse ++ x :: z :: (q.reverse ++ rest)))) := hsw
                      have hgb : w.heap.size ≤ g := hg
                      clear hsw hown4 hown3
                      go_wp2
                      go_roundw
                      case rel => exact ⟨q ++ [z], p, by rw [hqp]; simp, by go_num, by simpa using HSW.out, HIN'.out, (hbel4.setCell hgb _).setCell hgb _⟩
                      case measure => simp [intOf]
                    · have hp : ¬ past x z := by unfold past; omega
                      have HIN' : insR x s = q ++ (x :: z :: p) := by rw [HIN, insR_neg hp]
                      clear HIN hp
                      go_wp2
                      refine wp_region_quiet_below (by kernel_rfl) (by kernel_rfl) ?_
                      repeat (go_big_quiet_step (exact cls_any _ _ _ _))
                      refine wpQuiet_nil ?_
                      rintro w' ⟨⟨dq, osq⟩, rfl⟩
                      have hbq := below_regrown wr dq osq
                      generalize grow (redrawn wr dq) osq = w4 at hbq ⊢
                      have hown4 : w4.ownsRow w.heap.size 3 1 (.slice (some ⟨g, 0, none⟩) m cap) m _ := World.ownsRow.below' hown3 hbq
                      have hbel4 : Below w.heap.size w w4 := hbel3.trans (hbq.mono hbel3.size)
                      go_wp2
                      go_roundw
                      case rel => exact ⟨i + 1, by omega, by omega, by go_num, by rw [HNX.out, HIN', ← HRE.out]; simpa using hown4, hbel4⟩
                      case measure => simp [intOf]; omega
                  · have hd0 : decide (0 < clsN x) = false := decide_eq_false h0
                    have hp : ¬ past x z := by unfold past; omega
                    have HIN' : insR x s = q ++ (x :: z :: p) := by rw [HIN, insR_neg hp]
                    clear HIN hp
                    go_wp2
                    refine wp_region_quiet_below (by kernel_rfl) (by kernel_rfl) ?_
                    repeat (go_big_quiet_step (exact cls_any _ _ _ _))
                    refine wpQuiet_nil ?_
                    rintro w' ⟨⟨dq, osq⟩, rfl⟩
                    have hbq := below_regrown wr dq osq
                    generalize grow (redrawn wr dq) osq = w4 at hbq ⊢
                    have hown4 : w4.ownsRow w.heap.size 3 1 (.slice (some ⟨g, 0, none⟩) m cap) m _ := World.ownsRow.below' hown3 hbq
                    have hbel4 : Below w.heap.size w w4 := hbel3.trans (hbq.mono hbel3.size)
                    go_wp2
                    go_roundw
                    case rel => exact ⟨i + 1, by omega, by omega, by go_num, by rw [HNX.out, HIN', ← HRE.out]; simpa using hown4, hbel4⟩
                    case measure => simp [intOf]; omega
            · obtain rfl : i = m := by omega
              have HF : Hid ((srtR [] (T.take i)).reverse ++ T.drop i = r) := by
                show _ = _
                rw [HR.out, HM.out, List.take_length, List.drop_length, List.append_nil]; rfl
              rw [HF.out] at hown2
              have hrl : r.length = i := by have := hown2.1; simpa [intsV] using this
              go_wp2
              go_ret
              exact ⟨_, rfl, by unfold IntRow; rw [hrl]; exact hown2, hbel2⟩
end

section
open Go.RowKit

theorem xor_i64 (a b : Nat) (ha : a < 4294967296) (hb : b < 4294967296) : bits .xor .i64 (a : Int) (b : Int) = ((a ^^^ b : Nat) : Int) := by
  have hx : a ^^^ b < 2 ^ 32 := Nat.xor_lt_two_pow (by omega) (by omega)
  have e : ∀ m : Nat, m < 4294967296 → (BitVec.ofInt 64 (m : Int)).toNat = m := fun m hm => by
    rw [BitVec.ofInt_natCast, BitVec.toNat_ofNat]; exact Nat.mod_eq_of_lt (by omega)
  show IntKind.i64.wrap (((BitVec.ofInt 64 (a : Int) ^^^ BitVec.ofInt 64 (b : Int)).toNat : Nat) : Int) = _
  rw [BitVec.toNat_xor, e a ha, e b hb, wraps_i64 _ (by omega) (by omega)]

/-- one halving -/
def hv (c : Nat) : Nat := if c % 2 = 1 then c / 2 ^^^ 2197175160 else c / 2

theorem hv_lt (c : Nat) (h : c < 4294967296) : hv c < 4294967296 := by
  unfold hv
  split
  · have := Nat.xor_lt_two_pow (x := c / 2) (y := 2197175160) (n := 32) (by omega) (by omega)
    omega
  · omega

/-- k halvings -/
def hvN : Nat → Nat → Nat
  | 0, c => c
  | k + 1, c => hv (hvN k c)

theorem hvN_lt (k c : Nat) (h : c < 4294967296) : hvN k c < 4294967296 := by
  induction k with
  | zero => exact h
  | succ k ih => exact hv_lt _ ih

theorem hvN_add (j k c : Nat) : hvN (j + k) c = hvN j (hvN k c) := by
  induction j with
  | zero => rw [Nat.zero_add]; rfl
  | succ j ih => rw [Nat.succ_add]; show hv _ = hv _; rw [ih]

theorem xor_mod2 (a b : Nat) : (a ^^^ b) % 2 = (a % 2 ^^^ b % 2) := by
  have := Nat.xor_mod_two_pow (a := a) (b := b) (n := 1)
  simpa using this

theorem xor_div2 (a b : Nat) : (a ^^^ b) / 2 = (a / 2 ^^^ b / 2) := by
  have := Nat.xor_div_two_pow (a := a) (b := b) (n := 1)
  simpa using this

theorem hv_xor (a b : Nat) : hv (a ^^^ b) = hv a ^^^ hv b := by
  unfold hv
  rw [xor_mod2, xor_div2]
  rcases Nat.mod_two_eq_zero_or_one a with ha | ha <;> rcases Nat.mod_two_eq_zero_or_one b with hb | hb <;> rw [ha, hb]
  · rfl
  · simp [Nat.xor_assoc]
  · have : (a / 2 ^^^ b / 2) ^^^ 2197175160 = (a / 2 ^^^ 2197175160) ^^^ b / 2 := by rw [Nat.xor_assoc, Nat.xor_comm (b / 2), ← Nat.xor_assoc]
    simpa using this
  · have : (a / 2 ^^^ 2197175160 ^^^ (b / 2 ^^^ 2197175160)) = a / 2 ^^^ b / 2 := by
      rw [Nat.xor_comm (b / 2), ← Nat.xor_assoc, Nat.xor_assoc (a / 2), Nat.xor_self, Nat.xor_zero]
    simp [this]

theorem hvN_xor (k a b : Nat) : hvN k (a ^^^ b) = hvN k a ^^^ hvN k b := by
  induction k with
  | zero => rfl
  | succ k ih => show hv _ = hv _ ^^^ hv _; rw [ih, hv_xor]

theorem hv_two (q : Nat) : hv (2 * q) = q := by unfold hv; rw [if_neg (by omega)]; omega

theorem hvN_16 (q : Nat) : hvN 4 (16 * q) = q := by
  show hv (hv (hv (hv (16 * q)))) = q
  rw [show 16 * q = 2 * (2 * (2 * (2 * q))) by omega, hv_two, hv_two, hv_two, hv_two]

theorem split_16 (c : Nat) : c = (16 * (c / 16)) ^^^ (c % 16) := by
  have h1 : (16 * (c / 16) ^^^ c % 16) / 16 = c / 16 := by
    have := Nat.xor_div_two_pow (a := 16 * (c / 16)) (b := c % 16) (n := 4)
    simp only [Nat.reducePow] at this
    rw [this, Nat.mul_div_cancel_left _ (by decide), Nat.div_eq_of_lt (Nat.mod_lt c (by decide : 16 > 0)), Nat.xor_zero]
  have h2 : (16 * (c / 16) ^^^ c % 16) % 16 = c % 16 := by
    have := Nat.xor_mod_two_pow (a := 16 * (c / 16)) (b := c % 16) (n := 4)
    simp only [Nat.reducePow] at this
    rw [this, Nat.mul_mod_right, Nat.zero_xor, Nat.mod_mod]
  have := Nat.div_add_mod (16 * (c / 16) ^^^ c % 16) 16
  rw [h1, h2] at this
  omega

/-- the table of sixteen -/
def tab16 : List Int := [0, 274646895, 549293790, 820201905, 1098587580, 1361435347, 1640403810, 1905808397, 2197175160, 2460548119, 2722870694, 2987750089, 3280807620, 3553878443, 3811616794, 4084100981]

theorem tab16_all : ∀ i, i < 16 → tab16.getD i 0 = ((hvN 4 i : Nat) : Int) := by decide

theorem tab16_len : tab16.length = 16 := rfl

theorem hvN_half (c : Nat) : hvN 4 c = c / 16 ^^^ hvN 4 (c % 16) := by
  conv => lhs; rw [split_16 c]
  rw [hvN_xor, hvN_16]

theorem hvN_byte (c b : Nat) : hvN 8 (c ^^^ b) = hvN 4 (hvN 4 (c ^^^ b)) := hvN_add 4 4 _

/-- the sum over the first n bytes -/
def crcN (s : ByteArray) : Nat → Nat
  | 0 => 4294967295
  | n + 1 => hvN 8 (crcN s n ^^^ (s.data.getD n 0).toNat)

theorem xor_byte_lt (c b : Nat) (h : c < 4294967296) (hb : b < 256) : c ^^^ b < 4294967296 := by
  have := Nat.xor_lt_two_pow (x := c) (y := b) (n := 32) (by omega) (by omega)
  omega

theorem byte_lt (x : UInt8) : x.toNat < 256 := x.toNat_lt

theorem crcN_lt (s : ByteArray) (n : Nat) : crcN s n < 4294967296 := by
  induction n with
  | zero => show 4294967295 < 4294967296; omega
  | succ n ih => exact hvN_lt _ _ (xor_byte_lt _ _ ih (byte_lt _))
end

section
open Go.RowKit

theorem crcN_succ (s : ByteArray) (k : Nat) (h : k < s.size) : crcN s (k + 1) = hvN 8 (crcN s k ^^^ s[k].toNat) := by
  show hvN 8 (crcN s k ^^^ (s.data.getD k 0).toNat) = _
  have : s.data.getD k 0 = s[k] := by
    have h' : k < s.data.size := h
    rw [Array.getD, dif_pos h']; rfl
  rw [this]
end

section
open Go.RowKit

theorem gb_refl (w : World) (r : Option Nat) : w.grownBy w r := ⟨rfl, rfl, rfl, Nat.le_refl _, fun _ _ _ => rfl⟩
theorem gb_trans {w w1 w2 : World} {r : Option Nat} (a : w.grownBy w1 r) (b : w1.grownBy w2 r) : w.grownBy w2 r :=
  ⟨b.os.trans a.os, b.tape.trans a.tape, b.output.trans a.output, Nat.le_trans a.size b.size, fun k hk hn => (b.block k (Nat.lt_of_lt_of_le hk a.size) hn).trans (a.block k hk hn)⟩
theorem gb_set (w : World) (p j : Nat) (v : Value) : w.grownBy (w.setCell ⟨p, j, none⟩ v) (some p) :=
  ⟨rfl, rfl, rfl, by simp [World.setCell], fun k _ hn => Below.heap_setCell _ _ _ _ (fun e => hn (by rw [e]))⟩
theorem gb_drewN {w w1 : World} {r : Option Nat} (a : w.grownBy w1 r) (n : Nat) : w.grownBy (w1.drewN n) r := ⟨a.os, a.tape, a.output, a.size, a.block⟩

theorem gb_drew {w w1 : World} {r : Option Nat} (a : w.grownBy w1 r) : w.grownBy w1.drew r := ⟨a.os, a.tape, a.output, a.size, a.block⟩
theorem below_gb {w w1 : World} {p B : Nat} (a : w.grownBy w1 (some p)) (hB : B ≤ p) (hp : p < w.heap.size) : Below B w w1 :=
  ⟨a.os, a.tape, a.output, a.size, fun k hk => a.block k (by omega) (fun e => by cases e; omega)⟩








theorem heap_new (w : World) (o : Obj) : (w.alloc o).heap[w.heap.size]? = some o := by
  show (w.heap.push o)[w.heap.size]? = some o
  rw [Array.getElem?_push_size]
end

section
open Go.RowKit




def crcV (s : ByteArray) : Int := 4294967295 - (crcN s s.size : Int)
theorem crcV_in (s : ByteArray) : 0 ≤ crcV s ∧ crcV s ≤ 4294967295 := by unfold crcV; have := crcN_lt s s.size; omega
end

end Go.Proofs.YtlkemmdcjnaepaaDoor
