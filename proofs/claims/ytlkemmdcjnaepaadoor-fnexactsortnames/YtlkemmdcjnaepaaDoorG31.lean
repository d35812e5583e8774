/- The draws of chapter 14: names, rows of names, patterns: each is something, and so long. FnGlob's walk, given what the program's Glob and Starts answer. Names in order: units as texts: what a pattern of texts fits. No word of the program. -/
import Derived.Test.YtlkemmdcjnaepaaDoorRows
import Derived.Test.YtlkemmdcjnaepaaDoorG30
import Derived.Test.YtlkemmdcjnaepaaDoorG27
import Derived.Test.YtlkemmdcjnaepaaDoorG28
import Derived.Test.YtlkemmdcjnaepaaDoorG25
import Derived.Deep.Cut
import Derived.Deep.CutRange
namespace Go.Proofs.YtlkemmdcjnaepaaDoor

section
open Go.RowKit

set_option maxRecDepth 100000 in
theorem sdrawOrder_any (S : Src) (ok : S.ok) (w : World) (hl : Lies S w) :
    Calls Tryd.prog 17 #[.slice S.a S.len S.cap] w fun e w' => ∃ a b, a.size ≤ 100 ∧ b.size ≤ 100 ∧ e = .returned (.tuple #[.string a, .string b]) ∧ Below w.heap.size w w' := by
  go_enter Tryd.func17, Tryd.ntmps17
  go_wp2_with fail
  refine (new_any S ok _ hl).mono ?_
  rintro e w1 ⟨rfl, c1, b1⟩
  go_wp2_with fail
  refine (name_any S ok _ _ _ c1).mono ?_
  rintro e w2 ⟨a, s2, ha, rfl, c2, g2⟩
  go_wp2_with fail
  refine (name_any S ok _ _ _ c2).mono ?_
  rintro e w3 ⟨b, s3, hb, rfl, c3, g3⟩
  go_wp2
  go_ret2
  exact ⟨a, b, ha, hb, rfl, b1.trans (below_gbi (gb_trans g2 g3) (fun k hk => by cases hk; exact Nat.le_refl _) b1.size)⟩

theorem cat_size (a b : ByteArray) : (a ++ b).size = a.size + b.size := ByteArray.size_append
set_option maxRecDepth 100000 in
theorem sdrawStarts_any (S : Src) (ok : S.ok) (w : World) (hl : Lies S w) :
    Calls Tryd.prog 24 #[.slice S.a S.len S.cap] w fun e w' => ∃ a b, a.size ≤ 300 ∧ b.size ≤ 300 ∧ e = .returned (.tuple #[.string a, .string b]) ∧ Below w.heap.size w w' := by
  go_enter Tryd.func24, Tryd.ntmps24
  go_wp2_with fail
  refine (new_any S ok _ hl).mono ?_
  rintro e w1 ⟨rfl, c1, b1⟩
  go_wp2_with fail
  refine (name_any S ok _ _ _ c1).mono ?_
  rintro e w2 ⟨a, s2, ha, rfl, c2, g2⟩
  go_wp2_with fail
  refine (name_any S ok _ _ _ c2).mono ?_
  rintro e w3 ⟨b, s3, hb, rfl, c3, g3⟩
  go_wp2_with fail
  refine (once_any S ok 2 _ s3 _ c3).mono ?_
  rintro e w4 ⟨rfl, c4, g4⟩
  have G := gb_trans (gb_trans g2 g3) g4
  generalize (bX S 2 s3 == 0) = q
  have hab : ¬ 9223372036854775807 < a.size + b.size := by omega
  cases q
  · go_wp2
    go_ret2
    exact ⟨a, b, by omega, by omega, rfl, b1.trans (below_gbi G (fun k hk => by cases hk; exact Nat.le_refl _) b1.size)⟩
  · go_wp2
    go_ret2
    exact ⟨a ++ b, a, by rw [cat_size]; omega, by omega, rfl, b1.trans (below_gbi G (fun k hk => by cases hk; exact Nat.le_refl _) b1.size)⟩

theorem txt_gb {w w' : World} {base p : Nat} {v : Value} {l : List ByteArray} (h : TxtRow w base v l) (hg : w.grownBy w' (some p)) (hp : p < base) : TxtRow w' base v l := World.ownsRow.kept h hg (by
  cases e : v.ownBlock with
  | none => exact .inl rfl
  | some k =>
    right
    intro e2
    have := (World.ownsRow.lt h k e).1
    injection e2 with e2
    omega)
set_option maxRecDepth 100000 in
set_option maxHeartbeats 1000000 in
theorem sdrawSortNames_any (S : Src) (ok : S.ok) (w : World) (hl : Lies S w) :
    Calls Tryd.prog 10 #[.slice S.a S.len S.cap] w fun e w' => ∃ l v, l.length ≤ 7 ∧ (∀ t ∈ l, t.size ≤ 100) ∧ e = .returned v ∧ TxtRow w' w.heap.size v l ∧ Below w.heap.size w w' := by
  go_enter Tryd.func10, Tryd.ntmps10
  go_wp2_with fail
  refine (new_any S ok _ hl).mono ?_
  rintro e w1 ⟨rfl, c1, b1⟩
  have hs1 := c1.size
  have HL := lit_txts w1
  have c2 := c1.below ((Below.refl (w.heap.size + 1) w1).alloc (by omega) (.cells #[] 9))
  have g2 : w1.grownBy (w1.alloc (.cells #[] 9)) (some w.heap.size) := World.grownBy_alloc _ _ _
  have hx := bX_bd S 7 (s0 S) (by omega)
  obtain ⟨n0, HN⟩ := Int.eq_ofNat_of_zero_le hx.1
  have hn0 : n0 ≤ 7 := by omega
  have HN' : Hid (bX S 7 (s0 S) = n0) := HN
  clear HN hx
  obtain ⟨p, HP⟩ : ∃ p, Hid (p = w.heap.size) := ⟨_, rfl⟩
  rw [← HP.out] at c2 g2 hs1 ⊢
  go_wp2_with fail
  refine (below_any S ok 7 p _ _ c2).mono ?_
  rintro e w3 ⟨rfl, c3, g3⟩
  rw [HN'.out]
  generalize bS S 7 (s0 S) = s1 at c3
  have G3 : w1.grownBy w3 (some p) := gb_trans g2 g3
  have hrow0 := txt_gb HL g3 hs1
  clear g2 g3 c2 HL
  go_wp2
  go_loopw [4, 5] (fun v i wr => ∃ (n : Nat) (l : List ByteArray) (s' : Nat × Int), i = .int .i64 n ∧ n + l.length ≤ 7 ∧ Hid (∀ t ∈ l, t.size ≤ 100) ∧ TxtRow wr w1.heap.size v l ∧ At S p s' wr ∧ w1.grownBy wr (some p)) (fun _ i _ => (intOf i).toNat)
  case atStart => exact ⟨n0, [], s1, rfl, by simp; omega, fun t ht => by simp at ht, hrow0, c3, G3⟩
  case round =>
    obtain ⟨n, l, s', rfl, hnl, HSZ, hrow, ca, hgb⟩ := hrel
    by_cases hn : n = 0
    · subst hn
      have HBE : Hid (Below w.heap.size w wr) := b1.trans (below_gbi hgb (fun k hk => by cases hk; rw [HP.out]; exact Nat.le_refl _) b1.size)
      have HRW := hrow.mono b1.size
      clear hrow ca hgb
      go_wp2
      go_ret
      exact ⟨l, _, by omega, HSZ.out, rfl, HRW, HBE.out⟩
    · have hn' : (0 : Int) < (n : Int) := by omega
      have hsz := hgb.size
      obtain ⟨va, vc, rfl, -⟩ := hrow.at
      go_wp2_with (first | (go_at_call 34; refine (name_any S ok p s' _ ca).mono ?_; rintro e w2 ⟨x, s2, hxs, rfl, c2, b2⟩; have hrow2 := txt_gb hrow b2 hs1; have B2 := gb_trans hgb b2; have hsz2 := B2.size) | (at_builtin; refine append_txt w2 rfl (.tmp 15) (.tmp 18) rfl w1.heap.size _ l x (by omega) hrow2 rfl rfl hsz2 ?_; intro v' w4 hrow3 hbel3))
      have HSZ2 : Hid (∀ t ∈ l ++ [x], t.size ≤ 100) := fun t ht => by
        rcases List.mem_append.1 ht with h | h
        · exact HSZ.out t h
        · rw [List.mem_singleton.1 h]; exact hxs
      go_roundw
      case rel => exact ⟨n - 1, l ++ [x], s2, by go_num, by simp; omega, HSZ2, hrow3, c2.below (hbel3.mono (by omega)), gb_belowB B2 hbel3 (Nat.le_refl _)⟩
      case measure => simp [intOf]; omega
def globList : List ByteArray := [⟨#[42]⟩, ⟨#[63]⟩, ⟨#[42, 42]⟩, ⟨#[42, 97, 42]⟩, ⟨#[97, 63]⟩, ⟨#[63, 42]⟩, ⟨#[42, 101]⟩]
theorem globList_size : ∀ u ∈ globList, u.size ≤ 100 := by decide
set_option maxRecDepth 100000 in
set_option maxHeartbeats 1000000 in
theorem sdrawGlob_any (S : Src) (ok : S.ok) (w : World) (hl : Lies S w) :
    Calls Tryd.prog 19 #[.slice S.a S.len S.cap] w fun e w' => ∃ a b, a.size ≤ 300 ∧ b.size ≤ 300 ∧ e = .returned (.tuple #[.string a, .string b]) ∧ Below w.heap.size w w' := by
  go_enter Tryd.func19, Tryd.ntmps19
  go_wp2_with fail
  refine (new_any S ok _ hl).mono ?_
  rintro e w1 ⟨rfl, c1, b1⟩
  go_wp2_with fail
  refine (name_any S ok _ _ _ c1).mono ?_
  rintro e w2 ⟨a, s2, ha, rfl, c2, g2⟩
  go_wp2_with fail
  refine (name_any S ok _ _ _ c2).mono ?_
  rintro e w3 ⟨b, s3, hb, rfl, c3, g3⟩
  go_wp2_with fail
  refine (below_any S ok 6 _ s3 _ c3).mono ?_
  rintro e w4 ⟨rfl, c4, g4⟩
  have G := gb_trans (gb_trans g2 g3) g4
  have B4 : Below w.heap.size w w4 := b1.trans (below_gbi G (fun k hk => by cases hk; exact Nat.le_refl _) b1.size)
  have hx := bX_bd S 6 s3 (by omega)
  have hs4 := c4.size
  obtain ⟨p, HP⟩ : ∃ p, Hid (p = w.heap.size) := ⟨_, rfl⟩
  rw [← HP.out] at c4 hs4 ⊢
  generalize bX S 6 s3 = k at hx
  generalize bS S 6 s3 = s4 at c4
  have e1 : ¬ 9223372036854775807 < a.size + b.size := by omega
  have e2 : ¬ 9223372036854775807 < a.size + 1 := by omega
  have e3 : ¬ 9223372036854775807 < 1 + b.size := by omega
  have e4 : ¬ 9223372036854775807 < a.size + 1 + b.size := by omega
  have z1 : (a ++ b).size ≤ 300 := by rw [cat_size]; omega
  have z2 : ∀ x : UInt8, (a ++ (⟨#[x]⟩ : ByteArray)).size ≤ 300 := fun x => by rw [cat_size]; show a.size + 1 ≤ 300; omega
  have z3 : ∀ x : UInt8, ((⟨#[x]⟩ : ByteArray) ++ b).size ≤ 300 := fun x => by rw [cat_size]; show 1 + b.size ≤ 300; omega
  have z4 : ∀ x : UInt8, (a ++ (⟨#[x]⟩ : ByteArray) ++ b).size ≤ 300 := fun x => by rw [cat_size, cat_size]; show a.size + 1 + b.size ≤ 300; omega
  have HZ : Hid ((a ++ b).size ≤ 300 ∧ (∀ x : UInt8, (a ++ (⟨#[x]⟩ : ByteArray)).size ≤ 300) ∧ (∀ x : UInt8, ((⟨#[x]⟩ : ByteArray) ++ b).size ≤ 300) ∧ ∀ x : UInt8, (a ++ (⟨#[x]⟩ : ByteArray) ++ b).size ≤ 300) := ⟨z1, z2, z3, z4⟩
  clear z1 z2 z3 z4 c1 c2 c3 g2 g3 g4 b1 G hl
  have hk : k = 0 ∨ k = 1 ∨ k = 2 ∨ k = 3 ∨ k = 4 ∨ k = 5 := by omega
  clear hx
  rcases hk with rfl | rfl | rfl | rfl | rfl | rfl
  · go_wp2
    go_ret2
    exact ⟨_, _, HZ.out.2.1 42, HZ.out.1, rfl, B4⟩
  · go_wp2
    go_ret2
    exact ⟨_, _, HZ.out.2.2.1 42, HZ.out.1, rfl, B4⟩
  · go_wp2
    go_ret2
    exact ⟨_, _, HZ.out.2.2.1 63, HZ.out.1, rfl, B4⟩
  · go_wp2
    go_ret2
    exact ⟨_, _, HZ.out.2.2.2 42, HZ.out.2.2.2 120, rfl, B4⟩
  · go_wp2_with fail
    refine (spickA_any S ok globList 7 rfl w4.heap.size 9 p s4 _ (c4.below ((Below.refl _ _).alloc (by omega) _)) (by decide) (by decide) (by omega) (heap_new _ _)).mono ?_
    rintro e w5 ⟨u, s5, hu, rfl, c5, g5⟩
    have hus := globList_size u hu
    have HB : Hid (Below w.heap.size w w5) := (B4.alloc B4.size _).trans (below_gbi g5 (fun k hk => by cases hk; rw [HP.out]; exact Nat.le_refl _) (Nat.le_trans B4.size (by simp)))
    clear c5 g5 c4 hu
    go_wp2
    go_ret2
    exact ⟨u, a, by omega, by omega, rfl, HB.out⟩
  · go_wp2
    go_ret2
    exact ⟨a, b, by omega, by omega, rfl, B4⟩
end

section
open Go.RowKit Go.Sort

/-- what impl.Glob and impl.Starts answer -/
structure GlImpl (w0 : World) : Prop where
  g : ∀ (a b : ByteArray) (w : World), Below w0.heap.size w0 w → a.size ≤ 1048576 → b.size ≤ 1048576 →
    Calls Tryd.prog 21 #[.string a, .string b] w fun e w' => e = .returned (.bool (globN a b)) ∧ Below w.heap.size w w'
  s : ∀ (a b : ByteArray) (w : World), Below w0.heap.size w0 w → a.size ≤ 1048576 → b.size ≤ 1048576 →
    Calls Tryd.prog 25 #[.string a, .string b] w fun e w' => e = .returned (.bool (startsN a b)) ∧ Below w.heap.size w w'
theorem glob_star' {s n : ByteArray} (h : (nameL s).isSome = true) (h2 : (nameL (s ++ ⟨#[42]⟩)).isSome = true) (hp : plainB s = true) : globN (s ++ ⟨#[42]⟩) n = startsN n s := glob_star h h2 ((plainB_iff s).1 hp)

set_option maxRecDepth 100000 in
set_option maxHeartbeats 4000000 in
theorem glob_walk {w : World} (I : GlImpl w) (S : Src) (ok : S.ok) (hl : Lies S w) :
    Calls Tryd.prog 4 #[.slice S.a S.len S.cap] w fun e w' => e = .returned (.bool true) ∧ Below w.heap.size w w' := by
  have hlen : S.len ≤ 1048576 := ok.1
  have HDR := sdrawGlob_any S ok w hl
  have HDA := fun W h => sdrawAlike_any S ok W (hl.below h)
  have HDS := fun W h => sdrawStarts_any S ok W (hl.below h)
  go_enter Tryd.func4, Tryd.ntmps4
  go_wp2_with (first | (go_at_call 9; go_in))
  refine HDR.mono ?_
  rintro _ w1 ⟨p, n, hp, hn, rfl, b1⟩
  go_wp2_with fail
  refine (HDA w1 b1).mono ?_
  rintro _ w2 ⟨m0, m, hm0, hm, rfl, b2⟩
  have B2 := b1.trans (b2.mono b1.size)
  have hG := fun W h => I.g p n W h (by omega) (by omega)
  have hGm := fun W h => I.g p m W h (by omega) (by omega)
  have hGn := fun W h => I.g n n W h (by omega) (by omega)
  have sG := fun W => sGlob p n W (by omega) (by omega)
  have sA := fun W => sAlike n m W (by omega) (by omega)
  have sN := fun W => sNameOk n W (by omega)
  have sP := fun W => plainName_any n W (by omega)
  have HAL : Hid (alikeB n m = true → globN p m = globN p n) := glob_alike
  have HSE : Hid ((nameL n).isSome = true → globN n n = true) := glob_self
  generalize globN p n = g at hG sG HAL
  generalize globN p m = gm at hGm HAL
  generalize globN n n = gn at hGn HSE
  generalize alikeB n m = qa at sA HAL
  generalize (nameL n).isSome = qn at sN HSE
  generalize plainB n = qp at sP
  clear b1 b2 hm0 HDR HDA
  go_wp2_with fail
  refine (hG w2 B2).mono ?_
  rintro _ w3 ⟨rfl, b3⟩
  have B3 := B2.trans (b3.mono B2.size)
  have hgg : (g != g) = false := by cases g <;> rfl
  clear hG
  go_upto_region 6 with fail
  go_cut [56] (fun bv wx => bv = .bool false ∧ Below w.heap.size w wx)
  case first =>
    clear HDS hl hp hn hm I
    go_wp2_with fail
    refine (sG w3).mono ?_
    rintro _ w4 ⟨rfl, b4⟩
    have B4 := B3.trans (b4.mono B3.size)
    clear b3 b4 B2 B3 sG
    cases qa
    · clear HAL
      go_wp2_with fail
      refine (sA w4).mono ?_
      rintro _ w5 ⟨rfl, b5⟩
      have B5 := B4.trans (b5.mono B4.size)
      cases qn
      · clear HSE
        go_wp2_with fail
        refine (sN w5).mono ?_
        rintro _ w6 ⟨rfl, b6⟩
        have B6 := B5.trans (b6.mono B5.size)
        go_wp2_with fail
        go_meet
        exact ⟨rfl, B6⟩
      · cases qp
        · clear HSE
          go_wp2_with fail
          refine (sN w5).mono ?_
          rintro _ w6 ⟨rfl, b6⟩
          have B6 := B5.trans (b6.mono B5.size)
          go_wp2_with fail
          refine (sP w6).mono ?_
          rintro _ w7 ⟨rfl, b7⟩
          have B7 := B6.trans (b7.mono B6.size)
          go_wp2_with fail
          go_meet
          exact ⟨rfl, B7⟩
        · skip
          obtain rfl := HSE.out rfl
          go_wp2_with fail
          refine (sN w5).mono ?_
          rintro _ w6 ⟨rfl, b6⟩
          have B6 := B5.trans (b6.mono B5.size)
          go_wp2_with fail
          refine (sP w6).mono ?_
          rintro _ w7 ⟨rfl, b7⟩
          have B7 := B6.trans (b7.mono B6.size)
          go_wp2_with fail
          refine (hGn w7 B7).mono ?_
          rintro _ w8 ⟨rfl, b8⟩
          have B8 := B7.trans (b8.mono B7.size)
          go_wp2_with fail
          go_meet
          exact ⟨rfl, B8⟩
    · obtain rfl := HAL.out rfl
      clear HAL
      go_wp2_with fail
      refine (sA w4).mono ?_
      rintro _ w5 ⟨rfl, b5⟩
      have B5 := B4.trans (b5.mono B4.size)
      go_wp2_with fail
      refine (hGm w5 B5).mono ?_
      rintro _ w6 ⟨rfl, b6⟩
      have B6 := B5.trans (b6.mono B5.size)
      cases qn
      · clear HSE
        go_wp2_with fail
        refine (sN w6).mono ?_
        rintro _ w7 ⟨rfl, b7⟩
        have B7 := B6.trans (b7.mono B6.size)
        go_wp2_with fail
        go_meet
        exact ⟨rfl, B7⟩
      · cases qp
        · clear HSE
          go_wp2_with fail
          refine (sN w6).mono ?_
          rintro _ w7 ⟨rfl, b7⟩
          have B7 := B6.trans (b7.mono B6.size)
          go_wp2_with fail
          refine (sP w7).mono ?_
          rintro _ w8 ⟨rfl, b8⟩
          have B8 := B7.trans (b8.mono B7.size)
          go_wp2_with fail
          go_meet
          exact ⟨rfl, B8⟩
        · skip
          obtain rfl := HSE.out rfl
          go_wp2_with fail
          refine (sN w6).mono ?_
          rintro _ w7 ⟨rfl, b7⟩
          have B7 := B6.trans (b7.mono B6.size)
          go_wp2_with fail
          refine (sP w7).mono ?_
          rintro _ w8 ⟨rfl, b8⟩
          have B8 := B7.trans (b8.mono B7.size)
          go_wp2_with fail
          refine (hGn w8 B8).mono ?_
          rintro _ w9 ⟨rfl, b9⟩
          have B9 := B8.trans (b9.mono B8.size)
          go_wp2_with fail
          go_meet
          exact ⟨rfl, B9⟩
  case rest =>
    obtain ⟨rfl, Bc⟩ := hcut
    clear hGm hGn sG sA sN sP HAL HSE B2 B3 b3 hgg hp hn hm
    go_wp2_with fail
    refine (HDS wc Bc).mono ?_
    rintro _ w5 ⟨nm, pre, hnm, hpre, rfl, b5⟩
    have B5 := Bc.trans (b5.mono Bc.size)
    have hps : (pre ++ (⟨#[42]⟩ : ByteArray)).size ≤ 301 := by rw [cat_size]; show pre.size + 1 ≤ 301; omega
    have hpc : ¬ 9223372036854775807 < pre.size + 1 := by omega
    have hS := fun W h => I.s nm pre W h (by omega) (by omega)
    have sS := fun W => sStarts nm pre W (by omega) (by omega)
    have hG := fun W h => I.g (pre ++ (⟨#[42]⟩ : ByteArray)) nm W h (by omega) (by omega)
    have sN1 := fun W => sNameOk (pre ++ (⟨#[42]⟩ : ByteArray)) W (by omega)
    have sN2 := fun W => sNameOk pre W (by omega)
    have sP := fun W => plainName_any pre W (by omega)
    have HST : Hid ((nameL pre).isSome = true → (nameL (pre ++ (⟨#[42]⟩ : ByteArray))).isSome = true → plainB pre = true → globN (pre ++ (⟨#[42]⟩ : ByteArray)) nm = startsN nm pre) := glob_star'
    generalize startsN nm pre = s at hS sS HST
    generalize globN (pre ++ (⟨#[42]⟩ : ByteArray)) nm = g2 at hG HST
    generalize (nameL (pre ++ (⟨#[42]⟩ : ByteArray))).isSome = q1 at sN1 HST
    generalize (nameL pre).isSome = q2 at sN2 HST
    generalize plainB pre = q3 at sP HST
    have hss : (s != s) = false := by cases s <;> rfl
    have hse : (s == s) = true := by cases s <;> rfl
    clear b5 hl I HDS
    go_wp2_with fail
    refine (hS w5 B5).mono ?_
    rintro _ w6 ⟨rfl, b6⟩
    have B6 := B5.trans (b6.mono B5.size)
    go_wp2_with fail
    refine (sS w6).mono ?_
    rintro _ w7 ⟨rfl, b7⟩
    have B7 := B6.trans (b7.mono B6.size)
    clear hS sS b6 b7 B5 B6
    cases q1
    · clear HST
      go_wp2_with fail
      refine (sN1 w7).mono ?_
      rintro _ w8 ⟨rfl, b8⟩
      have B8 := B7.trans (b8.mono B7.size)
      go_wp2
      go_ret
      exact ⟨rfl, B8⟩
    · cases q3
      · clear HST
        go_wp2_with fail
        refine (sN1 w7).mono ?_
        rintro _ w8 ⟨rfl, b8⟩
        have B8 := B7.trans (b8.mono B7.size)
        go_wp2_with fail
        refine (sP w8).mono ?_
        rintro _ w9 ⟨rfl, b9⟩
        have B9 := B8.trans (b9.mono B8.size)
        go_wp2
        go_ret
        exact ⟨rfl, B9⟩
      · cases q2
        · clear HST
          go_wp2_with fail
          refine (sN1 w7).mono ?_
          rintro _ w8 ⟨rfl, b8⟩
          have B8 := B7.trans (b8.mono B7.size)
          go_wp2_with fail
          refine (sP w8).mono ?_
          rintro _ w9 ⟨rfl, b9⟩
          have B9 := B8.trans (b9.mono B8.size)
          go_wp2_with fail
          refine (sN2 w9).mono ?_
          rintro _ w10 ⟨rfl, b10⟩
          have B10 := B9.trans (b10.mono B9.size)
          go_wp2
          go_ret
          exact ⟨rfl, B10⟩
        · skip
          obtain rfl := HST.out rfl rfl rfl
          go_wp2_with fail
          refine (sN1 w7).mono ?_
          rintro _ w8 ⟨rfl, b8⟩
          have B8 := B7.trans (b8.mono B7.size)
          go_wp2_with fail
          refine (sP w8).mono ?_
          rintro _ w9 ⟨rfl, b9⟩
          have B9 := B8.trans (b9.mono B8.size)
          go_wp2_with fail
          refine (sN2 w9).mono ?_
          rintro _ w10 ⟨rfl, b10⟩
          have B10 := B9.trans (b10.mono B9.size)
          go_wp2_with fail
          refine (hG w10 B10).mono ?_
          rintro _ w11 ⟨rfl, b11⟩
          have B11 := B10.trans (b11.mono B10.size)
          go_wp2
          go_ret
          exact ⟨rfl, B11⟩
end

section
def encT (u : List Int) : ByteArray := ⟨(encN u).toArray⟩
theorem encT_inj {u v : List Int} (hu : u.all sgnB = true) (hv : v.all sgnB = true) (h : encT u = encT v) : u = v := by
  have h1 := dec_enc' hu
  have h2 := dec_enc' hv
  unfold encT at h
  rw [h, h2] at h1
  exact (Option.some.inj h1).symm
/-- units all of whose signs are signs -/
def SgnU (us : List (List Int)) : Prop := ∀ u ∈ us, u.all sgnB = true
theorem SgnU.tail {x : List Int} {us : List (List Int)} (h : SgnU (x :: us)) : SgnU us := fun u hu => h u (List.mem_cons_of_mem _ hu)
theorem SgnU.head {x : List Int} {us : List (List Int)} (h : SgnU (x :: us)) : x.all sgnB = true := h x (List.mem_cons_self ..)
theorem un14_sgn {s : ByteArray} (h : (nameL s).isSome = true) : SgnU (un14 s) := by
  obtain ⟨l, hl⟩ := Option.isSome_iff_exists.1 h
  rw [un14_name hl]
  intro u hu
  have hk := keyL_sgn (dec_sgn (nameL_some hl).1)
  rw [List.all_eq_true] at hk ⊢
  intro x hx
  refine hk x ?_
  rw [← (units_right (keyL l)).all]
  exact List.mem_flatten.2 ⟨u, hu, hx⟩
theorem map_enc_inj : ∀ {a b : List (List Int)}, SgnU a → SgnU b → a.map encT = b.map encT → a = b
  | [], [], _, _, _ => rfl
  | [], y :: b, _, _, h => by simp at h
  | x :: a, [], _, _, h => by simp at h
  | x :: a, y :: b, ha, hb, h => by
    simp only [List.map_cons, List.cons.injEq] at h
    rw [encT_inj ha.head hb.head h.1, map_enc_inj ha.tail hb.tail h.2]
theorem pre_enc {a b : List (List Int)} (ha : SgnU a) (hb : SgnU b) : b.isPrefixOf a = decide ((a.map encT).take b.length = b.map encT) := by
  rw [Bool.eq_iff_iff, decide_eq_true_eq, List.isPrefixOf_iff_prefix, ← List.map_take, List.prefix_iff_eq_take]
  constructor
  · intro h; rw [← h]
  · intro h; exact (map_enc_inj (fun u hu => ha u (List.mem_of_mem_take hu)) hb h).symm

def starT : ByteArray := ⟨#[42]⟩
def anyT : ByteArray := ⟨#[63]⟩
def someT (f : List ByteArray → Bool) : List ByteArray → Bool
  | [] => f []
  | x :: n => f (x :: n) || someT f n
/-- do texts fit those of a pattern? -/
def fitT : List ByteArray → List ByteArray → Bool
  | [], n => n.isEmpty
  | p :: ps, n => if p = starT then someT (fitT ps) n else match n with
    | [] => false
    | x :: m => (decide (p = anyT) || decide (p = x)) && fitT ps m
theorem some_enc {f : List ByteArray → Bool} {g : List (List Int) → Bool} (h : ∀ m, SgnU m → f (m.map encT) = g m) : ∀ n, SgnU n → someT f (n.map encT) = starN g n
  | [], hn => h [] hn
  | x :: n, hn => by
    have := h (x :: n) hn
    rw [List.map_cons] at this ⊢
    unfold someT starN
    rw [this, some_enc h n hn.tail]
theorem enc_star : encT [42] = starT := by decide
theorem enc_any : encT [63] = anyT := by decide
theorem fit_enc : ∀ (p n : List (List Int)), SgnU p → SgnU n → fitT (p.map encT) (n.map encT) = fitsN p n
  | [], n, _, _ => by
    unfold fitsN
    rw [List.map_nil]
    unfold fitT
    cases n <;> rfl
  | p :: ps, n, hp, hn => by
    have ih := fun m hm => fit_enc ps m hp.tail hm
    rw [List.map_cons]
    unfold fitT fitsN
    by_cases h : p = [42]
    · rw [if_pos h, if_pos (by rw [h]; exact enc_star)]
      exact some_enc ih n hn
    · rw [if_neg h, if_neg (fun e => h (encT_inj hp.head (by decide) (e.trans enc_star.symm)))]
      cases n with
      | nil => rfl
      | cons x m =>
        rw [List.map_cons]
        dsimp only
        rw [ih m hn.tail]
        have e1 : decide (encT p = anyT) = decide (p = [63]) := by
          rw [Bool.eq_iff_iff, decide_eq_true_eq, decide_eq_true_eq]
          exact ⟨fun e => encT_inj hp.head (by decide) (e.trans enc_any.symm), fun e => by rw [e]; exact enc_any⟩
        have e2 : decide (encT p = encT x) = decide (p = x) := by
          rw [Bool.eq_iff_iff, decide_eq_true_eq, decide_eq_true_eq]
          exact ⟨fun e => encT_inj hp.head hn.head e, fun e => by rw [e]⟩
        rw [e1, e2]

/-- the rest of the pattern from p on, the rest of the texts from u on -/
def fitA (P U : List ByteArray) (p u : Nat) : Bool := fitT (P.drop p) (U.drop u)
theorem fitA_end (P U : List ByteArray) (u : Nat) (hu : u ≤ U.length) : fitA P U P.length u = decide (u = U.length) := by
  unfold fitA
  rw [List.drop_length]
  unfold fitT
  rw [Bool.eq_iff_iff, List.isEmpty_iff, List.drop_eq_nil_iff, decide_eq_true_eq]
  omega
theorem drop_at (L : List ByteArray) (k : Nat) (h : k < L.length) : L.drop k = L[k]! :: L.drop (k + 1) := by
  rw [List.drop_eq_getElem_cons h, getElem!_pos L k h]
theorem fitA_none {P U : List ByteArray} {p u : Nat} (hp : p < P.length) (h : P[p]! ≠ starT) (hu : U.length ≤ u) : fitA P U p u = false := by
  unfold fitA
  rw [drop_at P p hp, List.drop_eq_nil_iff.2 hu]
  unfold fitT
  rw [if_neg h]
theorem fitA_one {P U : List ByteArray} {p u : Nat} (hp : p < P.length) (h : P[p]! ≠ starT) (hu : u < U.length) : fitA P U p u = ((decide (P[p]! = anyT) || decide (P[p]! = U[u]!)) && fitA P U (p + 1) (u + 1)) := by
  unfold fitA
  rw [drop_at P p hp, drop_at U u hu]
  conv => lhs; unfold fitT
  rw [if_neg h]
theorem fitA_last {P U : List ByteArray} {p u : Nat} (hp : p < P.length) (h : P[p]! = starT) (hu : U.length ≤ u) : fitA P U p u = fitA P U (p + 1) u := by
  unfold fitA
  rw [drop_at P p hp, List.drop_eq_nil_iff.2 hu]
  conv => lhs; unfold fitT
  rw [if_pos h]
  rfl
theorem fitA_star {P U : List ByteArray} {p u : Nat} (hp : p < P.length) (h : P[p]! = starT) (hu : u < U.length) : fitA P U p u = (fitA P U (p + 1) u || fitA P U p (u + 1)) := by
  unfold fitA
  rw [drop_at P p hp, drop_at U u hu]
  have e : ∀ n, fitT (P[p]! :: P.drop (p + 1)) n = someT (fitT (P.drop (p + 1))) n := fun n => by
    conv => lhs; unfold fitT
    rw [if_pos h]
  rw [e, e]
  rfl
end

end Go.Proofs.YtlkemmdcjnaepaaDoor
