/- Draws of directories: some row of entries with short names is drawn; no more is said. Draws of directories, some of them not right. Draws of directories for the laws; two directories held against each other. -/
import Derived.Test.YtmhblmonigakbaaGreatDoorRows
import Derived.Test.YtmhblmonigakbaaGreatDoorMs
import Derived.Test.YtmhblmonigakbaaGreatDoorMn
import Derived.Test.YtmhblmonigakbaaGreatDoorMo
import Derived.Laws.StructEq
import Derived.Lib.QuietBelow
import Derived.BigQuiet
namespace Go.Proofs.YtmhblmonigakbaaGreatDoor

section
open Go.RowKit

theorem row_gbE {w w' : World} {B p : Nat} {v : Value} {l : List En} (h : EntRow w B v l) (g : w.grownBy w' (some p)) (hp : p < B) : EntRow w' B v l := by
  refine World.ownsRow.kept h g ?_
  cases e : v.ownBlock with
  | none => exact .inl rfl
  | some k =>
    right
    intro e2
    have h1 := (World.ownsRow.lt h k e).1
    cases e2
    omega

theorem Shorts.nil : Shorts [] := fun e he => by cases he
theorem shorts_add {d : List En} (h : Shorts d) {s : ByteArray} (hs : s.size ≤ 1048576) (id : Int) : Shorts (addL d s id) := by
  unfold addL
  split
  · intro e he
    rcases mem_ins.1 he with rfl | he
    · exact hs
    · exact h e he
  · exact h
theorem len_add {d : List En} (h : d.length ≤ 12) (s : ByteArray) (id : Int) : (addL d s id).length ≤ 12 := by
  unfold addL
  split
  · rename_i ho
    have := (addOk_iff.1 ho).2.2.2
    rw [ins_len]; omega
  · exact h
theorem shorts_drop {d : List En} (h : Shorts d) (s : ByteArray) : Shorts (dropL d s) := by
  unfold dropL
  split
  · exact fun e he => h e (List.mem_of_mem_eraseIdx he)
  · exact h
theorem len_drop {d : List En} (h : d.length ≤ 12) (s : ByteArray) : (dropL d s).length ≤ 12 := by
  unfold dropL
  split
  · exact Nat.le_trans (List.eraseIdx_sublist d _).length_le h
  · exact h

theorem wrap_pred (k : Nat) (h : 0 < k) (hk : k ≤ 1000) : IntKind.i64.wrap ((k : Int) - 1) = ((k - 1 : Nat) : Int) := by rw [IntKind.wrap_i64]; omega

set_option maxRecDepth 100000 in
set_option maxHeartbeats 2000000 in
theorem l5Dir_any (S : Src) (ok : S.ok) (M : Int) (hM : M ≤ 1000) (p : Nat) (s : Nat × Int) (w : World) (c : At S p s w) :
    Calls Tryz.prog 50 #[.pointer (some ⟨p, 0, none⟩), .int .i64 M] w fun e w' => ∃ v d s', e = .returned v ∧ EntRow w' w.heap.size v d ∧ Shorts d ∧ d.length ≤ 12 ∧ At S p s' w' ∧ w.grownBy w' (some p) := by
  have hp := c.size
  have hb1 := below_lit w (.cells #[] 34)
  have hr1 := lit_ents w
  have c1 := c.below (hb1.mono hp)
  obtain ⟨w1, HW1⟩ : ∃ w1, Hid (w1 = w.alloc (.cells #[] 34)) := ⟨_, rfl⟩
  rw [← HW1.out] at hb1 hr1 c1
  have HN := below_any S ok M p s w1 c1
  have hx : 0 ≤ bX S M s ∧ bX S M s ≤ 1000 := by
    by_cases h0 : 0 < M
    · have := bX_bd S M s h0; omega
    · unfold bX; rw [if_pos (by omega)]; omega
  obtain ⟨n, hn⟩ := Int.eq_ofNat_of_zero_le hx.1
  have HN1000 : Hid (n ≤ 1000) := by show _ ≤ _; omega
  rw [hn] at HN
  generalize bS S M s = s1 at HN
  clear hx hn
  go_enter Tryz.func50, Tryz.ntmps50
  go_wp2_with fail
  rw [← HW1.out]
  refine HN.mono ?_
  rintro e w2 ⟨rfl, c2, g2⟩
  have hr2 := row_gbE hr1 g2 hp
  have G2 : w.grownBy w2 (some p) := gb_trans ⟨hb1.os, hb1.tape, hb1.output, hb1.size, fun k hk _ => hb1.block k hk⟩ g2
  clear HN c1 hr1 hb1 g2 c
  go_wp2
  go_loopw [5, 6] (fun v i wr => ∃ (k : Nat) (d : List En) (s' : Nat × Int), i = .int .i64 k ∧ k ≤ 1000 ∧ Hid (EntRow wr w.heap.size v d) ∧ Hid (Shorts d ∧ d.length ≤ 12) ∧ Hid (At S p s' wr) ∧ w.grownBy wr (some p)) (fun _ i _ => (intOf i).toNat)
  case atStart => exact ⟨n, [], s1, rfl, HN1000.out, hr2, ⟨Shorts.nil, by simp⟩, c2, G2⟩
  case round =>
    clear hr2 c2 G2 HN1000
    obtain ⟨k, d, s2, rfl, hk, HR, HD, HC, g⟩ := hrel
    by_cases h0 : 0 < k
    · have hk0 : (0 : Int) < (k : Int) := by omega
      have hwk := wrap_pred k h0 hk
      have HO := once_any S ok 5 p s2 wr HC.out
      obtain ⟨q, HQ⟩ : ∃ q : Bool, Hid ((bX S 5 s2 == 0) = q) := ⟨_, rfl⟩
      rw [HQ.out] at HO
      generalize bS S 5 s2 = s3 at HO
      cases q
      · go_wp2_with fail
        refine HO.mono ?_
        rintro e w3 ⟨rfl, c3, g3⟩
        have HR3 : Hid (EntRow w3 w.heap.size u5 d) := row_gbE HR.out g3 hp
        have G3 := gb_trans g g3
        clear HO
        go_wp2_with fail
        refine (name_any S ok p s3 w3 c3).mono ?_
        rintro e w4 ⟨t, s4, ht, rfl, c4, g4⟩
        have HR4 : Hid (EntRow w4 w.heap.size u5 d) := row_gbE HR3.out g4 hp
        have G4 := gb_trans G3 g4
        have HB := below_any S ok 9 p s4 w4 c4
        have hb := bX_bd S 9 s4 (by decide)
        generalize bS S 9 s4 = s5 at HB
        generalize bX S 9 s4 = b at HB hb
        have hwb : IntKind.i64.wrap (1 + b) = 1 + b := by rw [IntKind.wrap_i64]; omega
        go_wp2_with fail
        refine HB.mono ?_
        rintro e w5 ⟨rfl, c5, g5⟩
        have HR5 : Hid (EntRow w5 w.heap.size u5 d) := row_gbE HR4.out g5 hp
        have G5 := gb_trans G4 g5
        clear HB
        go_wp2_with fail
        refine (l5Add_any u5 d t (1 + b) w.heap.size w5 HR5.out HD.out.1 (by omega) (by have := HD.out.2; omega) G5.size).mono ?_
        rintro e w6 ⟨u6, rfl, row6, b6⟩
        have HR6 : Hid (EntRow w6 w.heap.size u6 (addL d t (1 + b))) := row6
        have HC6 : Hid (At S p s5 w6) := c5.below (b6.mono hp)
        have G6 := gb_below G5 b6
        have HD6 : Hid (Shorts (addL d t (1 + b)) ∧ (addL d t (1 + b)).length ≤ 12) := ⟨shorts_add HD.out.1 (by omega) _, len_add HD.out.2 _ _⟩
        clear row6
        go_wp2
        go_roundw
        case rel => exact ⟨k - 1, _, s5, by go_num, by omega, HR6, HD6, HC6, G6⟩
        case measure => simp [intOf]; omega
      · go_wp2_with fail
        refine HO.mono ?_
        rintro e w3 ⟨rfl, c3, g3⟩
        have HR3 : Hid (EntRow w3 w.heap.size u5 d) := row_gbE HR.out g3 hp
        have G3 := gb_trans g g3
        clear HO
        go_wp2_with fail
        refine (name_any S ok p s3 w3 c3).mono ?_
        rintro e w4 ⟨t, s4, ht, rfl, c4, g4⟩
        have HR4 : Hid (EntRow w4 w.heap.size u5 d) := row_gbE HR3.out g4 hp
        have G4 := gb_trans G3 g4
        go_wp2_with fail
        refine (l5Drop_any u5 d t w.heap.size w4 HR4.out HD.out.1 (by omega) (by have := HD.out.2; omega) G4.size).mono ?_
        rintro e w6 ⟨u6, rfl, row6, b6⟩
        have HR6 : Hid (EntRow w6 w.heap.size u6 (dropL d t)) := row6
        have HC6 : Hid (At S p s4 w6) := c4.below (b6.mono hp)
        have G6 := gb_below G4 b6
        have HD6 : Hid (Shorts (dropL d t) ∧ (dropL d t).length ≤ 12) := ⟨shorts_drop HD.out.1 _, len_drop HD.out.2 _⟩
        clear row6
        go_wp2
        go_roundw
        case rel => exact ⟨k - 1, _, s4, by go_num, by omega, HR6, HD6, HC6, G6⟩
        case measure => simp [intOf]; omega
    · obtain rfl : k = 0 := by omega
      go_wp2_with fail
      refine (l5Copy_any u5 d wr HR.out.at (by have := HD.out.2; omega)).mono ?_
      rintro e w3 ⟨u3, rfl, row3, b3⟩
      have HR3 : Hid (EntRow w3 w.heap.size u3 d) := row3.mono g.size
      have HC3 : Hid (At S p s2 w3) := HC.out.below (b3.mono (Nat.le_trans hp g.size))
      have G3 := gb_below g (b3.mono g.size)
      clear row3
      go_wp2
      go_ret
      exact ⟨_, d, s2, rfl, HR3.out, HD.out.1, HD.out.2, HC3.out, G3⟩
end

section
open Go.RowKit

/-- one cell of an entry written anew -/
theorem flatE_setOne : ∀ (l : List En) (t j : Nat) (e : En) (v : Value), t < l.length → j < 4 → encE e = (encE l[t]!).set j v → (flatE l).set (t * 4 + j) v = flatE (l.set t e)
  | [], t, j, e, v, h, _, _ => by simp at h
  | x :: l, 0, j, e, v, _, hj, he => by
    have he : encE e = (encE x).set j v := he
    rw [List.set_cons_zero, flatE_cons, flatE_cons, he, Nat.zero_mul, Nat.zero_add, List.set_append_left _ _ (by rw [encE_len]; exact hj)]
  | x :: l, t + 1, j, e, v, h, hj, he => by
    have ih := flatE_setOne l t j e v (by simpa using h) hj he
    rw [List.set_cons_succ, flatE_cons, flatE_cons, ← ih, show (t + 1) * 4 + j = (encE x).length + (t * 4 + j) by rw [encE_len]; omega, List.set_append_right _ _ (by omega)]
    congr 2; omega

/-- a row of one's own: entry t with one cell anew -/
theorem row_set1 {w : World} {B g cap n : Nat} {l : List En} (h : EntRow w B (.slice (some ⟨g, 0, none⟩) n cap) l) (t j : Nat) (e : En) (v : Value) (ht : t < l.length) (hj : j < 4) (he : encE e = (encE l[t]!).set j v) :
    EntRow (w.setCell ⟨g, t * 4 + j, none⟩ v) B (.slice (some ⟨g, 0, none⟩) n cap) (l.set t e) := by
  have hn : n = l.length := by rcases h.2 with ⟨h, _⟩ | ⟨_, _, _, h, _⟩ <;> cases h; rfl
  subst hn
  have h3 := (World.ownsRow.stored h (t * 4 + j) v).1
  rw [flatE_setOne l t j e v ht hj he] at h3
  unfold EntRow
  rw [List.length_set]
  exact h3
theorem shorts_set {d : List En} (h : Shorts d) {e : En} (he : e.name.size ≤ 1048576) (i : Nat) : Shorts (d.set i e) := fun x hx => by
  rcases List.mem_or_eq_of_mem_set hx with hx | rfl
  · exact h x hx
  · exact he

theorem gb_below2 {w w1 w2 : World} {r : Option Nat} (a : w.grownBy w1 r) (b : Below w1.heap.size w1 w2) : w.grownBy w2 r := gb_below a (b.mono a.size)
theorem gb_setE {w w1 : World} {r : Option Nat} (a : w.grownBy w1 r) {g : Nat} (hg : w.heap.size ≤ g) (o : Nat) (v : Value) : w.grownBy (w1.setCell ⟨g, o, none⟩ v) r :=
  gb_below a ((Below.refl _ w1).setCell (p := ⟨g, o, none⟩) hg v)

set_option maxRecDepth 100000 in
set_option maxHeartbeats 4000000 in
theorem l5Any_any (S : Src) (ok : S.ok) (M : Int) (hM : M ≤ 1000) (p : Nat) (s : Nat × Int) (w : World) (c : At S p s w) :
    Calls Tryz.prog 23 #[.pointer (some ⟨p, 0, none⟩), .int .i64 M] w fun e w' => ∃ v d s', e = .returned v ∧ EntRow w' w.heap.size v d ∧ Shorts d ∧ d.length ≤ 13 ∧ At S p s' w' ∧ w.grownBy w' (some p) := by
  have hp := c.size
  go_enter Tryz.func23, Tryz.ntmps23
  go_wp2_with fail
  refine (l5Dir_any S ok M hM p s w c).mono ?_
  rintro e w1 ⟨v, d, s1, rfl, row1, hsh, hlen, c1, g1⟩
  have HSH : Hid (Shorts d) := hsh
  have HC1 : Hid (At S p s1 w1) := c1
  have HR1 : Hid (EntRow w1 w.heap.size v d) := row1
  have hv' := row1.at
  obtain ⟨a0, cap0, e0, -, hva⟩ := hv'
  have HO := once_any S ok 10 p s1 w1 c1
  obtain ⟨q, HQ⟩ : ∃ q : Bool, Hid ((bX S 10 s1 == 0) = q) := ⟨_, rfl⟩
  rw [HQ.out] at HO
  generalize bS S 10 s1 = s2 at HO
  obtain ⟨n, HN⟩ : ∃ n, Hid (n = d.length) := ⟨_, rfl⟩
  rw [← HN.out] at e0 hva
  have hlen : n ≤ 12 := by rw [HN.out]; exact hlen
  subst e0
  clear c1 row1 hsh
  by_cases hn : n = 0
  · subst hn
    clear HO
    go_wp2
    go_ret
    exact ⟨_, d, s1, rfl, HR1.out, HSH.out, by rw [← HN.out]; omega, HC1.out, g1⟩
  · have hne : ((n : Int) == 0) = false := by simp; omega
    cases q
    · go_wp2_with (go_at_call 46; refine HO.mono ?_; rintro e w2 ⟨rfl, c2, g2⟩)
      go_ret
      exact ⟨_, d, s2, rfl, row_gbE HR1.out g2 hp, HSH.out, by rw [← HN.out]; omega, c2, gb_trans g1 g2⟩
    · go_wp2_with fail
      refine HO.mono ?_
      rintro e w2 ⟨rfl, c2, g2⟩
      have HR2 : Hid (EntRow w2 w.heap.size _ d) := row_gbE HR1.out g2 hp
      have G2 := gb_trans g1 g2
      have HK := below_any S ok (n : Int) p s2 w2 c2
      have hk := bX_bd S (n : Int) s2 (by omega)
      obtain ⟨k, hke⟩ := Int.eq_ofNat_of_zero_le hk.1
      rw [hke] at HK hk
      generalize bS S (n : Int) s2 = s3 at HK
      clear hke HO
      go_wp2_with fail
      refine HK.mono ?_
      rintro e w3 ⟨rfl, c3, g3⟩
      have HR3 : Hid (EntRow w3 w.heap.size _ d) := row_gbE HR2.out g3 hp
      have G3 := gb_trans G2 g3
      have HX := below_any S ok 5 p s3 w3 c3
      have hx := bX_bd S 5 s3 (by decide)
      generalize bX S 5 s3 = x at HX hx
      generalize bS S 5 s3 = s4 at HX
      clear HK
      go_wp2_with fail
      refine HX.mono ?_
      rintro e w4 ⟨rfl, c4, g4⟩
      have HR4 : Hid (EntRow w4 w.heap.size _ d) := row_gbE HR3.out g4 hp
      have HC4 : Hid (At S p s4 w4) := c4
      have G4 := gb_trans G3 g4
      clear HX HR1 HR2 HR3 g1 g2 g3 g4 G2 G3 c2 c3
      have hkn : k < n := by omega
      obtain ⟨g, ca, HG⟩ : ∃ g ca, Hid (a0 = some ⟨g, 0, none⟩ ∧ cap0 = ca ∧ w.heap.size ≤ g) := by
        rcases HR4.out.2 with ⟨h, h0⟩ | ⟨g, cap, cur, h, hg, _⟩
        · rw [← HN.out] at h0; omega
        · cases h; exact ⟨g, _, rfl, rfl, hg⟩
      obtain ⟨rfl, rfl, hg⟩ := HG.out
      have HCE : Hid (∀ W, EntRow W w.heap.size (.slice (some ⟨g, 0, none⟩) n cap0) d → CellsE W g (k * 4) d[k]! ∧ (∀ j, j < n * 4 → (∃ u, W.cell? ⟨g, j, none⟩ = some u) ∧ W.frozen? ⟨g, j, none⟩ = false)) := fun W hW => by
        refine ⟨?_, fun j hj => ?_⟩
        · obtain ⟨a1, cap1, e1, -, h1⟩ := hW.at
          cases e1
          obtain ⟨b, o, e2, -, h2⟩ := h1 k (by rw [← HN.out]; exact hkn)
          cases e2
          rw [Nat.zero_add] at h2; exact h2
        · have h1 := hW
          rw [HN.out] at h1 hj
          exact row_cells h1 j hj
      have HSE : Hid (∀ W j e u, EntRow W w.heap.size (.slice (some ⟨g, 0, none⟩) n cap0) d → j < 4 → encE e = (encE d[k]!).set j u → EntRow (W.setCell ⟨g, k * 4 + j, none⟩ u) w.heap.size (.slice (some ⟨g, 0, none⟩) n cap0) (d.set k e)) := fun W j e u hW hj he => row_set1 hW k j e u (by rw [← HN.out]; exact hkn) hj he
      have HSS : Hid (∀ e : En, e.name.size ≤ 1048576 → Shorts (d.set k e) ∧ (d.set k e).length ≤ 13) := fun e he => ⟨shorts_set HSH.out he k, by rw [List.length_set, ← HN.out]; omega⟩
      have HKS : Hid (d[k]!.name.size ≤ 1048576) := HSH.out.at (by rw [← HN.out]; exact hkn)
      generalize hy : d[k]! = y at HCE HSE HKS
      have HY : Hid (d[k]! = y) := hy
      clear hy hva HG
      obtain ⟨y0, y1, y2, y3⟩ := y
      have hk1 : (k : Int) < (n : Int) := by omega
      have hk0 : (0 : Int) ≤ (k : Int) := by omega
      obtain rfl | rfl | rfl | rfl | rfl : x = 0 ∨ x = 1 ∨ x = 2 ∨ x = 3 ∨ x = 4 := by omega
      · obtain ⟨hce, hcf⟩ := HCE.out w4 HR4.out
        have k0 := hce.c0
        obtain ⟨-, f0⟩ := hcf (k * 4) (by omega)
        obtain ⟨z, hz⟩ : ∃ z, wrap64 (y0 + 1) = z := ⟨_, rfl⟩
        have HE : Hid (EntRow (w4.setCell ⟨g, k * 4, none⟩ (.int .i64 z)) w.heap.size (.slice (some ⟨g, 0, none⟩) n cap0) (d.set k ⟨z, y1, y2, y3⟩)) := HSE.out w4 0 _ _ HR4.out (by omega) rfl
        have HC5 : Hid (At S p s4 (w4.setCell ⟨g, k * 4, none⟩ (.int .i64 z))) := HC4.out.below ((Below.refl _ _).setCell (p := ⟨g, k * 4, none⟩) (by show p + 1 ≤ g; omega) _)
        have G5 : Hid (w.grownBy (w4.setCell ⟨g, k * 4, none⟩ (.int .i64 z)) (some p)) := gb_setE G4 hg _ _
        have HSZ := HSS.out ⟨z, y1, y2, y3⟩ HKS.out
        have HSZ : Hid _ := HSZ
        clear hce hcf
        go_wp2
        go_ret
        exact ⟨_, _, s4, rfl, HE.out, HSZ.out.1, HSZ.out.2, HC5.out, G5.out⟩
      · have hb5 := below_lit w4 (.cells #[.int .i64 (-1), .int .i64 3, .int .i64 12, .int .i64 13] 3)
        have hh5 : (w4.alloc (.cells #[.int .i64 (-1), .int .i64 3, .int .i64 12, .int .i64 13] 3)).heap[w4.heap.size]? = some (.cells (([-1, 3, 12, 13] : List Int).map (Value.int .i64)).toArray 3 (0, 0)) := heap_alloc_new _ _
        have hp4 : p < w4.heap.size := HC4.out.size
        have HP := pick_any S ok [-1, 3, 12, 13] 4 rfl w4.heap.size 3 p s4 _ (HC4.out.below (hb5.mono hp4)) (by decide) (by decide) (by omega) hh5
        have HR5 := HR4.out.below hb5
        have G5 := gb_below2 G4 hb5
        generalize pX S [-1, 3, 12, 13] s4 = z at HP
        generalize bS S (([-1, 3, 12, 13] : List Int).length : Int) s4 = s5 at HP
        obtain ⟨w5, HW5⟩ : ∃ w5, Hid (w5 = w4.alloc (.cells #[.int .i64 (-1), .int .i64 3, .int .i64 12, .int .i64 13] 3)) := ⟨_, rfl⟩
        rw [← HW5.out] at HP HR5 G5
        have HR5 : Hid (EntRow w5 w.heap.size (.slice (some ⟨g, 0, none⟩) n cap0) d) := HR5
        clear hb5 hh5
        go_wp2_with fail
        rw [← HW5.out]
        refine HP.mono ?_
        rintro e w6 ⟨rfl, c6, g6⟩
        have HR6 : Hid (EntRow w6 w.heap.size (.slice (some ⟨g, 0, none⟩) n cap0) d) := row_gbE HR5.out g6 hp
        have G6 := gb_trans G5 g6
        obtain ⟨hce, hcf⟩ := HCE.out w6 HR6.out
        obtain ⟨⟨u0, k0⟩, f0⟩ := hcf (k * 4 + 1) (by omega)
        have HE : Hid (EntRow (w6.setCell ⟨g, k * 4 + 1, none⟩ (.int .i64 z)) w.heap.size (.slice (some ⟨g, 0, none⟩) n cap0) (d.set k ⟨y0, z, y2, y3⟩)) := HSE.out w6 1 _ _ HR6.out (by omega) rfl
        have HC7 : Hid (At S p s5 (w6.setCell ⟨g, k * 4 + 1, none⟩ (.int .i64 z))) := c6.below ((Below.refl _ _).setCell (p := ⟨g, k * 4 + 1, none⟩) (by show p + 1 ≤ g; omega) _)
        have G7 : Hid (w.grownBy (w6.setCell ⟨g, k * 4 + 1, none⟩ (.int .i64 z)) (some p)) := gb_setE G6 hg _ _
        have HSZ := HSS.out ⟨y0, z, y2, y3⟩ HKS.out
        have HSZ : Hid _ := HSZ
        clear hce hcf HP c6
        go_wp2
        go_ret
        exact ⟨_, _, s5, rfl, HE.out, HSZ.out.1, HSZ.out.2, HC7.out, G7.out⟩
      · go_wp2_with fail
        refine (name_any S ok p s4 w4 HC4.out).mono ?_
        rintro e w6 ⟨t, s5, ht, rfl, c6, g6⟩
        have HR6 : Hid (EntRow w6 w.heap.size (.slice (some ⟨g, 0, none⟩) n cap0) d) := row_gbE HR4.out g6 hp
        have G6 := gb_trans G4 g6
        obtain ⟨hce, hcf⟩ := HCE.out w6 HR6.out
        obtain ⟨⟨u0, k0⟩, f0⟩ := hcf (k * 4 + 2) (by omega)
        have HE : Hid (EntRow (w6.setCell ⟨g, k * 4 + 2, none⟩ (.string t)) w.heap.size (.slice (some ⟨g, 0, none⟩) n cap0) (d.set k ⟨y0, y1, t, y3⟩)) := HSE.out w6 2 _ _ HR6.out (by omega) rfl
        have HC7 : Hid (At S p s5 (w6.setCell ⟨g, k * 4 + 2, none⟩ (.string t))) := c6.below ((Below.refl _ _).setCell (p := ⟨g, k * 4 + 2, none⟩) (by show p + 1 ≤ g; omega) _)
        have G7 : Hid (w.grownBy (w6.setCell ⟨g, k * 4 + 2, none⟩ (.string t)) (some p)) := gb_setE G6 hg _ _
        have HSZ := HSS.out ⟨y0, y1, t, y3⟩ (by show t.size ≤ _; omega)
        have HSZ : Hid _ := HSZ
        clear hce hcf c6
        go_wp2
        go_ret
        exact ⟨_, _, s5, rfl, HE.out, HSZ.out.1, HSZ.out.2, HC7.out, G7.out⟩
      · have hb5 := below_lit w4 (.cells #[.int .i64 0, .int .i64 100000, .int .i64 100001] 3)
        have hh5 : (w4.alloc (.cells #[.int .i64 0, .int .i64 100000, .int .i64 100001] 3)).heap[w4.heap.size]? = some (.cells (([0, 100000, 100001] : List Int).map (Value.int .i64)).toArray 3 (0, 0)) := heap_alloc_new _ _
        have hp4 : p < w4.heap.size := HC4.out.size
        have HP := pick_any S ok [0, 100000, 100001] 3 rfl w4.heap.size 3 p s4 _ (HC4.out.below (hb5.mono hp4)) (by decide) (by decide) (by omega) hh5
        have HR5 := HR4.out.below hb5
        have G5 := gb_below2 G4 hb5
        generalize pX S [0, 100000, 100001] s4 = z at HP
        generalize bS S (([0, 100000, 100001] : List Int).length : Int) s4 = s5 at HP
        obtain ⟨w5, HW5⟩ : ∃ w5, Hid (w5 = w4.alloc (.cells #[.int .i64 0, .int .i64 100000, .int .i64 100001] 3)) := ⟨_, rfl⟩
        rw [← HW5.out] at HP HR5 G5
        have HR5 : Hid (EntRow w5 w.heap.size (.slice (some ⟨g, 0, none⟩) n cap0) d) := HR5
        clear hb5 hh5
        go_wp2_with fail
        rw [← HW5.out]
        refine HP.mono ?_
        rintro e w6 ⟨rfl, c6, g6⟩
        have HR6 : Hid (EntRow w6 w.heap.size (.slice (some ⟨g, 0, none⟩) n cap0) d) := row_gbE HR5.out g6 hp
        have G6 := gb_trans G5 g6
        obtain ⟨hce, hcf⟩ := HCE.out w6 HR6.out
        obtain ⟨⟨u0, k0⟩, f0⟩ := hcf (k * 4 + 3) (by omega)
        have HE : Hid (EntRow (w6.setCell ⟨g, k * 4 + 3, none⟩ (.int .i64 z)) w.heap.size (.slice (some ⟨g, 0, none⟩) n cap0) (d.set k ⟨y0, y1, y2, z⟩)) := HSE.out w6 3 _ _ HR6.out (by omega) rfl
        have HC7 : Hid (At S p s5 (w6.setCell ⟨g, k * 4 + 3, none⟩ (.int .i64 z))) := c6.below ((Below.refl _ _).setCell (p := ⟨g, k * 4 + 3, none⟩) (by show p + 1 ≤ g; omega) _)
        have G7 : Hid (w.grownBy (w6.setCell ⟨g, k * 4 + 3, none⟩ (.int .i64 z)) (some p)) := gb_setE G6 hg _ _
        have HSZ := HSS.out ⟨y0, y1, y2, z⟩ HKS.out
        have HSZ : Hid _ := HSZ
        clear hce hcf HP c6
        go_wp2
        go_ret
        exact ⟨_, _, s5, rfl, HE.out, HSZ.out.1, HSZ.out.2, HC7.out, G7.out⟩
      · obtain ⟨hce, hcf⟩ := HCE.out w4 HR4.out
        have k0 := hce.c0
        have k1 := hce.c1
        have k2 := hce.c2
        have k3 := hce.c3
        dsimp only at k0 k1 k2 k3
        have hb5 := below_lit w4 (.cells #[.int .i64 y0, .int .i64 y1, .string y2, .int .i64 y3] 34)
        have hu5 := one_ent w4 ⟨y0, y1, y2, y3⟩
        have HR5 : Hid (EntRow (w4.alloc (.cells #[.int .i64 y0, .int .i64 y1, .string y2, .int .i64 y3] 34)) w.heap.size (.slice (some ⟨g, 0, none⟩) n cap0) d) := HR4.out.below hb5
        have G5 := gb_below2 G4 hb5
        have hp4 : p < w4.heap.size := HC4.out.size
        have HC5 := HC4.out.below (hb5.mono hp4)
        have HLL : Hid (d.length + [(⟨y0, y1, y2, y3⟩ : En)].length ≤ 1099511627776) := by show _ ≤ _; rw [← HN.out]; simp; omega
        have HSZ : Hid (Shorts (d ++ [⟨y0, y1, y2, y3⟩]) ∧ (d ++ [(⟨y0, y1, y2, y3⟩ : En)]).length ≤ 13) := by
          refine ⟨fun e he => ?_, by rw [List.length_append, ← HN.out]; simp; omega⟩
          rcases List.mem_append.1 he with he | he
          · exact HSH.out e he
          · rw [List.mem_singleton.1 he]; exact HKS.out
        have HU : Hid _ := hu5
        have HB5 : Hid _ := hb5
        clear hce hcf hu5 hb5
        go_wp2_with (at_builtin; refine append_ents _ rfl (.tmp 25) (.tmp 30) rfl w.heap.size _ _ d [⟨y0, y1, y2, y3⟩] HLL.out HR5.out HU.out rfl rfl G5.size ?_; intro v6 w6 hrow6 hb6)
        go_ret
        exact ⟨_, _, s4, rfl, hrow6, HSZ.out.1, HSZ.out.2, HC5.below (hb6.mono hp), gb_below G5 hb6⟩

set_option maxRecDepth 100000 in
set_option maxHeartbeats 1000000 in
theorem size_any (S : Src) (ok : S.ok) (m : Int) (hm : 0 ≤ m) (hm2 : m ≤ 1000) (w : World) :
    Calls Tryz.prog 24 #[.slice S.a S.len S.cap, .int .i64 m] w fun e w' => ∃ r : Int, r ≤ 1000 ∧ e = .returned (.int .i64 r) ∧ w = w' := by
  obtain ⟨a, len, cap, zs⟩ := S
  have hlen : len ≤ 1048576 := ok.1
  have hq : (len : Int).tdiv 20 = ((len / 20 : Nat) : Int) := by rw [Int.tdiv_eq_ediv_of_nonneg (by omega)]; omega
  have hq2 : (len : Int) / 20 = ((len / 20 : Nat) : Int) := by omega
  obtain ⟨b, HB⟩ : ∃ b, Hid (b = len / 20) := ⟨_, rfl⟩
  rw [← HB.out] at hq hq2
  have hb : b ≤ 1048576 := by rw [HB.out]; omega
  have hw1 : IntKind.i64.wrap (2 + (b : Int)) = 2 + (b : Int) := by rw [IntKind.wrap_i64]; omega
  have hw2 : IntKind.i64.wrap (b : Int) = (b : Int) := by rw [IntKind.wrap_i64]; omega
  dsimp only
  by_cases h : m < 2 + (b : Int)
  · go_enter Tryz.func24, Tryz.ntmps24
    go_wp2
    go_ret
    exact ⟨m, hm2, rfl, rfl⟩
  · go_enter Tryz.func24, Tryz.ntmps24
    go_wp2
    go_ret
    exact ⟨_, by omega, rfl, rfl⟩
end

section
open Go.RowKit

theorem results_tmp3 {fn : Func} {a b c : Tmp} (h : fn.results = #[.tmp a, .tmp b, .tmp c]) (tmps : Array Value) (P : Program) (w : World) : (results fn tmps).run P w = .ok (.tuple #[tmps.getD a undef, tmps.getD b undef, tmps.getD c undef]) w := by
  simp [results, h]

theorem bytes_inj {a b : ByteArray} (h : a.toList = b.toList) : a = b := by
  rw [ByteArray.toList_eq, ByteArray.toList_eq] at h
  obtain ⟨⟨x⟩⟩ := a
  obtain ⟨⟨y⟩⟩ := b
  have h : x = y := h
  rw [h]

set_option maxRecDepth 100000 in
theorem neE (x y : En) (w : World) : (binOp .neq 34 (.agg #[.int .i64 x.hash, .int .i64 x.index, .string x.name, .int .i64 x.id]) (.agg #[.int .i64 y.hash, .int .i64 y.index, .string y.name, .int .i64 y.id])).run Tryz.prog w = .ok (.bool (!decide (x = y))) w := by
  have u3 := Tryz.underlying3
  have a3 := Tryz.isAgg3
  have z3 := Tryz.sizeOf3
  have u9 := Tryz.underlying9
  have a9 := Tryz.isAgg9
  have z9 := Tryz.sizeOf9
  have hS : Tryz.prog.underlying 34 = some (.struct (Tryz.prog.fieldsOf 34)) := by kernel_rfl
  have hp : Tryz.prog.stoodInHeld 34 = false := by kernel_rfl
  rw [run_neq_struct, show (10000 : Nat) = 9999 + 1 from rfl, run_equalIn_agg w 9999 34 _ _ hS hp]
  simp only [Program.fieldsOf, Tryz.underlying34]
  obtain ⟨x0, x1, x2, x3⟩ := x
  obtain ⟨y0, y1, y2, y3⟩ := y
  have hd : decide ((⟨x0, x1, x2, x3⟩ : En) = ⟨y0, y1, y2, y3⟩) = (decide (x0 = y0) && (decide (x1 = y1) && (decide (x2 = y2) && decide (x3 = y3)))) := by
    rw [Bool.eq_iff_iff]; simp
  have hbi : x2.toList = y2.toList ↔ x2 = y2 := ⟨bytes_inj, fun h => by rw [h]⟩
  rw [hd]
  go_simp
  by_cases h0 : x0 = y0 <;> by_cases h1 : x1 = y1 <;> by_cases h2 : x2 = y2 <;> by_cases h3 : x3 = y3 <;> simp [h0, h1, h2, h3]

set_option maxRecDepth 100000 in
theorem eqE (x y : En) (w : World) : (binOp .eql 34 (.agg #[.int .i64 x.hash, .int .i64 x.index, .string x.name, .int .i64 x.id]) (.agg #[.int .i64 y.hash, .int .i64 y.index, .string y.name, .int .i64 y.id])).run Tryz.prog w = .ok (.bool (decide (x = y))) w := by
  have u3 := Tryz.underlying3
  have a3 := Tryz.isAgg3
  have z3 := Tryz.sizeOf3
  have u9 := Tryz.underlying9
  have a9 := Tryz.isAgg9
  have z9 := Tryz.sizeOf9
  have hS : Tryz.prog.underlying 34 = some (.struct (Tryz.prog.fieldsOf 34)) := by kernel_rfl
  have hp : Tryz.prog.stoodInHeld 34 = false := by kernel_rfl
  rw [run_eql_struct, show (10000 : Nat) = 9999 + 1 from rfl, run_equalIn_agg w 9999 34 _ _ hS hp]
  simp only [Program.fieldsOf, Tryz.underlying34]
  obtain ⟨x0, x1, x2, x3⟩ := x
  obtain ⟨y0, y1, y2, y3⟩ := y
  have hd : decide ((⟨x0, x1, x2, x3⟩ : En) = ⟨y0, y1, y2, y3⟩) = (decide (x0 = y0) && (decide (x1 = y1) && (decide (x2 = y2) && decide (x3 = y3)))) := by
    rw [Bool.eq_iff_iff]; simp
  have hbi : x2.toList = y2.toList ↔ x2 = y2 := ⟨bytes_inj, fun h => by rw [h]⟩
  rw [hd]
  go_simp
  by_cases h0 : x0 = y0 <;> by_cases h1 : x1 = y1 <;> by_cases h2 : x2 = y2 <;> by_cases h3 : x3 = y3 <;> simp [h0, h1, h2, h3]

set_option maxRecDepth 100000 in
set_option maxHeartbeats 1000000 in
theorem sameDir_any (u v : Value) (l m : List En) (w : World) (hu : EntsAt w u l) (hv : EntsAt w v m) (hl : l.length ≤ 1048576) :
    Calls Tryz.prog 10 #[u, v] w fun e w' => e = .returned (.bool (decide (l = m))) ∧ Below w.heap.size w w' := by
  have HNE : Hid (l.length ≠ m.length → decide (l = m) = false) := fun h => decide_eq_false fun e => h (by rw [e])
  have HNO : Hid (∀ k, k < l.length → l.length = m.length → l[k]! ≠ m[k]! → decide (l = m) = false) := fun k hk he h => decide_eq_false fun e => h (by rw [e])
  have HYS : Hid (l.length = m.length → (∀ t, t < l.length → l[t]! = m[t]!) → decide (l = m) = true) := fun he h => decide_eq_true (List.ext_getElem he fun t h1 h2 => by
    have := h t h1
    rwa [getElem!_pos l t h1, getElem!_pos m t h2] at this)
  generalize decide (l = m) = r at HNE HNO HYS ⊢
  obtain ⟨a, ca, rfl, -, hua⟩ := hu
  obtain ⟨b, cb, rfl, -, hvb⟩ := hv
  obtain ⟨n, HN⟩ : ∃ n, Hid (n = l.length) := ⟨_, rfl⟩
  obtain ⟨n2, HN2⟩ : ∃ n2, Hid (n2 = m.length) := ⟨_, rfl⟩
  rw [← HN.out] at hua hl HNE HNO HYS ⊢
  rw [← HN2.out] at hvb HNE HNO HYS ⊢
  by_cases hne : n = n2
  · subst hne
    have HYS2 : Hid ((∀ t, t < n → l[t]! = m[t]!) → r = true) := HYS.out rfl
    have HNO2 : Hid (∀ k, k < n → l[k]! ≠ m[k]! → r = false) := fun k hk h => HNO.out k hk rfl h
    clear HYS HNO HNE
    go_enter Tryz.func10, Tryz.ntmps10
    go_wp2
    go_loopw [5] (fun i wr => ∃ k : Nat, k ≤ n ∧ i = .int .i64 k ∧ Hid (∀ t, t < k → l[t]! = m[t]!) ∧ Below w.heap.size w wr) (fun i _ => n - (intOf i).toNat)
    case atStart => exact ⟨0, Nat.zero_le _, rfl, fun t ht => by omega, Below.refl _ _⟩
    case round =>
      obtain ⟨k, hk, rfl, HE, hbel⟩ := hrel
      by_cases hlt : k < n
      · obtain ⟨b1, o1, rfl, hb1, hc1⟩ := hua k hlt
        obtain ⟨b2, o2, rfl, hb2, hc2⟩ := hvb k hlt
        have hc1 := hc1.below hb1 hbel
        have hc2 := hc2.below hb2 hbel
        have HN1 : Hid (l[k]! ≠ m[k]! → r = false) := HNO2.out k hlt
        have HE1 : Hid (l[k]! = m[k]! → ∀ t, t < k + 1 → l[t]! = m[t]!) := fun h t ht => by
          by_cases e : t = k
          · rw [e]; exact h
          · exact HE.out t (by omega)
        generalize l[k]! = x at hc1 HN1 HE1
        generalize m[k]! = y at hc2 HN1 HE1
        have hNE := fun w' => neE x y w'
        obtain ⟨q, HQ⟩ : ∃ q : Bool, Hid (decide (x = y) = q) := ⟨_, rfl⟩
        rw [HQ.out] at hNE
        have HN3 : Hid (q = false → r = false) := fun h => HN1.out (fun e => by have := HQ.out; rw [h] at this; simp [e] at this)
        have HE2 : Hid (q = true → ∀ t, t < k + 1 → l[t]! = m[t]!) := fun h => HE1.out (by have := HQ.out; rw [h] at this; simpa using this)
        obtain ⟨x0, x1, x2, x3⟩ := x
        obtain ⟨y0, y1, y2, y3⟩ := y
        have p0 := cell_regrown hc1.c0
        have p1 := cell_regrown hc1.c1
        have p2 := cell_regrown hc1.c2
        have p3 := cell_regrown hc1.c3
        have q0 := cell_regrown hc2.c0
        have q1 := cell_regrown hc2.c1
        have q2 := cell_regrown hc2.c2
        have q3 := cell_regrown hc2.c3
        dsimp only at p0 p1 p2 p3 q0 q1 q2 q3 hNE
        have hkn : (k : Int) < (n : Int) := by omega
        have hk0 : (0 : Int) ≤ (k : Int) := by omega
        clear hc1 hc2 hua hvb HN1 HE1 HNO2 HYS2 HQ
        cases q
        · have hr := HN3.out rfl
          subst hr
          go_wp2
          refine wp_region_quiet_below (by kernel_rfl) (by kernel_rfl) ?_
          repeat (go_big_quiet_step (fail))
          refine wpQuiet_nil ?_
          rintro w' ⟨⟨dq, osq⟩, rfl⟩
          have hbq := below_regrown wr dq osq
          generalize Go.Sort.grow (redrawn wr dq) osq = w6 at hbq ⊢
          have hb6 : Below w.heap.size w w6 := hbel.trans (hbq.mono hbel.size)
          go_wp2
          go_ret
          exact ⟨rfl, hb6⟩
        · go_wp2
          refine wp_region_quiet_below (by kernel_rfl) (by kernel_rfl) ?_
          repeat (go_big_quiet_step (fail))
          refine wpQuiet_nil ?_
          rintro w' ⟨⟨dq, osq⟩, rfl⟩
          have hbq := below_regrown wr dq osq
          generalize Go.Sort.grow (redrawn wr dq) osq = w6 at hbq ⊢
          have hb6 : Below w.heap.size w w6 := hbel.trans (hbq.mono hbel.size)
          go_wp2
          go_roundw
          case rel => exact ⟨k + 1, by omega, by go_num, HE2.out trivial, hb6⟩
          case measure => simp [intOf]; omega
      · obtain rfl : k = n := by omega
        have hr := HYS2.out HE.out
        subst hr
        clear hua hvb HNO2 HYS2
        go_wp2
        go_ret
        exact ⟨rfl, hbel⟩
  · have hr := HNE.out hne
    subst hr
    have hz : ((n : Int) != (n2 : Int)) = true := by simp; omega
    clear hua hvb HNO HNE HYS
    go_enter Tryz.func10, Tryz.ntmps10
    go_wp2
    go_ret
    exact ⟨rfl, Below.refl _ _⟩
end

end Go.Proofs.YtmhblmonigakbaaGreatDoor
