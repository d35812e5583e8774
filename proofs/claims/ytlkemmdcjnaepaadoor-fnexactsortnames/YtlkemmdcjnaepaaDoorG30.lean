/- The draws of chapter 3: some sign, a list of at most so many signs; each is something, and the cursor stands behind it. The draws of chapter 4: a name, two names; each is something, and the cursor stands behind it. Rows of texts: a text, and a row of texts, behind a row of texts. -/
import Derived.Test.YtlkemmdcjnaepaaDoorRows
import Derived.Test.YtlkemmdcjnaepaaDoorG00
import Derived.Test.YtlkemmdcjnaepaaDoorG04
import Derived.Test.YtlkemmdcjnaepaaDoorG29
import Derived.Test.YtlkemmdcjnaepaaDoorG02
import Derived.Test.YtlkemmdcjnaepaaDoorG28
import Derived.Lib.SmallJoins
import Derived.Laws.AppendOwnNone
namespace Go.Proofs.YtlkemmdcjnaepaaDoor

section
open Go.RowKit

def someList : List Int := [97, 65, 98, 229, 197, 8491, 778, 803, 770, 807, 769, 7853, 7852, 7841, 470, 252, 115, 83, 223, 963, 962, 931, 940, 902, 8486, 1040, 1072, 44032, 44033, 4352, 4449, 4520, 231, 99, 55203, 255]
def oddList : List Int := [-1, 0, 31, 47, 127, 55204, 55296, 57343, 57344, 65535, 65536, 1114111, 1114112, 930, 256]

theorem gb_belowB {w w1 w2 : World} {r : Option Nat} {B : Nat} (a : w.grownBy w1 r) (b : Below B w1 w2) (hB : w.heap.size ≤ B) : w.grownBy w2 r :=
  ⟨b.os.trans a.os, b.tape.trans a.tape, b.output.trans a.output, Nat.le_trans a.size b.size, fun k hk hn => (b.block k (by omega)).trans (a.block k hk hn)⟩

set_option maxRecDepth 100000 in
set_option maxHeartbeats 1000000 in
theorem some_any (S : Src) (ok : S.ok) (p : Nat) (s : Nat × Int) (w : World) (c : At S p s w) :
    Calls Tryd.prog 71 #[.pointer (some ⟨p, 0, none⟩)] w fun e w' => ∃ k s', e = .returned (.int .i64 k) ∧ At S p s' w' ∧ w.grownBy w' (some p) := by
  have hs0 := c.size
  go_enter Tryd.func71, Tryd.ntmps71
  go_wp2_with fail
  refine (pick_any S ok someList 36 rfl w.heap.size 3 p s _ (c.below ((Below.refl _ _).alloc (by omega) _)) (by decide) (by decide) (by omega) (heap_new _ _)).mono ?_
  rintro e w1 ⟨rfl, c1, b1⟩
  have B1 : w.grownBy w1 (some p) := gb_trans (World.grownBy_alloc _ _ _) b1
  clear b1
  generalize bS S someList.length s = s1 at c1
  generalize pX S someList s = k0
  have hs1 := c1.size
  go_wp2_with fail
  refine (once_any S ok 5 p s1 _ c1).mono ?_
  rintro e w2 ⟨rfl, c2, b2⟩
  have B2 := gb_trans B1 b2
  clear b2
  generalize bS S 5 s1 = s2 at c2
  generalize (bX S 5 s1 == 0) = q1
  cases q1
  · go_wp2_with fail
    refine (once_any S ok 12 p s2 _ c2).mono ?_
    rintro e w3 ⟨rfl, c3, b3⟩
    have B3 := gb_trans B2 b3
    clear b3
    generalize bS S 12 s2 = s3 at c3
    generalize (bX S 12 s2 == 0) = q2
    have hs3 := c3.size
    cases q2
    · go_wp2
      go_ret
      exact ⟨_, _, rfl, c3, B3⟩
    · go_wp2_with fail
      refine (pick_any S ok oddList 15 rfl w3.heap.size 3 p s3 _ (c3.below ((Below.refl _ _).alloc (by omega) _)) (by decide) (by decide) (by omega) (heap_new _ _)).mono ?_
      rintro e w4 ⟨rfl, c4, b4⟩
      go_wp2
      go_ret
      exact ⟨_, _, rfl, c4, gb_trans (gb_trans B3 (World.grownBy_alloc _ _ _)) b4⟩
  · have x1 := bX_bd S 224 s2 (by decide)
    go_wp2_with fail
    refine (below_any S ok 224 p s2 _ c2).mono ?_
    rintro e w3 ⟨rfl, c3, b3⟩
    generalize bX S 224 s2 = y at x1
    go_wp2
    go_ret
    exact ⟨_, _, rfl, c3, gb_trans B2 b3⟩

theorem row_gb {w w' : World} {B p : Nat} {v : Value} {l : List Int} (h : IntRow w B v l) (g : w.grownBy w' (some p)) (hp : p < B) : IntRow w' B v l := by
  refine World.ownsRow.kept h g ?_
  cases e : v.ownBlock with
  | none => exact .inl rfl
  | some j =>
    right
    intro e2
    cases e2
    have := (World.ownsRow.lt h _ e).1
    omega

set_option maxRecDepth 100000 in
set_option maxHeartbeats 1000000 in
theorem slistN_any (S : Src) (ok : S.ok) (M : Nat) (hM : M ≤ 100) (p : Nat) (s : Nat × Int) (w : World) (c : At S p s w) :
    Calls Tryd.prog 55 #[.pointer (some ⟨p, 0, none⟩), .int .i64 M] w fun e w' => ∃ l v s', l.length ≤ M ∧ e = .returned v ∧ IntRow w' w.heap.size v l ∧ At S p s' w' ∧ w.grownBy w' (some p) := by
  have hs0 := c.size
  have hx := bX_bd S ((M + 1 : Nat) : Int) s (by omega)
  have zM : IntKind.i64.wrap ((M : Int) + 1) = ((M + 1 : Nat) : Int) := by rw [IntKind.wrap_i64]; omega
  obtain ⟨M1, HM1⟩ : ∃ x : Nat, Hid (x = M + 1) := ⟨_, rfl⟩
  rw [← HM1.out] at hx zM
  obtain ⟨n0, HN⟩ := Int.eq_ofNat_of_zero_le hx.1
  have hn0 : n0 ≤ M := by have := HM1.out; omega
  have HN' : Hid (bX S (M1 : Int) s = n0) := HN
  clear HN hx
  go_enter Tryd.func55, Tryd.ntmps55
  go_wp2_with fail
  refine (below_any S ok (M1 : Int) p s _ (c.below ((Below.refl _ _).alloc (by omega) _))).mono ?_
  rintro e w1 ⟨rfl, c1, b1⟩
  rw [HN'.out]
  generalize bS S (M1 : Int) s = s1 at c1
  have B1 : w.grownBy w1 (some p) := gb_trans (World.grownBy_alloc _ _ _) b1
  have hrow0 : IntRow w1 w.heap.size (.slice (some ⟨w.heap.size, 0, none⟩) 0 0) [] := row_gb (lit_at w #[] [] 0 rfl rfl (by decide)) b1 hs0
  clear b1
  go_wp2
  go_loopw [5, 6] (fun v i wr => ∃ (n : Nat) (l : List Int) (s' : Nat × Int), i = .int .i64 n ∧ n + l.length ≤ M ∧ IntRow wr w.heap.size v l ∧ At S p s' wr ∧ w.grownBy wr (some p)) (fun _ i _ => (intOf i).toNat)
  case atStart => exact ⟨n0, [], s1, rfl, by simp; omega, hrow0, c1, B1⟩
  case round =>
    obtain ⟨n, l, s', rfl, hnl, hrow, ca, hgb⟩ := hrel
    by_cases hn : n = 0
    · subst hn
      go_wp2
      go_ret
      exact ⟨l, _, s', by omega, rfl, hrow, ca, hgb⟩
    · have hn' : (0 : Int) < (n : Int) := by omega
      have hsz := hgb.size
      go_wp2_with (first | (go_at_call 71; refine (some_any S ok p s' _ ca).mono ?_; rintro e w2 ⟨x, s2, rfl, c2, b2⟩; have hrow2 := row_gb hrow b2 hs0; have B2 := gb_trans hgb b2; have hsz2 := B2.size) | (at_builtin; refine append_int w2 rfl (.tmp 16) (.tmp 19) rfl w.heap.size _ l x (by omega) hrow2 rfl rfl hsz2 ?_; intro v' w3 hrow3 hbel3))
      go_roundw
      case rel => exact ⟨n - 1, l ++ [x], s2, by go_num, by simp; omega, hrow3, c2.below (hbel3.mono (by omega)), gb_belowB B2 hbel3 (Nat.le_refl _)⟩
      case measure => simp [intOf]; omega
end

section
open Go.RowKit

def nameList : List ByteArray := [⟨#[97]⟩, ⟨#[65]⟩, ⟨#[98]⟩, ⟨#[195, 165]⟩, ⟨#[97, 204, 138]⟩, ⟨#[226, 132, 171]⟩, ⟨#[65, 204, 138]⟩, ⟨#[225, 186, 173]⟩, ⟨#[97, 204, 130, 204, 163]⟩, ⟨#[97, 204, 163, 204, 130]⟩, ⟨#[115, 115]⟩, ⟨#[195, 159]⟩, ⟨#[83, 83]⟩, ⟨#[207, 131]⟩, ⟨#[207, 130]⟩, ⟨#[206, 163]⟩, ⟨#[234, 176, 129]⟩, ⟨#[225, 132, 128, 225, 133, 161, 225, 134, 168]⟩, ⟨#[206, 172]⟩, ⟨#[206, 134]⟩, ⟨#[102, 105, 108, 101]⟩, ⟨#[70, 73, 76, 69]⟩, ⟨#[70, 105, 108, 101]⟩, ⟨#[120, 49]⟩, ⟨#[120, 50]⟩, ⟨#[120, 51]⟩, ⟨#[120, 52]⟩, ⟨#[120, 53]⟩, ⟨#[108, 111, 110, 103, 32, 110, 97, 109, 101]⟩]
def wrongList : List ByteArray := [⟨#[]⟩, ⟨#[46]⟩, ⟨#[46, 46]⟩, ⟨#[46, 46, 46]⟩, ⟨#[97, 47, 98]⟩, ⟨#[127]⟩, ⟨#[97, 98, 99, 100, 101, 102, 103, 104, 105, 106, 107, 108, 109, 110, 111, 112, 113, 114, 115, 116, 117, 118, 119, 120]⟩, ⟨#[97, 98, 99, 100, 101, 102, 103, 104, 105, 106, 107, 108, 109, 110, 111, 112, 113, 114, 115, 116, 117, 118, 119, 120, 121]⟩, ⟨#[255]⟩]
theorem nameList_size : ∀ u ∈ nameList, u.size ≤ 100 := by decide
theorem wrongList_size : ∀ u ∈ wrongList, u.size ≤ 100 := by decide

set_option maxHeartbeats 400000 in
theorem spickA_any (S : Src) (ok : S.ok) (L : List ByteArray) (m : Nat) (hm : L.length = m) (g : Nat) (T : TypeId) (p : Nat) (s : Nat × Int) (w : World) (c : At S p s w) (hL : 0 < L.length) (hl : L.length ≤ 1000) (hg : g ≠ p)
    (hc : w.heap[g]? = some (.cells (L.map Value.string).toArray T (0, 0))) :
    Calls Tryd.prog 44 #[.pointer (some ⟨p, 0, none⟩), .slice (some ⟨g, 0, none⟩) m m] w fun e w' => ∃ u s', u ∈ L ∧ e = .returned (.string u) ∧ At S p s' w' ∧ w.grownBy w' (some p) := by
  subst hm
  have hb := bX_bd S L.length s (by omega)
  obtain ⟨k, hk⟩ := Int.eq_ofNat_of_zero_le hb.1
  have HB : Hid (bX S L.length s = k) := hk
  have hkl : k < L.length := by omega
  clear hk hb
  go_enter Tryd.func44, Tryd.ntmps44
  go_wp2_with fail
  refine (below_any S ok L.length p s _ c).mono ?_
  rintro e w1 ⟨rfl, c1, b1⟩
  rw [HB.out]
  have hc1 : w1.heap[g]? = some (.cells (L.map Value.string).toArray T (0, 0)) := (b1.block g (lt_of_block hc) (fun e => hg (Option.some.inj e))).trans hc
  obtain ⟨z, hz, hcell⟩ : ∃ z, z ∈ L ∧ w1.cell? ⟨g, k, none⟩ = some (.string z) := ⟨L[k], List.getElem_mem _, by
    rw [cell_of_row w1 g k _ _ (0, 0) hc1]
    simp [hkl]⟩
  clear hc1 hc
  go_wp2
  go_ret
  exact ⟨z, _, hz, rfl, c1, b1⟩

set_option maxRecDepth 100000 in
set_option maxHeartbeats 1000000 in
theorem name_any (S : Src) (ok : S.ok) (p : Nat) (s : Nat × Int) (w : World) (c : At S p s w) :
    Calls Tryd.prog 34 #[.pointer (some ⟨p, 0, none⟩)] w fun e w' => ∃ t s', t.size ≤ 100 ∧ e = .returned (.string t) ∧ At S p s' w' ∧ w.grownBy w' (some p) := by
  have hs0 := c.size
  go_enter Tryd.func34, Tryd.ntmps34
  go_wp2_with fail
  refine (spickA_any S ok nameList 29 rfl w.heap.size 9 p s _ (c.below ((Below.refl _ _).alloc (by omega) _)) (by decide) (by decide) (by omega) (heap_new _ _)).mono ?_
  rintro e w1 ⟨u, s1, hu, rfl, c1, b1⟩
  have hus := nameList_size u hu
  have B1 : w.grownBy w1 (some p) := gb_trans (World.grownBy_alloc _ _ _) b1
  clear b1 hu
  have hs1 := c1.size
  go_wp2_with fail
  refine (once_any S ok 4 p s1 _ c1).mono ?_
  rintro e w2 ⟨rfl, c2, b2⟩
  have B2 := gb_trans B1 b2
  clear b2
  generalize bS S 4 s1 = s2 at c2
  generalize (bX S 4 s1 == 0) = q1
  have hs2 := c2.size
  cases q1
  · go_wp2_with fail
    refine (once_any S ok 25 p s2 _ c2).mono ?_
    rintro e w3 ⟨rfl, c3, b3⟩
    have B3 := gb_trans B2 b3
    clear b3
    generalize bS S 25 s2 = s3 at c3
    generalize (bX S 25 s2 == 0) = q2
    have hs3 := c3.size
    cases q2
    · go_wp2
      go_ret
      exact ⟨u, s3, hus, rfl, c3, B3⟩
    · go_wp2_with fail
      refine (spickA_any S ok wrongList 9 rfl w3.heap.size 9 p s3 _ (c3.below ((Below.refl _ _).alloc (by omega) _)) (by decide) (by decide) (by omega) (heap_new _ _)).mono ?_
      rintro e w4 ⟨u4, s4, hu4, rfl, c4, b4⟩
      have hus4 := wrongList_size u4 hu4
      go_wp2
      go_ret
      exact ⟨u4, s4, hus4, rfl, c4, gb_trans (gb_trans B3 (World.grownBy_alloc _ _ _)) b4⟩
  · go_wp2_with fail
    refine (slistN_any S ok 4 (by decide) p s2 _ c2).mono ?_
    rintro e w3 ⟨l, v, s3, hl, rfl, r3, c3, b3⟩
    have B3 := gb_trans B2 b3
    have hs3 := c3.size
    have hsz : (⟨(encN l).toArray⟩ : ByteArray).size ≤ 100 := by
      show (encN l).toArray.size ≤ 100
      have := encs_len l
      unfold encN
      split
      · simp; omega
      · simp
    have HE := sEncode v l w3 (by omega) r3.at
    generalize (⟨(encN l).toArray⟩ : ByteArray) = t at HE hsz
    go_wp2_with fail
    refine HE.mono ?_
    rintro e w4 ⟨rfl, b4⟩
    go_wp2
    go_ret
    exact ⟨t, s3, hsz, rfl, c3.below (b4.mono (by omega)), gb_belowB B3 b4 B3.size⟩

set_option maxRecDepth 100000 in
theorem sdrawAlike_any (S : Src) (ok : S.ok) (w : World) (hl : Lies S w) :
    Calls Tryd.prog 20 #[.slice S.a S.len S.cap] w fun e w' => ∃ a b, a.size ≤ 100 ∧ b.size ≤ 100 ∧ e = .returned (.tuple #[.string a, .string b]) ∧ Below w.heap.size w w' := by
  go_enter Tryd.func20, Tryd.ntmps20
  go_wp2_with fail
  refine (new_any S ok _ hl).mono ?_
  rintro e w1 ⟨rfl, c1, b1⟩
  go_wp2_with fail
  refine (name_any S ok _ _ _ c1).mono ?_
  rintro e w2 ⟨a, s2, ha, rfl, c2, g2⟩
  go_wp2_with fail
  refine (name_any S ok _ _ _ c2).mono ?_
  rintro e w3 ⟨b, s3, hb, rfl, c3, g3⟩
  go_wp2
  go_ret2
  exact ⟨a, b, ha, hb, rfl, b1.trans (below_gbi (gb_trans g2 g3) (fun k hk => by cases hk; exact Nat.le_refl _) b1.size)⟩
end

section
open Go.RowKit Go.Sort

theorem cell_one_txt (w : World) (u : Value) : ∀ j y, [u][j]? = some y → (w.alloc (.cells #[u] 9)).cell? ((⟨w.heap.size, 0, none⟩ : Addr).add j) = some y := by
  intro j y h
  rw [Addr.add_lit, Nat.zero_add, World.cell?_alloc_mark]
  simpa using h

/-- 'append(out, x)', out a row of texts of the call's own -/
theorem append_txt (w : World) {ops : Array Oper} {rest : List Oper} {o : Oper} {a : Act} {Q : Exit → Act → World → Prop} (hgd : o.guard = none) (s x : Operand)
    (ho : o.op = .call { callee := .builtin .append, args := #[s, x], argTypes := #[24, 24] }) (base : Nat)
    (v : Value) (l : List ByteArray) (X : ByteArray) (hl : l.length + 1 ≤ 1099511627776) (hown : TxtRow w base v l) (hs : a.eval s = v) (hx : a.eval x = .slice (some ⟨w.heap.size, 0, none⟩) 1 1)
    (hbase : base ≤ w.heap.size)
    (h : ∀ v' w', TxtRow w' base v' (l ++ [X]) → Below base w w' → wpList Tryd.prog ops Q rest (a.put o.dst v') w') :
    wpList Tryd.prog ops Q (o :: rest) a (w.alloc (.cells #[.string X] 9)) := by
  obtain ⟨i0, hi, hz0, hz1, hz2⟩ := info_parts Tryd.infoTxt
  refine wpList_append_own _ hgd s x 24 ho base 9 i0 (.string ⟨#[]⟩) 1 16 Tryd.underlying24 hi hz0 hz1 hz2 rfl (by decide) v l.length (strsV l) hs (World.ownsRow.alloc hown _) ⟨w.heap.size, 0, none⟩ 1 1 [.string X] hx rfl (cell_one_txt _ _) ?_ (by unfold maxLen; omega) (by omega) (by simp; omega) ?_
  · intro u hu; simp at hu; subst hu; rfl
  · intro v' w' hown' hgrow _
    refine h v' w' ?_ ?_
    · unfold TxtRow
      rw [strsV_append, List.length_append]
      exact hown'
    · refine ((Below.refl base w).alloc hbase _).grown hgrow (by simp; omega) ?_
      intro k hk
      rcases hown.2 with ⟨rfl, _⟩ | ⟨g, cap, cur, rfl, hg, _⟩
      · simp [Value.ownBlock] at hk
      · simp [Value.ownBlock] at hk; omega
/-- 'append(out, x...)', out a row of texts of the call's own, x any row of texts -/
theorem append_txts (w : World) {ops : Array Oper} {rest : List Oper} {o : Oper} {a : Act} {Q : Exit → Act → World → Prop} (hgd : o.guard = none) (s x : Operand)
    (ho : o.op = .call { callee := .builtin .append, args := #[s, x], argTypes := #[24, 24] }) (base : Nat)
    (v u : Value) (l m : List ByteArray) (hl : l.length + m.length ≤ 1099511627776) (hown : TxtRow w base v l) (hu : TxtsAt w u m) (hs : a.eval s = v) (hx : a.eval x = u)
    (hbase : base ≤ w.heap.size)
    (h : ∀ v' w', TxtRow w' base v' (l ++ m) → Below base w w' → wpList Tryd.prog ops Q rest (a.put o.dst v') w') :
    wpList Tryd.prog ops Q (o :: rest) a w := by
  obtain ⟨i0, hi, hz0, hz1, hz2⟩ := info_parts Tryd.infoTxt
  obtain ⟨ad, cap, rfl, hn, hc⟩ := hu
  cases ad with
  | none =>
    have hc0 := hn rfl
    have hm : m = [] := by
      cases m with
      | nil => rfl
      | cons e m => obtain ⟨b, off, h1, _⟩ := hc 0 (by simp); cases h1
    subst hm hc0
    refine wpList_append_own_none hgd s x 24 ho base 9 i0 1 Tryd.underlying24 hi v l.length (strsV l) hs hown hx ?_
    refine h v w (by rw [List.append_nil]; exact hown) (Below.refl _ _)
  | some ad =>
    have hcl : ∀ j y, (strsV m)[j]? = some y → w.cell? (ad.add j) = some y := by
      intro j y hy
      have hj : j < m.length := by
        have := (List.getElem?_eq_some_iff.1 hy).1
        rwa [strsV_length] at this
      obtain ⟨b1, off1, e, _, hcj⟩ := hc j hj
      cases e
      rw [Addr.add_lit, hcj, ← hy, strsV_get m j hj]
    refine wpList_append_own _ hgd s x 24 ho base 9 i0 _ 1 16 Tryd.underlying24 hi hz0 hz1 hz2 rfl (by decide) v l.length (strsV l) hs hown ad m.length cap (strsV m) hx (by rw [strsV_length]; omega) hcl (fun u hu => by
      simp only [strsV, List.mem_map] at hu
      obtain ⟨z, -, rfl⟩ := hu
      rfl) (by unfold maxLen; omega) (by omega) hbase ?_
    intro v' w' hown' hgrow _
    refine h v' w' ?_ ?_
    · unfold TxtRow
      rw [strsV_append, List.length_append]
      exact hown'
    · refine (Below.refl base w).grown hgrow hbase ?_
      intro k hk
      exact (World.ownsRow.lt hown k hk).1
theorem lit_txts (w : World) : TxtRow (w.alloc (.cells #[] 9)) w.heap.size (.slice (some ⟨w.heap.size, 0, none⟩) 0 0) [] :=
  World.ownsRow_lit (base := w.heap.size) (e := 9) (size := 1) w #[] 0 (Nat.le_refl _) (by unfold maxLen; omega) rfl
/-- the first n of a row of texts, as a slice of it -/
theorem TxtsAt.take {w : World} {a : Option Addr} {n cap : Nat} {l : List ByteArray} (h : TxtsAt w (.slice a n cap) l) (m : Nat) (hm : m ≤ n) : TxtsAt w (.slice a m cap) (l.take m) := by
  obtain ⟨a', cap', e, hn, hc⟩ := h
  cases e
  have hl : (l.take m).length = m := by rw [List.length_take]; omega
  refine ⟨a, cap, by rw [hl], hn, fun t ht => ?_⟩
  rw [hl] at ht
  obtain ⟨b, off, h1, h2, h3⟩ := hc t (by omega)
  refine ⟨b, off, h1, h2, ?_⟩
  rw [getElem!_pos _ t (by rw [hl]; exact ht), List.getElem_take, ← getElem!_pos l t (by omega)]
  exact h3
end

end Go.Proofs.YtlkemmdcjnaepaaDoor
