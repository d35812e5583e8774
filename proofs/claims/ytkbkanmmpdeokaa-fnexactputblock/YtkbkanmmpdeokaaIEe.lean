/- Extents, program's side: slices.Clone and slices.Insert at extents. -/
import Derived.Test.YtkbkanmmpdeokaaRows
import Derived.Test.YtkbkanmmpdeokaaExR
import Derived.Test.YtkbkanmmpdeokaaNum
import Derived.Test.YtkbkanmmpdeokaaCpK
import Derived.Test.YtkbkanmmpdeokaaIEd
import Derived.Shelf.RegionOpenPlain
import Derived.WalkKit
import Derived.Lib.Walk
import Derived.Lib.SliceRun
import Derived.Lib.AppendZerosOnto
import Derived.Lib.Overlaps
import Derived.Laws.Externs
import Derived.Laws.IdiomCopy
import Derived.Laws.NewBlocks
namespace Go.Proofs.Ytkbkanmmpdeokaa
open Go.RowKit Go.Sort

set_option maxRecDepth 100000 in
set_option maxHeartbeats 1000000 in
theorem cloneEx_any (v : Value) (d : List Ex) (w : World) (hv : ExsAt w v d) (hl : d.length ≤ 1048576) :
    Calls Try.prog 36 #[v] w fun e w' => ∃ u, e = .returned u ∧ ExRow w' w.heap.size u d ∧ Below w.heap.size w w' := by
  have hb := below_lit w (.cells #[] 58)
  have hrow := lit_Exs w
  have hv' := hv.below hb
  obtain ⟨a, ca, rfl, hn, hva⟩ := hv
  cases a with
  | none =>
    obtain rfl : ca = 0 := hn.1 rfl
    have hd : d = [] := by
      cases d with
      | nil => rfl
      | cons e d => obtain ⟨b, off, h, _⟩ := hva 0 (by simp); cases h
    subst hd
    clear hva
    have hq : ∀ w, (binOp .eql 24 (.slice none 0 0) (.slice none 0 0)).run Try.prog w = .ok (.bool true) w := fun w => Lib.run_eql_slice_nil w _ _ none 0 0 0 0 Try.underlying24
    go_enter Try.func36, Try.ntmps36
    go_wp2
    go_ret
    exact ⟨_, rfl, World.ownsRow_nil _ _ _ _, Below.refl _ _⟩
  | some a =>
    clear hva
    have hq : ∀ w, (binOp .eql 24 (.slice (some a) d.length ca) (.slice none 0 0)).run Try.prog w = .ok (.bool false) w := fun w => Lib.run_eql_slice_nil w _ _ (some a) _ _ 0 0 Try.underlying24
    go_enter Try.func36, Try.ntmps36
    go_wp2_with (at_builtin; refine append_Exs _ rfl (.tmp 5) (.tmp 6) rfl w.heap.size _ _ [] d (by simp; omega) hrow hv' rfl rfl hb.size ?_; intro v' w3 hown3 hbel3)
    go_ret
    exact ⟨_, rfl, by simpa using hown3, hb.trans hbel3⟩

set_option maxRecDepth 100000 in
set_option maxHeartbeats 1000000 in
/-- at the end -/
theorem insEnd (w : World) (base n c vb : Nat) (sa : Option Addr) (l : List Ex) (x : Ex) (hn : l.length = n) (hl : n ≤ 1048576)
    (hr : ExRow w base (.slice sa n c) l) (hx : ExsAt w (.slice (some ⟨vb, 0, none⟩) 1 1) [x]) (hb : base ≤ w.heap.size) :
    Calls Try.prog 57 #[.slice sa n c, .int .i64 n, .slice (some ⟨vb, 0, none⟩) 1 1] w fun e w' => ∃ u, e = .returned u ∧ ExRow w' base u (l ++ [x]) ∧ Below base w w' := by
  have hcc : n ≤ c ∧ c ≤ 9223372036854775807 := by
    rcases hr.2 with ⟨e, h0⟩ | ⟨g, c2, cur, e, hg, hh, h1, h2, -⟩
    · cases e; omega
    · cases e; exact ⟨by omega, h2⟩
  have hnn : ((n : Int) == (n : Int)) = true := by simp
  go_enter Try.func57, Try.ntmps57
  go_wp2_with (at_builtin; refine append_Exs _ rfl (.tmp 23) (.tmp 24) rfl base _ _ l [x] (by simp; omega) hr hx rfl rfl hb ?_; intro v' w3 hown3 hbel3)
  all_goals
    go_ret
    exact ⟨_, rfl, hown3, hbel3⟩

theorem ins_list (X Y Z E : List Value) (hE : E.length = 3) (hZ : 3 ≤ Z.length) (A1 : List Value) (hA : A1 = (X ++ Y ++ Z).take (X.length + 3) ++ Y ++ (X ++ Y ++ Z).drop (X.length + 3 + Y.length)) :
    A1.take X.length ++ E ++ A1.drop (X.length + E.length) = X ++ E ++ Y ++ Z.drop 3 ∧ A1.length = X.length + Y.length + Z.length := by
  have h1 : (X ++ Y ++ Z).take (X.length + 3) = X ++ (Y ++ Z).take 3 := by
    rw [List.append_assoc, List.take_append, List.take_of_length_le (by omega), show X.length + 3 - X.length = 3 by omega]
  have h2 : (X ++ Y ++ Z).drop (X.length + 3 + Y.length) = Z.drop 3 := by
    rw [List.drop_append, List.drop_of_length_le (by rw [List.length_append]; omega), List.nil_append]
    congr 1
    simp only [List.length_append]
    omega
  rw [h1, h2] at hA
  have h3 : ((Y ++ Z).take 3).length = 3 := by simp; omega
  subst hA
  constructor
  · have e1 : (X ++ (Y ++ Z).take 3 ++ Y ++ Z.drop 3).take X.length = X := by
      rw [List.append_assoc, List.append_assoc, List.take_left']
      rfl
    have e2 : (X ++ (Y ++ Z).take 3 ++ Y ++ Z.drop 3).drop (X.length + E.length) = Y ++ Z.drop 3 := by
      rw [List.append_assoc, List.drop_left']
      simp; omega
    rw [e1, e2]
    simp
  · simp; omega

theorem copyEx (W : World) (g o vb so dl dc sl sc m : Nat) (F cs : List Value) (ty : TypeId) (hh : W.heap[g]? = some (.cells F.toArray 58 (0, 0)))
    (hm : Nat.min sl dl = m) (hn : cs.length = m * 3) (hsrc : ∀ j v, cs[j]? = some v → W.cell? ⟨vb, so + j, none⟩ = some v) (hfit : o + cs.length ≤ F.length) (h1 : ∀ v ∈ cs, v.oneCell' = true) :
    (Builtin.copy_ #[24, 24] ty #[.slice (some ⟨g, o, none⟩) dl dc, .slice (some ⟨vb, so, none⟩) sl sc]).run Try.prog W =
      .ok (goInt m) (W.setRow g (F.take o ++ cs ++ F.drop (o + cs.length)).toArray) := by
  obtain ⟨i0, hi, hz0, hz1, hz2⟩ := info_parts Try.infoEx
  have := run_copy_rowK (P := Try.prog) W 24 24 ty 58 3 m g o dl dc ⟨vb, so, none⟩ sl sc F.toArray 58 cs Try.underlying24 (by rw [hi]; simp [hz1]) hh hm hn (fun j v hj => by rw [Addr.add_lit]; exact hsrc j v hj) (by simpa using hfit) h1
  simpa using this

set_option maxRecDepth 100000 in
set_option maxHeartbeats 4000000 in
/-- in the midst, where there is room -/
theorem insMid (w : World) (base g n c i vb : Nat) (l : List Ex) (x : Ex) (hn : l.length = n) (hl : n ≤ 1048576) (hi : i < n) (hroom : n + 1 ≤ c)
    (hr : ExRow w base (.slice (some ⟨g, 0, none⟩) n c) l) (hvb : vb ≠ g) (hvh : w.heap[vb]? = some (.cells #[.int .i64 x.p, .int .i64 x.b, .int .i64 x.n] 58 (0, 0))) :
    Calls Try.prog 57 #[.slice (some ⟨g, 0, none⟩) n c, .int .i64 i, .slice (some ⟨vb, 0, none⟩) 1 1] w fun e w' => ∃ u, e = .returned u ∧ ExRow w' base u (l.take i ++ x :: l.drop i) ∧ Below base w w' := by
  unfold ExRow at hr
  rw [hn] at hr
  obtain ⟨hxl, hrow⟩ := hr
  rcases hrow with ⟨e, h0⟩ | ⟨g2, c2, cur, e, hg, hh, hnc, hcp, hcs, htake⟩
  · omega
  cases e
  obtain ⟨X, hX⟩ : ∃ X, X = flatEx (l.take i) := ⟨_, rfl⟩
  obtain ⟨Y, hY⟩ : ∃ Y, Y = flatEx (l.drop i) := ⟨_, rfl⟩
  obtain ⟨Z, hZ⟩ : ∃ Z, Z = cur.toList.drop (n * 3) := ⟨_, rfl⟩
  have hXl : X.length = i * 3 := by rw [hX, flatEx_len, List.length_take]; congr 1; omega
  have hYl : Y.length = (n - i) * 3 := by rw [hY, flatEx_len, List.length_drop, hn]
  have hZl : Z.length = (c - n) * 3 := by rw [hZ, List.length_drop, Array.length_toList, hcs]; omega
  have hcur : cur = (X ++ Y ++ Z).toArray := by
    have : cur.toList = X ++ Y ++ Z := by
      rw [hX, hY, ← flatEx_append, List.take_append_drop, ← htake, hZ, List.take_append_drop]
    rw [← this]
  have h1Y : ∀ v ∈ Y, v.oneCell' = true := fun v hv => flatEx_cell _ v (by rw [← hY]; exact hv)
  have hFin : flatEx (l.take i ++ x :: l.drop i) = X ++ encEx x ++ Y := by rw [flatEx_append, flatEx_cons, ← hX, ← hY, List.append_assoc]
  have hlen : (l.take i ++ x :: l.drop i).length = n + 1 := by simp; omega
  rw [hcur] at hh
  clear hcur htake hX hY hZ hcs
  obtain ⟨A1, hA1⟩ : ∃ A1, A1 = (X ++ Y ++ Z).take (X.length + 3) ++ Y ++ (X ++ Y ++ Z).drop (X.length + 3 + Y.length) := ⟨_, rfl⟩
  obtain ⟨hA2, hA1l⟩ := ins_list X Y Z (encEx x) (encEx_len x) (by omega) A1 hA1
  have hRl : (X ++ encEx x ++ Y ++ Z.drop 3).length = c * 3 := by simp [encEx_len]; omega
  have hRt : (X ++ encEx x ++ Y ++ Z.drop 3).take ((n + 1) * 3) = flatEx (l.take i ++ x :: l.drop i) := by
    rw [hFin, List.take_left']
    simp [encEx_len]; omega
  generalize X ++ encEx x ++ Y ++ Z.drop 3 = R at hA2 hRl hRt
  have hc63 : c ≤ 9223372036854775807 := hcp
  have hz1 : ¬ ((1 : Int) = 0) := by omega
  have hz2 : ¬ ((i : Int) = (n : Int)) := by omega
  have hin : i ≤ n := by omega
  have hb2 : ¬ (c = i + 1) := by omega
  have hb3 : (i : Int) ≤ (n : Int) + 1 := by omega
  have hb4 : ¬ (c = i) := by omega
  have hw1 : IntKind.i64.wrap ((i : Int) + 1) = (i : Int) + 1 := by rw [IntKind.wrap_i64]; omega
  have hw2 : IntKind.i64.wrap ((n : Int) + 1) = (n : Int) + 1 := by rw [IntKind.wrap_i64]; omega
  have hb1 : (0 : Int) ≤ (i : Int) + 1 := by omega
  have htn : ((i : Int) + 1).toNat = i + 1 := by omega
  have htm : ((n : Int) + 1).toNat = n + 1 := by omega
  have mixed : Try.prog.follows .mixedOrders = true := by kernel_rfl
  have hW0 : w.drew.heap[g]? = some (.cells (X ++ Y ++ Z).toArray 58 (0, 0)) := hh
  have hcp1 : ∀ ty dl dc sl sc, Nat.min sl dl = n - i → (Builtin.copy_ #[24, 24] ty #[.slice (some ⟨g, (i + 1) * 3, none⟩) dl dc, .slice (some ⟨g, i * 3, none⟩) sl sc]).run Try.prog w.drew = .ok (goInt ((n - i : Nat) : Int)) (w.drew.setRow g A1.toArray) := fun ty dl dc sl sc hm => by
    have := copyEx w.drew g ((i + 1) * 3) g (i * 3) dl dc sl sc (n - i) (X ++ Y ++ Z) Y ty hW0 hm hYl (fun j v hj => by
      have hjl := (List.getElem?_eq_some_iff.1 hj).1
      simp only [World.cell?, hW0]
      rw [List.getElem?_toArray, List.append_assoc, List.getElem?_append_right (by omega), show i * 3 + j - X.length = j by omega, List.getElem?_append_left hjl, hj]; rfl) (by simp; omega) h1Y
    rw [this, hA1, hXl]
    simp only [Nat.add_mul, Nat.one_mul]
  have hW1 : ∀ W : World, W.heap = (w.drew.setRow g A1.toArray).heap → W.heap[g]? = some (.cells A1.toArray 58 (0, 0)) := fun W hW => by rw [hW]; exact setRow_heap _ g _ _ _ _ hW0
  have hcp2 : ∀ W : World, W.heap = (w.drew.setRow g A1.toArray).heap → ∀ ty dl dc, Nat.min 1 dl = 1 → (Builtin.copy_ #[24, 24] ty #[.slice (some ⟨g, i * 3, none⟩) dl dc, .slice (some ⟨vb, 0, none⟩) 1 1]).run Try.prog W = .ok (goInt 1) (W.setRow g R.toArray) := fun W hW ty dl dc hm => by
    have hvW : W.heap[vb]? = some (.cells #[.int .i64 x.p, .int .i64 x.b, .int .i64 x.n] 58 (0, 0)) := by
      rw [hW, setRow_other w.drew g vb _ hvb]; exact hvh
    have := copyEx W g (i * 3) vb 0 dl dc 1 1 1 A1 (encEx x) ty (hW1 W hW) hm (encEx_len x) (fun j v hj => by
      simp only [World.cell?, hvW]
      rw [Nat.zero_add, List.getElem?_toArray]
      exact hj) (by rw [encEx_len, hA1l]; omega) (encEx_one x)
    rw [this, ← hA2, hXl]
    rfl
  have hEnd : ∀ W : World, W.heap = (w.drew.setRow g A1.toArray).heap → W.os = w.os → W.tape = w.tape → W.output = w.output → ExRow (W.setRow g R.toArray) base (.slice (some ⟨g, 0, none⟩) (n + 1) c) (l.take i ++ x :: l.drop i) ∧ Below base w (W.setRow g R.toArray) := fun W hW e1 e2 e3 => by
    have hs : W.heap.size = w.heap.size := by rw [hW]; simp [World.setRow]
    refine ⟨⟨flatEx_len _, .inr ⟨g, c, R.toArray, by rw [hlen], hg, setRow_heap _ g _ _ _ _ (hW1 W hW), by omega, hcp, ?_, ?_⟩⟩, ⟨e1, e2, e3, by rw [← hs]; simp [World.setRow], fun k hk => ?_⟩⟩
    · simpa using hRl
    · rw [hlen, List.toList_toArray]; exact hRt
    · rw [setRow_other W g k _ (by omega), hW, setRow_other w.drew g k _ (by omega)]
      rfl
  have hov : ∀ lb cb, (callFunc 60 #[.slice (some ⟨vb, 0, none⟩) 1 1, .slice (some ⟨g, (i + 1) * 3, none⟩) lb cb]).run Try.prog w = .ok (.value (.bool false)) w := fun lb cb => by
    obtain ⟨i0, hi0, hz0, hzs, hzb⟩ := info_parts Try.infoEx
    rw [run_callFunc_extern Try.func60 (by kernel_rfl) (by kernel_rfl) (by kernel_rfl) (e := Extern.SlicesOverlaps.overlaps #[24, 24] #[4]) (by kernel_rfl),
      Lib.run_overlaps_apart w 24 4 58 Try.underlying24 3 (fun w => by simp [sizeOf, typeInfo, hi0, hzs]) ⟨vb, 0, none⟩ ⟨g, (i + 1) * 3, none⟩ 1 1 lb cb hvb 58 58 3 (X ++ Y ++ Z).length (by simp [World.shape?, hvh]) (by simp [World.shape?, hh]) (by rw [List.length_append, List.length_append]; omega) (by simp [World.frozen?, hvh]) (by simp [World.frozen?, hvh])]
    rfl
  clear hFin hlen hA1 hA2 hA1l hW1 hW0
  go_enter Try.func57, Try.ntmps57
  go_wp2_with (simp only [hov])
  have hq1 := hcp1 3 (n - i) (c - (i + 1)) (n + 1 - i) (c - i) (by simp only [Nat.min_def]; split <;> omega)
  go_region
  have hq2 := hcp2 (w.drew.setRow g A1.toArray) rfl 3 (n + 1 - i) (c - i) (by simp only [Nat.min_def]; split <;> omega)
  have hq3 := hcp2 (w.drew.setRow g A1.toArray).drew rfl 3 (n + 1 - i) (c - i) (by simp only [Nat.min_def]; split <;> omega)
  clear hq1 hcp1 hcp2 hov
  go_wp2
  go_ret
  exact ⟨_, rfl, hEnd _ rfl rfl rfl rfl⟩
end Go.Proofs.Ytkbkanmmpdeokaa
