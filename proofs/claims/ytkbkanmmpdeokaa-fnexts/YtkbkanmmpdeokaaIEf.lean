/- Extents, program's side: slices.Insert at extents where there is no room; the whole of it. -/
import Derived.Test.YtkbkanmmpdeokaaRows
import Derived.Test.YtkbkanmmpdeokaaIEe
namespace Go.Proofs.Ytkbkanmmpdeokaa
open Go.RowKit Go.Sort

theorem ins_list2 (X Y T E : List Value) (hE : E.length = 3) (hT : 3 + Y.length ≤ T.length) (A1 : List Value) (hA : A1 = (X ++ T).take X.length ++ E ++ (X ++ T).drop (X.length + E.length)) :
    A1.take (X.length + 3) ++ Y ++ A1.drop (X.length + 3 + Y.length) = X ++ E ++ Y ++ T.drop (3 + Y.length) ∧ A1.length = X.length + T.length := by
  have h1 : (X ++ T).take X.length = X := by rw [List.take_left']; rfl
  have h2 : (X ++ T).drop (X.length + E.length) = T.drop 3 := by
    rw [List.drop_append, List.drop_of_length_le (by omega), List.nil_append, hE]
    congr 1
    omega
  rw [h1, h2] at hA
  subst hA
  constructor
  · have e1 : (X ++ E ++ T.drop 3).take (X.length + 3) = X ++ E := by
      rw [List.take_left']; simp; omega
    have e2 : (X ++ E ++ T.drop 3).drop (X.length + 3 + Y.length) = T.drop (3 + Y.length) := by
      rw [List.drop_append, List.drop_of_length_le (by simp; omega), List.nil_append, List.drop_drop]
      congr 1
      simp; omega
    rw [e1, e2]
  · simp; omega

set_option maxRecDepth 100000 in
set_option maxHeartbeats 4000000 in
/-- in the midst, where there is no room -/
theorem insGrow (w : World) (base g n i vb : Nat) (l : List Ex) (x : Ex) (hn : l.length = n) (hl : n ≤ 1048576) (hi : i < n)
    (hr : ExRow w base (.slice (some ⟨g, 0, none⟩) n n) l) (hvh : w.heap[vb]? = some (.cells #[.int .i64 x.p, .int .i64 x.b, .int .i64 x.n] 58 (0, 0))) :
    Calls Try.prog 57 #[.slice (some ⟨g, 0, none⟩) n n, .int .i64 i, .slice (some ⟨vb, 0, none⟩) 1 1] w fun e w' => ∃ u, e = .returned u ∧ ExRow w' base u (l.take i ++ x :: l.drop i) ∧ Below base w w' := by
  unfold ExRow at hr
  rw [hn] at hr
  obtain ⟨hxl, hrow⟩ := hr
  rcases hrow with ⟨e, h0⟩ | ⟨g2, c2, cur, e, hg, hh, hnc, hcp, hcs, htake⟩
  · omega
  cases e
  obtain ⟨X, hX⟩ : ∃ X, X = flatEx (l.take i) := ⟨_, rfl⟩
  obtain ⟨Y, hY⟩ : ∃ Y, Y = flatEx (l.drop i) := ⟨_, rfl⟩
  have hXl : X.length = i * 3 := by rw [hX, flatEx_len, List.length_take]; congr 1; omega
  have hYl : Y.length = (n - i) * 3 := by rw [hY, flatEx_len, List.length_drop, hn]
  have hcur : cur = (X ++ Y).toArray := by
    have : cur.toList = X ++ Y := by
      rw [hX, hY, ← flatEx_append, List.take_append_drop, ← htake, List.take_of_length_le (by rw [Array.length_toList, hcs]; omega)]
    rw [← this]
  have h1X : ∀ v ∈ X, v.oneCell' = true := fun v hv => flatEx_cell _ v (by rw [← hX]; exact hv)
  have h1Y : ∀ v ∈ Y, v.oneCell' = true := fun v hv => flatEx_cell _ v (by rw [← hY]; exact hv)
  have hFin : flatEx (l.take i ++ x :: l.drop i) = X ++ encEx x ++ Y := by rw [flatEx_append, flatEx_cons, ← hX, ← hY, List.append_assoc]
  have hlen : (l.take i ++ x :: l.drop i).length = n + 1 := by simp; omega
  rw [hcur] at hh
  clear hcur htake hX hY hcs
  have hgw : g < w.heap.size := lt_of_block hh
  have hvw : vb < w.heap.size := lt_of_block hvh
  obtain ⟨i0, hi0, hz0, hzs, hzb⟩ := info_parts Try.infoEx
  have hold : (Builtin.firstCells i0.size i (.slice (some ⟨g, 0, none⟩) i n)).run Try.prog w.drew = .ok X.toArray w.drew := by
    rw [hzs]
    exact run_firstCells_some w.drew 3 i ⟨g, 0, none⟩ i n X hXl (fun j v hj => by
      have hjl := (List.getElem?_eq_some_iff.1 hj).1
      rw [Addr.add_lit, Nat.zero_add]
      have hh' : w.drew.heap[g]? = some (.cells (X ++ Y).toArray 58 (0, 0)) := hh
      simp only [World.cell?, hh']
      rw [List.getElem?_toArray, List.getElem?_append_left hjl, hj]
      rfl)
  have hkk : (n : Int) + 1 - (i : Int) = ((n + 1 - i : Nat) : Int) := by omega
  have hrz := Lib.run_append_grow_zeros w 24 3 24 58 i0 _ .i64 .i64 Try.underlying24 Try.underlying3 hi0 hz0 (some ⟨g, 0, none⟩) i n X hold (n + 1 - i) (by omega) (by omega) (by omega) (by omega) (by rw [hzb]; omega) (by rw [hzb, show i + (n + 1 - i) = n + 1 by omega]; exact growslice_fits (by omega) (by omega))
  rw [show i + (n + 1 - i) = n + 1 by omega] at hrz
  have hGn : n + 1 ≤ grownCap w (n + 1) n 58 := grownCap_ge w _ _ _
  have hGm : grownCap w (n + 1) n 58 ≤ maxLen := grownCap_le_maxLen w (n + 1) n 58 (by unfold maxLen; omega)
  generalize grownCap w (n + 1) n 58 = G at hrz hGn hGm
  obtain ⟨T, hT, hTl⟩ : ∃ T : List Value, X.toArray ++ Builtin.zeroCells (Value.agg #[Value.int IntKind.i64 0, Value.int IntKind.i64 0, Value.int IntKind.i64 0]).cells (n + 1 - i) ++ Builtin.zeroCells (Value.agg #[Value.int IntKind.i64 0, Value.int IntKind.i64 0, Value.int IntKind.i64 0]).cells (G - (n + 1)) = (X ++ T).toArray ∧ T.length = (G - i) * 3 := by
    refine ⟨(Builtin.zeroCells (Value.agg #[Value.int IntKind.i64 0, Value.int IntKind.i64 0, Value.int IntKind.i64 0]).cells (n + 1 - i) ++ Builtin.zeroCells (Value.agg #[Value.int IntKind.i64 0, Value.int IntKind.i64 0, Value.int IntKind.i64 0]).cells (G - (n + 1))).toList, ?_, ?_⟩
    · simp [Array.append_assoc]
    · simp [Builtin.zeroCells, Value.cells]; omega
  rw [hT, ← hkk] at hrz
  obtain ⟨N, hN⟩ : ∃ N, N = w.heap.size := ⟨_, rfl⟩
  rw [← hN] at hrz
  obtain ⟨W1, hW1⟩ : ∃ W1, W1 = w.drew.alloc (.cells (X ++ T).toArray 58) := ⟨_, rfl⟩
  rw [← hW1] at hrz
  have hN1 : W1.heap[N]? = some (.cells (X ++ T).toArray 58 (0, 0)) := by rw [hW1, hN]; exact Array.getElem?_push_size
  have hO1 : ∀ k, k < w.heap.size → W1.heap[k]? = w.heap[k]? := fun k hk => by rw [hW1]; exact Below.heap_alloc w.drew _ k hk
  have hs1 : W1.heap.size = w.heap.size + 1 := by rw [hW1]; simp
  have hf1 : W1.os = w.os ∧ W1.tape = w.tape ∧ W1.output = w.output := by rw [hW1]; exact ⟨rfl, rfl, rfl⟩
  clear hW1 hold hT hi0 hz0 hzs hzb i0
  obtain ⟨A1, hA1⟩ : ∃ A1, A1 = (X ++ T).take X.length ++ encEx x ++ (X ++ T).drop (X.length + (encEx x).length) := ⟨_, rfl⟩
  obtain ⟨hA2, hA1l⟩ := ins_list2 X Y T (encEx x) (encEx_len x) (by omega) A1 hA1
  have hRl : (X ++ encEx x ++ Y ++ T.drop (3 + Y.length)).length = G * 3 := by simp [encEx_len]; omega
  have hRt : (X ++ encEx x ++ Y ++ T.drop (3 + Y.length)).take ((n + 1) * 3) = flatEx (l.take i ++ x :: l.drop i) := by
    rw [hFin, List.take_left']
    simp [encEx_len]; omega
  generalize X ++ encEx x ++ Y ++ T.drop (3 + Y.length) = R at hA2 hRl hRt
  have hcp1 : ∀ W : World, W.heap = W1.heap → ∀ ty dl dc, Nat.min 1 dl = 1 → (Builtin.copy_ #[24, 24] ty #[.slice (some ⟨N, i * 3, none⟩) dl dc, .slice (some ⟨vb, 0, none⟩) 1 1]).run Try.prog W = .ok (goInt 1) (W.setRow N A1.toArray) := fun W hW ty dl dc hm => by
    have hvW : W.heap[vb]? = some (.cells #[.int .i64 x.p, .int .i64 x.b, .int .i64 x.n] 58 (0, 0)) := by
      rw [hW, hO1 vb hvw]; exact hvh
    have := copyEx W N (i * 3) vb 0 dl dc 1 1 1 (X ++ T) (encEx x) ty (by rw [hW]; exact hN1) hm (encEx_len x) (fun j v hj => by
      simp only [World.cell?, hvW]
      rw [Nat.zero_add, List.getElem?_toArray]
      exact hj) (by rw [encEx_len, List.length_append]; omega) (encEx_one x)
    rw [this, hA1, hXl]
    rfl
  have hcp2 : ∀ W : World, W.heap = (W1.setRow N A1.toArray).heap → ∀ ty dl dc sl sc, Nat.min sl dl = n - i → (Builtin.copy_ #[24, 24] ty #[.slice (some ⟨N, (i + 1) * 3, none⟩) dl dc, .slice (some ⟨g, i * 3, none⟩) sl sc]).run Try.prog W = .ok (goInt ((n - i : Nat) : Int)) (W.setRow N R.toArray) := fun W hW ty dl dc sl sc hm => by
    have hgW : W.heap[g]? = some (.cells (X ++ Y).toArray 58 (0, 0)) := by
      rw [hW, setRow_other W1 N g _ (by omega), hO1 g hgw]; exact hh
    have := copyEx W N ((i + 1) * 3) g (i * 3) dl dc sl sc (n - i) A1 Y ty (by rw [hW]; exact setRow_heap _ N _ _ _ _ hN1) hm hYl (fun j v hj => by
      simp only [World.cell?, hgW]
      rw [List.getElem?_toArray, List.getElem?_append_right (by omega), show i * 3 + j - X.length = j by omega, hj]
      rfl) (by rw [hA1l]; omega) h1Y
    rw [this, ← hA2, hXl]
    simp only [Nat.add_mul, Nat.one_mul]
  have hEnd : ∀ W : World, W.heap = (W1.setRow N A1.toArray).heap → W.os = w.os → W.tape = w.tape → W.output = w.output → ExRow (W.setRow N R.toArray) base (.slice (some ⟨N, 0, none⟩) (n + 1) G) (l.take i ++ x :: l.drop i) ∧ Below base w (W.setRow N R.toArray) := fun W hW e1 e2 e3 => by
    have hs : W.heap.size = w.heap.size + 1 := by rw [hW]; simp [World.setRow, hs1]
    have hWN : W.heap[N]? = some (.cells A1.toArray 58 (0, 0)) := by rw [hW]; exact setRow_heap _ N _ _ _ _ hN1
    refine ⟨⟨flatEx_len _, .inr ⟨N, G, R.toArray, by rw [hlen], by omega, setRow_heap _ N _ _ _ _ hWN, by omega, hGm, ?_, ?_⟩⟩, ⟨e1, e2, e3, by show _ ≤ (W.setRow N R.toArray).heap.size; simp [World.setRow, hs], fun k hk => ?_⟩⟩
    · simpa using hRl
    · rw [hlen, List.toList_toArray]; exact hRt
    · rw [setRow_other W N k _ (by omega), hW, setRow_other W1 N k _ (by omega), hO1 k (by omega)]
  have hz1 : ¬ ((1 : Int) = 0) := by omega
  have hz2 : ¬ ((i : Int) = (n : Int)) := by omega
  have hz3 : (n : Int) < (n : Int) + 1 := by omega
  have hin : i ≤ n := by omega
  have hGi : ¬ (G = i) := by omega
  have hGim : ¬ (G = i + 1) := by omega
  have hci : ¬ (n = i) := by omega
  have hG63 : G ≤ 9223372036854775807 := hGm
  have hb3 : (i : Int) ≤ (n : Int) + 1 := by omega
  have hb1 : (0 : Int) ≤ (i : Int) + 1 := by omega
  have htn : ((i : Int) + 1).toNat = i + 1 := by omega
  have hw1 : IntKind.i64.wrap ((i : Int) + 1) = (i : Int) + 1 := by rw [IntKind.wrap_i64]; omega
  have hw2 : IntKind.i64.wrap ((n : Int) + 1) = (n : Int) + 1 := by rw [IntKind.wrap_i64]; omega
  have hw3 : IntKind.i64.wrap ((n : Int) + 1 - (i : Int)) = (n : Int) + 1 - (i : Int) := by rw [IntKind.wrap_i64]; omega
  have mixed : Try.prog.follows .mixedOrders = true := by kernel_rfl
  obtain ⟨f1, f2, f3⟩ := hf1
  clear hFin hlen hA1 hA2 hA1l hN1 hO1 hs1 hh hkk hN
  have hq1 := hcp1 W1 rfl 3 (n + 1 - i) (G - i) (by simp only [Nat.min_def]; split <;> omega)
  have hq2 := hcp1 W1.drew rfl 3 (n + 1 - i) (G - i) (by simp only [Nat.min_def]; split <;> omega)
  go_enter Try.func57, Try.ntmps57
  go_wp2_with (at_builtin; refine Lib.wpList_append_run _ rfl _ _ _ _ rfl _ _ rfl rfl _ _ hrz ?_)
  have hq3 := hcp2 (W1.setRow N A1.toArray).drew rfl 3 (n - i) (G - (i + 1)) (n - i) (n - i) (by simp only [Nat.min_def]; split <;> omega)
  have hq4 := hcp2 (W1.drew.setRow N A1.toArray).drew rfl 3 (n - i) (G - (i + 1)) (n - i) (n - i) (by simp only [Nat.min_def]; split <;> omega)
  have hq5 := hcp2 (W1.setRow N A1.toArray) rfl 3 (n - i) (G - (i + 1)) (n - i) (n - i) (by simp only [Nat.min_def]; split <;> omega)
  go_region
  clear hq1 hq2 hq3 hq4 hq5 hcp1 hcp2
  go_wp2
  go_ret
  exact ⟨_, rfl, hEnd _ rfl f1 f2 f3⟩
end Go.Proofs.Ytkbkanmmpdeokaa
