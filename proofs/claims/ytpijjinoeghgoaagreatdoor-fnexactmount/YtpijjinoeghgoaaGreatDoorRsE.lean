/- Blocks, spec: what l7Parse says. -/
import Derived.Test.YtpijjinoeghgoaaGreatDoorRows
import Derived.Test.YtpijjinoeghgoaaGreatDoorQa
import Derived.Test.YtpijjinoeghgoaaGreatDoorQb
import Derived.Test.YtpijjinoeghgoaaGreatDoorQc
import Derived.Test.YtpijjinoeghgoaaGreatDoorMm
namespace Go.Proofs.YtpijjinoeghgoaaGreatDoor
open Go.RowKit Go.Sort

theorem vars_nn {l : List UInt8} {p : Int} (h : 0 ≤ (varsS l 1 p).2) : 0 ≤ p := by
  by_cases hp : p < 0
  · rw [vars_out (.inl hp)] at h; simp at h
  · omega
theorem tak_nn {l : List UInt8} {p : Int} (h : 0 ≤ (takS l p).2) : 0 ≤ p := by
  unfold takS at h
  split at h
  · simp at h
  · rename_i h2
    exact vars_nn (l := l) (by omega)
theorem vars_in {l : List UInt8} {p : Int} (h : 0 ≤ (varsS l 1 p).2) : 0 ≤ (varsS l 1 p).1[0]! ∧ (varsS l 1 p).1[0]! ≤ 562949953421311 := by
  by_cases hp : p < 0 ∨ (l.length : Int) < p
  · rw [vars_out hp] at h; simp at h
  · obtain ⟨q, rfl⟩ : ∃ q : Nat, p = (q : Int) := ⟨p.toNat, by omega⟩
    by_cases hk : rdK (l.drop q) = 0
    · rw [vars_no (by omega) hk] at h; simp at h
    · rw [vars_yes (by omega) hk]; exact rdN_in _
theorem entsS_none {n i : Nat} {l : List UInt8} {p0 p : Int} {acc : List En} (h : entsS l n p0 = (entsS l (n - i) p).map fun q => (acc ++ q.1, q.2)) (hi : i < n) (he : entS l p = none) : entsS l n p0 = none := by
  obtain ⟨m, hm⟩ : ∃ m, n - i = m + 1 := ⟨n - i - 1, by omega⟩
  rw [h, hm, entsS, he]; rfl
theorem entsS_some {n i : Nat} {l : List UInt8} {p0 p p' : Int} {acc : List En} {e : En} (h : entsS l n p0 = (entsS l (n - i) p).map fun q => (acc ++ q.1, q.2)) (hi : i < n) (he : entS l p = some (e, p')) : entsS l n p0 = (entsS l (n - (i + 1)) p').map fun q => ((acc ++ [e]) ++ q.1, q.2) := by
  obtain ⟨m, hm⟩ : ∃ m, n - i = m + 1 := ⟨n - i - 1, by omega⟩
  rw [h, hm, entsS, he, show n - (i + 1) = m by omega]
  simp only [Option.bind_some]
  cases entsS l m p' with
  | none => rfl
  | some q => simp

/-- on the way of l7Parse -/
structure PaSt (w : World) (q g3 : Nat) (nn : Int) (a b c : Int) (d : ByteArray) (u : Value) (acc : List En) (wr : World) : Prop where
  res : wr.heap[w.heap.size]? = some (.cells #[.int .i64 0, .int .i64 0, .int .i64 0, .string ⟨#[]⟩, .slice none 0 0] 59)
  box : wr.heap[q]? = some (.cells #[.int .i64 a, .int .i64 b, .int .i64 c, .string d, u] 59)
  row : EntRow wr (q + 1) u acc
  bel : Below w.heap.size w wr
  lt : w.heap.size < q
  nc : wr.cell? ⟨g3, 0, none⟩ = some (.int .i64 nn)
  glt : g3 < q
theorem PaSt.below {w wr w' : World} {q g3 : Nat} {nn a b c : Int} {d : ByteArray} {u : Value} {acc : List En} (h : PaSt w q g3 nn a b c d u acc wr) (hb : Below wr.heap.size wr w') : PaSt w q g3 nn a b c d u acc w' :=
  ⟨(hb.block _ (lt_of_block h.res)).trans h.res, (hb.block _ (lt_of_block h.box)).trans h.box, h.row.below hb, h.bel.trans (hb.mono h.bel.size), h.lt, (hb.cell (p := ⟨g3, 0, none⟩) (World.block_lt_of_cell? wr _ h.nc)).trans h.nc, h.glt⟩
theorem PaSt.app {w wr w9 : World} {q g3 : Nat} {nn a b c : Int} {d : ByteArray} {u v' : Value} {acc acc' : List En} (h : PaSt w q g3 nn a b c d u acc wr) (g : wr.grownBy w9 u.ownBlock) (hr : EntRow w9 (q + 1) v' acc') :
    (w9.cell? ⟨q, 4, none⟩ = some u ∧ w9.frozen? ⟨q, 4, none⟩ = false) ∧ PaSt w q g3 nn a b c d v' acc' (w9.setCell ⟨q, 4, none⟩ v') := by
  have hlt := h.lt
  have hglt := h.glt
  have hne : ∀ k, k ≤ q → k < wr.heap.size → w9.heap[k]? = wr.heap[k]? := fun k hk hs => g.block k hs (fun e => by have := (h.row.blk k e.symm).1; omega)
  have hq := lt_of_block h.box
  have hbox := (hne q (Nat.le_refl _) hq).trans h.box
  have hset : ∀ k, k ≠ q → (w9.setCell ⟨q, 4, none⟩ v').heap[k]? = w9.heap[k]? := fun k hk => Below.heap_setCell _ _ _ k hk
  have hb : Below w.heap.size w (w9.setCell ⟨q, 4, none⟩ v') := (h.bel.grown g h.bel.size (fun k hk => by have := (h.row.blk k hk).1; omega)).setCell (by show w.heap.size ≤ q; omega) _
  refine ⟨⟨Joins.cell_of_block hbox 4, Joins.unfrozen_of_block hbox 4⟩, ⟨(hset _ (by omega)).trans ((hne _ (by omega) (lt_of_block h.res)).trans h.res), Joins.block_setCell (i := 4) hbox v', ?_, hb, h.lt, ?_, h.glt⟩⟩
  · exact hr.kept (gbr_set w9 q 4 v') (by
      cases hu : v'.ownBlock with
      | none => exact .inl rfl
      | some k => right; have := (hr.blk k hu).1; simp; omega)
  · exact (World.cell?_of_block ((hset g3 (by omega)).trans (hne g3 (by omega) (by omega)))).trans h.nc

/-- what l7Parse says -/
def SaysQ (o : Option Ino) (w : World) (e : Ending) (w' : World) : Prop :=
  (∃ y s, o = some y ∧ e = .returned (.tuple #[valI y s, .bool true]) ∧ EntRow w' w.heap.size s y.ents ∧ Below w.heap.size w w') ∨
  (o = none ∧ ∃ y a n c, e = .returned (.tuple #[valI y (.slice a n c), .bool false]) ∧ Below w.heap.size w w')
/-- the one number of a row of one -/
theorem one_cell {w : World} {base : Nat} {u : Value} {z : Int} (h : IntRow w base u [z]) : ∃ g cap, u = .slice (some ⟨g, 0, none⟩) 1 cap ∧ w.cell? ⟨g, 0, none⟩ = some (.int .i64 z) ∧ base ≤ g ∧ g < w.heap.size := by
  obtain ⟨a, cc, e, hc⟩ := h.at
  obtain ⟨b, off, h1, h2, h3⟩ := hc 0 (by simp)
  rcases h.2 with ⟨_, h0⟩ | ⟨g, cap, cur, rfl, hg, hh, _⟩
  · simp at h0
  · refine ⟨g, cap, rfl, ?_, hg, lt_of_block hh⟩
    simp only [Value.slice.injEq] at e
    rw [← e.1] at h1
    cases h1
    simpa using h3
theorem three_cells {w : World} {base : Nat} {u : Value} {a b c : Int} (h : IntRow w base u [a, b, c]) : ∃ g cap, u = .slice (some ⟨g, 0, none⟩) 3 cap ∧ w.cell? ⟨g, 0, none⟩ = some (.int .i64 a) ∧ w.cell? ⟨g, 1, none⟩ = some (.int .i64 b) ∧ w.cell? ⟨g, 2, none⟩ = some (.int .i64 c) ∧ base ≤ g ∧ g < w.heap.size := by
  obtain ⟨x, cc, e, hc⟩ := h.at
  obtain ⟨b0, off, h1, h2, h3⟩ := hc 0 (by simp)
  obtain ⟨b1, off1, k1, -, k3⟩ := hc 1 (by simp)
  obtain ⟨b2, off2, m1, -, m3⟩ := hc 2 (by simp)
  rcases h.2 with ⟨_, h0⟩ | ⟨g, cap, cur, rfl, hg, hh, _⟩
  · simp at h0
  · simp only [Value.slice.injEq] at e
    rw [← e.1] at h1 k1 m1
    refine ⟨g, cap, rfl, ?_, ?_, ?_, hg, lt_of_block hh⟩
    · cases h1; simpa using h3
    · cases k1; simpa using k3
    · cases m1; simpa using m3
/-- an empty inode is laid down, and false -/
theorem par_zero {w wr : World} {a0 a1 a2 a3 a4 : Value} (hr : wr.heap[w.heap.size]? = some (.cells #[a0, a1, a2, a3, a4] 59 (0, 0))) (hb : Below w.heap.size w wr) :
    (put5W wr w.heap.size (.int .i64 0) (.int .i64 0) (.int .i64 0) (.string ⟨#[]⟩) (.slice none 0 0)).heap[w.heap.size]? = some (.cells #[.int .i64 0, .int .i64 0, .int .i64 0, .string ⟨#[]⟩, .slice none 0 0] 59 (0, 0)) ∧ Below w.heap.size w (put5W wr w.heap.size (.int .i64 0) (.int .i64 0) (.int .i64 0) (.string ⟨#[]⟩) (.slice none 0 0)) := by
  have hle5 : w.heap.size ≤ w.heap.size := Nat.le_refl _
  exact ⟨put5 _ _ _ _ _ hr, ((((hb.setCell hle5 _).setCell hle5 _).setCell hle5 _).setCell hle5 _).setCell hle5 _⟩
/-- the result box of l7Parse and the flag -/
theorem results_ib {fn : Func} {p u : Tmp} (h : fn.results = #[.cell p 59, .tmp u]) (tmps : Array Value) (w : World) (g : Nat) (cs : Array Value) (hc : cs.size = 5)
    (hp : tmps.getD p undef = .pointer (some ⟨g, 0, none⟩)) (hg : w.heap[g]? = some (.cells cs 59 (0, 0))) :
    (results fn tmps).run Tryz.prog w = .ok (.tuple #[.agg cs, tmps.getD u undef]) w := by
  have hi : (Tryz.prog.info? 59).map (·.size) = some cs.size := by rw [hc]; kernel_rfl
  have hr := run_loadVar_row (P := Tryz.prog) w g 59 59 cs (0, 0) _ hg Tryz.underlying59 rfl hi
  have hp' : tmps[p]?.getD undef = .pointer (some ⟨g, 0, none⟩) := by simpa using hp
  simp [results, h, hp', asAddr, hr]

end Go.Proofs.YtpijjinoeghgoaaGreatDoor
