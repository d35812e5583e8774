/- Devices: results that are devices; laws.toDev; spec.NewDev, impl.NewDev. -/
import Derived.Test.YtpmdhoiodbjojaaRows
import Derived.Test.YtpmdhoiodbjojaaLDv
namespace Go.Proofs.Ytpmdhoiodbjojaa
open Go.RowKit

theorem unfrozen_blk {w : World} {g : Nat} {cs : Array Value} {t : TypeId} (h : w.heap[g]? = some (.cells cs t (0, 0))) (i : Nat) : w.frozen? ⟨g, i, none⟩ = false := by simp [World.frozen?, h]
theorem block_set {w : World} {g i : Nat} {cs : Array Value} {t : TypeId} {fr : Nat × Nat} (h : w.heap[g]? = some (.cells cs t fr)) (v : Value) : (w.setCell ⟨g, i, none⟩ v).heap[g]? = some (.cells (cs.setIfInBounds i v) t fr) := by
  rw [setCell_eq_setRow w g i cs t fr v h]
  exact setRow_heap w g _ _ t _ h
theorem put2d {w : World} {g : Nat} {T : TypeId} {a0 a1 : Value} (x0 x1 : Value) (h : w.heap[g]? = some (.cells #[a0, a1] T (0, 0))) :
    ((w.setCell ⟨g, 0, none⟩ x0).setCell ⟨g, 1, none⟩ x1).heap[g]? = some (.cells #[x0, x1] T (0, 0)) := by
  have h1 := block_set (i := 0) h x0
  exact block_set (i := 1) h1 x1
theorem results_dev {fn : Func} {p : Tmp} (h : fn.results = #[.cell p 27]) (tmps : Array Value) (w : World) (g : Nat) (cs : Array Value) (hc : cs.size = 2)
    (hp : tmps.getD p undef = .pointer (some ⟨g, 0, none⟩)) (hg : w.heap[g]? = some (.cells cs 27 (0, 0))) :
    (results fn tmps).run Try.prog w = .ok (.agg cs) w := by
  have hi : (Try.prog.info? 27).map (·.size) = some cs.size := by rw [hc]; kernel_rfl
  have hr := run_loadVar_row (P := Try.prog) w g 27 27 cs (0, 0) _ hg Try.underlying27 rfl hi
  have hp' : tmps[p]?.getD undef = .pointer (some ⟨g, 0, none⟩) := by simpa using hp
  simp [results, h, hp', asAddr, hr]
theorem results_devb {fn : Func} {p q : Tmp} (h : fn.results = #[.cell p 27, .tmp q]) (tmps : Array Value) (w : World) (g : Nat) (cs : Array Value) (f : Value) (hc : cs.size = 2)
    (hp : tmps.getD p undef = .pointer (some ⟨g, 0, none⟩)) (hq : tmps.getD q undef = f) (hg : w.heap[g]? = some (.cells cs 27 (0, 0))) :
    (results fn tmps).run Try.prog w = .ok (.tuple #[.agg cs, f]) w := by
  have hi : (Try.prog.info? 27).map (·.size) = some cs.size := by rw [hc]; kernel_rfl
  have hr := run_loadVar_row (P := Try.prog) w g 27 27 cs (0, 0) _ hg Try.underlying27 rfl hi
  have hp' : tmps[p]?.getD undef = .pointer (some ⟨g, 0, none⟩) := by simpa using hp
  have hq' : tmps[q]?.getD undef = f := by simpa using hq
  simp [results, h, hp', hq', asAddr, hr]
theorem own_low {w : World} {base size n : Nat} {e : TypeId} {v : Value} {xs : List Value} (h : w.ownsRow base e size v n xs) {g : Nat} (hg : g < base) (o : Nat) (u : Value) : (w.setCell ⟨g, o, none⟩ u).ownsRow base e size v n xs := ownsRow_setCell_below h hg u
theorem DevRow.low {w : World} {base : Nat} {a b : Value} {d : Dv} (h : DevRow w base a b d) {g : Nat} (hg : g < base) (o : Nat) (u : Value) : DevRow (w.setCell ⟨g, o, none⟩ u) base a b d := ⟨own_low h.t hg o u, own_low h.p hg o u, h.ap⟩

set_option maxRecDepth 100000 in
set_option maxHeartbeats 1000000 in
theorem toDev_any (v : Value) (d : Dv) (w : World) (hl : d.blocks.length ≤ 1048576) (hl2 : d.pend.length ≤ 1048576) (hv : DevAt w v d) :
    Calls Try.prog 16 #[v] w fun e w' => ∃ a b, e = .returned (.agg #[a, b]) ∧ DevRow w' w.heap.size a b d ∧ Below w.heap.size w w' := by
  obtain ⟨a, b, rfl, ha, hb⟩ := hv
  have B0 := below_lit w (.cells #[a, b] 39)
  have B1 := B0.alloc (by simp) (.cells #[.slice none 0 0, .slice none 0 0] 27)
  have B2 := B1.alloc (by simp; omega) (.cells #[.slice none 0 0, .slice none 0 0] 27)
  have S2 : (((w.alloc (.cells #[a, b] 39)).alloc (.cells #[.slice none 0 0, .slice none 0 0] 27)).alloc (.cells #[.slice none 0 0, .slice none 0 0] 27)).heap.size = w.heap.size + 3 := by simp
  have H0 : (((w.alloc (.cells #[a, b] 39)).alloc (.cells #[.slice none 0 0, .slice none 0 0] 27)).alloc (.cells #[.slice none 0 0, .slice none 0 0] 27)).heap[w.heap.size]? = some (.cells #[a, b] 39) := by
    rw [(MapKept.heap_alloc _ _).2 _ (by simp; omega), (MapKept.heap_alloc _ _).2 _ (by simp), (MapKept.heap_alloc _ _).1]
  have H1 : (((w.alloc (.cells #[a, b] 39)).alloc (.cells #[.slice none 0 0, .slice none 0 0] 27)).alloc (.cells #[.slice none 0 0, .slice none 0 0] 27)).heap[w.heap.size + 1]? = some (.cells #[.slice none 0 0, .slice none 0 0] 27) := by
    rw [(MapKept.heap_alloc _ _).2 _ (by simp)]
    have := (MapKept.heap_alloc (w.alloc (.cells #[a, b] 39)) (.cells #[.slice none 0 0, .slice none 0 0] 27)).1
    rwa [show (w.alloc (.cells #[a, b] 39)).heap.size = w.heap.size + 1 by simp] at this
  have H2 : (((w.alloc (.cells #[a, b] 39)).alloc (.cells #[.slice none 0 0, .slice none 0 0] 27)).alloc (.cells #[.slice none 0 0, .slice none 0 0] 27)).heap[w.heap.size + 1 + 1]? = some (.cells #[.slice none 0 0, .slice none 0 0] 27) := by
    have := (MapKept.heap_alloc ((w.alloc (.cells #[a, b] 39)).alloc (.cells #[.slice none 0 0, .slice none 0 0] 27)) (.cells #[.slice none 0 0, .slice none 0 0] 27)).1
    rwa [show ((w.alloc (.cells #[a, b] 39)).alloc (.cells #[.slice none 0 0, .slice none 0 0] 27)).heap.size = w.heap.size + 1 + 1 by simp] at this
  have T1 := toStringS_any a d.blocks _ hl (ha.below B2)
  rw [S2] at T1
  have T2 := fun w' (h : Below w.heap.size w w') => toWrS_any b d.pend w' hl2 (hb.below h)
  go_enter Try.func16, Try.ntmps16
  go_wp2_with fail
  refine T1.mono ?_
  rintro e w1 ⟨u1, rfl, r1, b1⟩
  obtain ⟨sa, sc, hu1, -, -⟩ := r1.at
  generalize d.blocks.length = n1 at hu1
  have g0 := (b1.block _ (by omega)).trans H0
  have g1 := (b1.block _ (by omega)).trans H1
  have g2 := (b1.block _ (by omega)).trans H2
  have BB := B2.trans (b1.mono (by omega))
  have hs1 := b1.size
  rw [S2] at hs1
  have c0 := cell_blk g2 0
  have c1 := cell_blk g2 1
  have cf := fun i => unfrozen_blk g2 i
  have a1 := cell_blk g0 1
  dsimp at c0 c1 a1
  have hne : w.heap.size ≠ w.heap.size + 1 + 1 := by omega
  subst hu1
  go_wp2_with fail
  have B4 : Below w.heap.size w (w1.setCell ⟨w.heap.size + 1 + 1, 0, none⟩ (.slice sa n1 sc)) := BB.setCell (by show w.heap.size ≤ w.heap.size + 1 + 1; omega) _
  refine (T2 _ B4).mono ?_
  rintro e w2 ⟨u2, rfl, r2, b2⟩
  obtain ⟨sb, sd, hu2, -, -⟩ := r2.at
  generalize d.pend.length = n2 at hu2
  have k1 := (b2.block (w.heap.size + 1) (by simp; omega)).trans ((Below.heap_setCell w1 ⟨w.heap.size + 1 + 1, 0, none⟩ (.slice sa n1 sc) (w.heap.size + 1) (by simp)).trans g1)
  have k2 := (b2.block (w.heap.size + 1 + 1) (by simp; omega)).trans (block_set (i := 0) g2 (.slice sa n1 sc))
  have k2 : w2.heap[w.heap.size + 1 + 1]? = some (.cells #[(.slice sa n1 sc), .slice none 0 0] 27 (0, 0)) := k2
  have t2 := own_below (own_low r1 (g := w.heap.size + 1 + 1) (by omega) 0 (.slice sa n1 sc)) b2
  have BX := B4.trans (b2.mono B4.size)
  have hsz : w2.heap.size ≥ w1.heap.size := by have := b2.size; simpa using this
  have d0 := cell_blk k2 0
  have d1 := cell_blk k2 1
  have df := fun i => unfrozen_blk k2 i
  have e0 := cell_blk k1 0
  have e1 := cell_blk k1 1
  have ef := fun i => unfrozen_blk k1 i
  dsimp at d0 d1 e0 e1
  have hbs : w.heap.size + 3 ≤ (w1.setCell ⟨w.heap.size + 1 + 1, 0, none⟩ (.slice sa n1 sc)).heap.size := by simp; omega
  have hap : ∀ q, (Value.slice sa n1 sc).ownBlock = some q → u2.ownBlock ≠ some q := fun q h1 h2 => by
    have x1 := (World.ownsRow.lt r1 q h1).2
    have x2 := (World.ownsRow.lt r2 q h2).1
    simp at x2
    omega
  clear c0 c1 cf a1
  subst hu2
  go_wp2
  have hgg := put2d (.slice sa n1 sc) (.slice sb n2 sd) ((Below.heap_setCell w2 ⟨w.heap.size + 1 + 1, 1, none⟩ (.slice sb n2 sd) (w.heap.size + 1) (by simp)).trans k1)
  refine bodyPost_ret (results_dev Try.results16 _ _ (w.heap.size + 1) _ rfl rfl hgg) rfl ⟨(.slice sa n1 sc), (.slice sb n2 sd), rfl, ?_, ?_⟩
  · have R : DevRow w2 (w.heap.size + 3) (.slice sa n1 sc) (.slice sb n2 sd) d := ⟨t2, r2.mono hbs, hap⟩
    exact (((R.low (by omega) _ _).low (by omega) _ _).low (by omega) _ _).mono (by omega)
  · exact ((BX.setCell (by show w.heap.size ≤ w.heap.size + 1 + 1; omega) _).setCell (by show w.heap.size ≤ w.heap.size + 1; omega) _).setCell (by show w.heap.size ≤ w.heap.size + 1; omega) _

end Go.Proofs.Ytpmdhoiodbjojaa
