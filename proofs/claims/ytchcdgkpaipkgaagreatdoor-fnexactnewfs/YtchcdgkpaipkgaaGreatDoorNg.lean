/- Volumes: laws.szInode, szInodeS, szVol. Volumes: laws.toInode, toInodeS, toVol. Volumes: laws.toInodeS, toVol. -/
import Derived.Test.YtchcdgkpaipkgaaGreatDoorRows
import Derived.Test.YtchcdgkpaipkgaaGreatDoorNa
import Derived.Test.YtchcdgkpaipkgaaGreatDoorMq
import Derived.Laws.ResultCell
import Derived.Lib.SmallJoins
import Derived.OwnWalk
namespace Go.Proofs.YtchcdgkpaipkgaaGreatDoor

section
open Go.RowKit Go.Sort

/-- what is left behind a row of entries -/
def SzE (l : List En) (r q : Int) : Prop := -1 ≤ q ∧ q ≤ r ∧ (0 ≤ q → (l.length : Int) + q ≤ r ∧ ∀ t, t < l.length → l[t]!.name.size ≤ 1048576)


/-- what is left behind an inode -/
def SzI (y : Ino) (r q : Int) : Prop := -1 ≤ q ∧ q ≤ r ∧ (0 ≤ q → (y.ents.length : Int) + q ≤ r ∧ y.data.size ≤ 1048576 ∧ ∀ t, t < y.ents.length → y.ents[t]!.name.size ≤ 1048576)
/-- an inode whose texts a machine can hold -/
structure InoHeld (y : Ino) : Prop where
  len : y.ents.length ≤ 9223372036854775807
  names : ∀ t, t < y.ents.length → y.ents[t]!.name.size ≤ 9223372036854775807
  data : y.data.size ≤ 9223372036854775807
end

section
open Go.RowKit Go.Sort

theorem results_ino {fn : Func} {p : Tmp} (h : fn.results = #[.cell p 50]) (tmps : Array Value) (w : World) (g : Nat) (cs : Array Value) (hc : cs.size = 5)
    (hp : tmps.getD p undef = .pointer (some ⟨g, 0, none⟩)) (hg : w.heap[g]? = some (.cells cs 50 (0, 0))) :
    (results fn tmps).run Tryz.prog w = .ok (.agg cs) w := by
  have hi : (Tryz.prog.info? 50).map (·.size) = some cs.size := by rw [hc]; kernel_rfl
  have hr := run_loadVar_row (P := Tryz.prog) w g 50 50 cs (0, 0) _ hg Tryz.underlying50 rfl hi
  have hp' : tmps[p]?.getD undef = .pointer (some ⟨g, 0, none⟩) := by simpa using hp
  simp [results, h, hp', asAddr, hr]
/-- the five cells of a block written anew -/
theorem put5 {w : World} {g : Nat} {T : TypeId} {a0 a1 a2 a3 a4 : Value} (x0 x1 x2 x3 x4 : Value) (h : w.heap[g]? = some (.cells #[a0, a1, a2, a3, a4] T (0, 0))) :
    (((((w.setCell ⟨g, 0, none⟩ x0).setCell ⟨g, 1, none⟩ x1).setCell ⟨g, 2, none⟩ x2).setCell ⟨g, 3, none⟩ x3).setCell ⟨g, 4, none⟩ x4).heap[g]? = some (.cells #[x0, x1, x2, x3, x4] T (0, 0)) := by
  have h1 := Joins.block_setCell (i := 0) h x0
  have h2 := Joins.block_setCell (i := 1) h1 x1
  have h3 := Joins.block_setCell (i := 2) h2 x2
  have h4 := Joins.block_setCell (i := 3) h3 x3
  exact Joins.block_setCell (i := 4) h4 x4
end

section
open Go.RowKit Go.Sort

theorem flatI_put5 : ∀ (l : List (Ino × Value)) (t : Nat) (x : Ino) (s : Value), t < l.length → (((((flatI l).set (t * 5) (.int .i64 x.id)).set (t * 5 + 1) (.int .i64 x.kind)).set (t * 5 + 2) (.int .i64 x.links)).set (t * 5 + 3) (.string x.data)).set (t * 5 + 4) s = flatI (l.set t (x, s))
  | [], t, _, _, h => by simp at h
  | e :: l, 0, x, s, _ => by simp [flatI_cons, encI]
  | e :: l, t + 1, x, s, h => by
    have ih := flatI_put5 l t x s (by simpa using h)
    rw [List.set_cons_succ, flatI_cons, flatI_cons, ← ih]
    simp only [encI, List.cons_append, List.nil_append]
    rw [show (t + 1) * 5 = t * 5 + 1 + 1 + 1 + 1 + 1 by omega]
    simp only [List.set_cons_succ]
theorem gbs_set (w : World) (g o : Nat) (u : Value) : w.grownBy (w.setCell ⟨g, o, none⟩ u) (some g) :=
  ⟨rfl, rfl, rfl, by simp [World.setCell], fun k _ hne => Below.heap_setCell w _ _ k (fun e => hne (by rw [e]))⟩
theorem gbs_trans {a b c : World} {r : Option Nat} (h : a.grownBy b r) (k : b.grownBy c r) : a.grownBy c r :=
  ⟨k.os.trans h.os, k.tape.trans h.tape, k.output.trans h.output, Nat.le_trans h.size k.size, fun i hi hne => (k.block i (Nat.lt_of_lt_of_le hi h.size) hne).trans (h.block i hi hne)⟩
/-- one of them written anew, its entries new -/
theorem InoRow.put5 {w w2 : World} {base g n cap b2 : Nat} {l : List (Ino × Value)} (h : InoRow w base (.slice (some ⟨g, 0, none⟩) n cap) l) (hn : n = l.length) {t : Nat} (ht : t < n) (b : Below w.heap.size w w2) (x : Ino) (u : Value) (he : EntRow w2 b2 u x.ents) (hb2 : w.heap.size ≤ b2) :
    InoRow (((((w2.setCell ⟨g, t * 5, none⟩ (.int .i64 x.id)).setCell ⟨g, t * 5 + 1, none⟩ (.int .i64 x.kind)).setCell ⟨g, t * 5 + 2, none⟩ (.int .i64 x.links)).setCell ⟨g, t * 5 + 3, none⟩ (.string x.data)).setCell ⟨g, t * 5 + 4, none⟩ u) base (.slice (some ⟨g, 0, none⟩) n cap) (l.set t (x, u)) := by
  have h0 : w2.ownsRow base 50 5 (.slice (some ⟨g, 0, none⟩) n cap) n (flatI l) := by have := own_below h.row b; rwa [← hn] at this
  have h1 := (h0.stored (t * 5) (.int .i64 x.id)).1
  have h2 := (h1.stored (t * 5 + 1) (.int .i64 x.kind)).1
  have h3 := (h2.stored (t * 5 + 2) (.int .i64 x.links)).1
  have h4 := (h3.stored (t * 5 + 3) (.string x.data)).1
  have h5 := (h4.stored (t * 5 + 4) u).1
  rw [flatI_put5 l t x u (by omega)] at h5
  have hg := gbs_trans (gbs_trans (gbs_trans (gbs_trans (gbs_set w2 g (t * 5) (.int .i64 x.id)) (gbs_set _ g (t * 5 + 1) (.int .i64 x.kind))) (gbs_set _ g (t * 5 + 2) (.int .i64 x.links))) (gbs_set _ g (t * 5 + 3) (.string x.data))) (gbs_set _ g (t * 5 + 4) u)
  have hgl : base ≤ g ∧ g < w.heap.size := by
    have hr := h.row
    rw [← hn] at hr
    rcases hr.2 with ⟨e, _⟩ | ⟨g', c', cur', e, hb', hh', _⟩
    · cases e
    · cases e; exact ⟨hb', lt_of_block hh'⟩
  have hge : ∀ j, j < l.length → EntRow w2 base l[j]!.2 l[j]!.1.ents := fun j hj => (h.ents j hj).below b
  refine ⟨by rw [List.length_set, ← hn]; exact h5, fun j hj => ?_, ?_⟩
  · rw [List.length_set] at hj
    rw [at_set _ _ _ _ hj]
    by_cases e : t = j
    · rw [if_pos e]
      refine (he.mono (by omega)).kept hg ?_
      cases hu : u.ownBlock with
      | none => exact .inl rfl
      | some q => right; have := (he.blk q hu).1; simp; omega
    · rw [if_neg e]
      exact (hge j hj).kept hg (.inr (ent_ino_ne (hge j hj) h0))
  · have hp := h.apart
    rw [List.pairwise_iff_getElem] at hp ⊢
    intro i k hi hk hik
    rw [List.length_set] at hi hk
    rw [List.getElem_set, List.getElem_set]
    by_cases e1 : t = i
    · rw [if_pos e1]
      by_cases e2 : t = k
      · omega
      · rw [if_neg e2]
        have := apart_new' (h.ents k hk) he hb2
        rwa [getElem!_pos l k hk] at this
    · rw [if_neg e1]
      by_cases e2 : t = k
      · rw [if_pos e2]
        have := apart_new (h.ents i hi) he hb2
        rwa [getElem!_pos l i hi] at this
      · rw [if_neg e2]; exact hp i k hi hk hik
theorem flatI_zero (n : Nat) : (madeCells #[.int .i64 0, .int .i64 0, .int .i64 0, .string ⟨#[]⟩, .slice none 0 0] (n * 5)).toList = flatI (List.replicate n (default, .slice none 0 0)) := by
  apply List.ext_getElem?
  intro j
  by_cases hj : j < n * 5
  · have h1 := flatI_at (List.replicate n (default, .slice none 0 0)) (j / 5) (by simp; omega) (j % 5) (by omega)
    have h2 : (List.replicate n ((default, .slice none 0 0) : Ino × Value))[j / 5]! = (default, .slice none 0 0) := by
      rw [getElem!_pos _ _ (by simp; omega)]; simp
    rw [h2, show j / 5 * 5 + j % 5 = j by omega] at h1
    rw [h1]
    simp only [madeCells, Array.toList_map, List.getElem?_map, Array.toList_range, List.getElem?_range hj, Option.map_some]
    have : j % 5 < 5 := by omega
    show some (#[Value.int .i64 0, .int .i64 0, .int .i64 0, .string ⟨#[]⟩, .slice none 0 0][j % 5]!) = _
    generalize j % 5 = s at *
    rcases s with _ | _ | _ | _ | _ | s
    · rfl
    · rfl
    · rfl
    · rfl
    · rfl
    · omega
  · rw [List.getElem?_eq_none (by rw [Array.length_toList, size_madeCells]; omega), List.getElem?_eq_none (by rw [flatI_len]; simp; omega)]
theorem Tryz.infoI : (Tryz.prog.info? 50).map (fun i => (i.zero, i.size, i.bytes)) = some (some (.agg #[.int .i64 0, .int .i64 0, .int .i64 0, .string ⟨#[]⟩, .slice none 0 0]), 5, 64) := by kernel_rfl
theorem zero_row {w : World} {base g n : Nat} (h : w.ownsRow base 50 5 (.slice (some ⟨g, 0, none⟩) n n) n (flatI (List.replicate n (default, .slice none 0 0)))) : InoRow w base (.slice (some ⟨g, 0, none⟩) n n) (List.replicate n (default, .slice none 0 0)) := by
  refine ⟨by simpa using h, fun t ht => ?_, ?_⟩
  · rw [getElem!_pos _ t ht]
    simp only [List.getElem_replicate]
    exact ⟨rfl, .inl ⟨rfl, rfl⟩⟩
  · rw [List.pairwise_replicate]; right; exact .inl rfl
theorem take_set {L : List (Ino × Value)} {l : List Ino} {k : Nat} (hl : L.length = l.length) (hk : k < l.length) (h : (L.map (·.1)).take k = l.take k) (u : Value) : ((L.set k (l[k]!, u)).map (·.1)).take (k + 1) = l.take (k + 1) := by
  rw [List.take_succ_eq_append_getElem hk, ← h, List.map_set, List.take_succ_eq_append_getElem (by simp; omega), List.take_set_of_le (Nat.le_refl _)]
  simp [getElem!_pos l k hk]


theorem results_vol {fn : Func} {p : Tmp} (h : fn.results = #[.cell p 24]) (tmps : Array Value) (w : World) (g : Nat) (cs : Array Value) (hc : cs.size = 2)
    (hp : tmps.getD p undef = .pointer (some ⟨g, 0, none⟩)) (hg : w.heap[g]? = some (.cells cs 24 (0, 0))) :
    (results fn tmps).run Tryz.prog w = .ok (.agg cs) w := by
  have hi : (Tryz.prog.info? 24).map (·.size) = some cs.size := by rw [hc]; kernel_rfl
  have hr := run_loadVar_row (P := Tryz.prog) w g 24 24 cs (0, 0) _ hg Tryz.underlying24 rfl hi
  have hp' : tmps[p]?.getD undef = .pointer (some ⟨g, 0, none⟩) := by simpa using hp
  simp [results, h, hp', asAddr, hr]
theorem put2 {w : World} {g : Nat} {T : TypeId} {a0 a1 : Value} (x0 x1 : Value) (h : w.heap[g]? = some (.cells #[a0, a1] T (0, 0))) :
    ((w.setCell ⟨g, 0, none⟩ x0).setCell ⟨g, 1, none⟩ x1).heap[g]? = some (.cells #[x0, x1] T (0, 0)) := by
  have h1 := Joins.block_setCell (i := 0) h x0
  exact Joins.block_setCell (i := 1) h1 x1
theorem InoRow.setLow {w : World} {base : Nat} {v : Value} {l : List (Ino × Value)} (h : InoRow w base v l) {g : Nat} (hg : g < base) (o : Nat) (u : Value) : InoRow (w.setCell ⟨g, o, none⟩ u) base v l :=
  ⟨ownsRow_setCell_below h.row hg u, fun t ht => ownsRow_setCell_below (h.ents t ht) hg u, h.apart⟩
end

end Go.Proofs.YtchcdgkpaipkgaaGreatDoor
