/- Devices: spec.l8Copy. -/
import Derived.Test.YtpmdhoiodbjojaaRows
import Derived.Test.YtpmdhoiodbjojaaSDp
import Derived.Test.YtpmdhoiodbjojaaApZ
import Derived.Deep.RegionHeld3
namespace Go.Proofs.Ytpmdhoiodbjojaa
open Go.RowKit

theorem types_ne : (9 : Nat) ≠ 35 := by decide
theorem devRow_of {w : World} {base : Nat} {a b : Value} {d : Dv} (h : TxtRow w base a d.blocks) (k : WrRow w base b d.pend) : DevRow w base a b d := by
  refine ⟨h, k, fun q hq hq' => ?_⟩
  rcases h.2 with ⟨rfl, -⟩ | ⟨g, cap, cur, rfl, -, hh, -⟩
  · cases hq
  · rcases k.2 with ⟨rfl, -⟩ | ⟨g', cap', cur', rfl, -, hh', -⟩
    · cases hq'
    · cases hq
      cases hq'
      rw [hh] at hh'
      simp at hh'
theorem txt_src {w : World} {u : Value} {m : List ByteArray} (hu : TxtsAt w u m) : ∃ ad c, u = .slice ad m.length c ∧ (∀ a, ad = some a → ∀ j x, (strsV m)[j]? = some x → w.cell? (a.add j) = some x) ∧ (ad = none → m = [] ∧ c = 0) := by
  obtain ⟨ad, cap, rfl, hn, hc⟩ := hu
  refine ⟨ad, cap, rfl, fun a ha j x hx => ?_, fun h => ⟨?_, hn h⟩⟩
  · have hj : j < m.length := by
      have := (List.getElem?_eq_some_iff.1 hx).1
      rwa [strsV_length] at this
    obtain ⟨b1, o1, e, -, h1⟩ := hc j hj
    rw [ha] at e
    cases e
    rw [Addr.add_lit, h1, ← hx, strsV_get m j hj]
  · cases m with
    | nil => rfl
    | cons x m => obtain ⟨b, off, h1, -⟩ := hc 0 (by simp); rw [h] at h1; cases h1

theorem wr_src {w : World} {u : Value} {m : List Wr} (hu : WrsAt w u m) : ∃ ad c, u = .slice ad m.length c ∧ (∀ a, ad = some a → ∀ j x, (flatW m)[j]? = some x → w.cell? (a.add j) = some x) ∧ (ad = none → m = [] ∧ c = 0) := by
  obtain ⟨ad, cap, rfl, hn, hc⟩ := hu
  refine ⟨ad, cap, rfl, fun a ha j x hx => ?_, fun h => ⟨?_, hn h⟩⟩
  · have hj : j < m.length * 2 := by
      have := (List.getElem?_eq_some_iff.1 hx).1
      rwa [flatW_len] at this
    obtain ⟨b1, o1, e, -, h1⟩ := hc (j / 2) (by omega)
    rw [ha] at e
    cases e
    have hjj : j = j / 2 * 2 + j % 2 := by omega
    have h4 := flatW_at m (j / 2) (by omega) (j % 2) (by omega)
    rw [← hjj, hx] at h4
    rw [Addr.add_lit, hjj, ← Nat.add_assoc]
    have : j % 2 < 2 := by omega
    generalize j % 2 = s at *
    rcases s with _ | _ | s
    · exact h1.c0.trans h4.symm
    · exact h1.c1.trans h4.symm
    · omega
  · cases m with
    | nil => rfl
    | cons x m => obtain ⟨b, off, h1, -⟩ := hc 0 (by simp); rw [h] at h1; cases h1
theorem strsV_one (l : List ByteArray) : ∀ u ∈ strsV l, u.oneCell' = true := by
  intro u hu
  simp only [strsV, List.mem_map] at hu
  obtain ⟨z, -, rfl⟩ := hu
  rfl
theorem step_append_none {P : Program} {ops : Array Oper} {o : Oper} {a : Act} {w : World} {K : Act → World → Prop} {Q : Exit → Act → World → Prop} {Z : Prop}
    (hgd : o.guard = none) (s x : Operand) (S E : TypeId) (hop : o.op = Op.call { callee := Callee.builtin Builtin.append, args := #[s, x], argTypes := #[S, S] }) (size bytes : Nat) (z : Value) (hS : P.underlying S = some (.slice E)) (hI : (P.info? E).map (fun i => (i.zero, i.size, i.bytes)) = some (some z, size, bytes))
    (base g : Nat) (hg : w.heap[g]? = some (.cells #[] E)) (hbg : base ≤ g) (hs : a.eval s = .slice (some ⟨g, 0, none⟩) 0 0) (hx : a.eval x = .slice none 0 0)
    (hK : w.ownsRow base E size (.slice (some ⟨g, 0, none⟩) 0 0) 0 [] → K (a.put o.dst (.slice (some ⟨g, 0, none⟩) 0 0)) w) :
    if Region.wanted o (yielded ops a.tmps) = true then Oper.wp P o a w K Q else Z := by
  obtain ⟨i0, hi, hz0, hz1, hz2⟩ := info_parts hI
  have hw : Region.wanted o (yielded ops a.tmps) = true := by simp [Region.wanted, hgd]
  rw [if_pos hw]
  have hown : w.ownsRow base E size (.slice (some ⟨g, 0, none⟩) 0 0) 0 [] := ⟨by simp, .inr ⟨g, 0, _, rfl, hbg, hg, Nat.le_refl _, Nat.zero_le _, by simp, by simp⟩⟩
  have hrun := run_append_owned_none (P := P) (w := w) base S o.type E i0 size hS hi _ 0 [] hown
  unfold Oper.wp
  simp [execOp, hop, resolve, invoke, builtin, hs, hx, hrun, Result.andThen]
  exact hK hown
theorem heap_a1 (W : World) (o : Obj) : (W.alloc o).heap[W.heap.size]? = some o := (MapKept.heap_alloc _ _).1
theorem heap_a2 (W : World) (o o' : Obj) : ((W.alloc o).alloc o').heap[W.heap.size]? = some o := by rw [(MapKept.heap_alloc _ _).2 _ (by simp), (MapKept.heap_alloc _ _).1]
theorem heap_a2' (W : World) (o o' : Obj) : ((W.alloc o).alloc o').heap[W.heap.size + 1]? = some o' := by
  have := (MapKept.heap_alloc (W.alloc o) o').1
  rwa [show (W.alloc o).heap.size = W.heap.size + 1 by simp] at this
theorem below_al0 {W0 w' : World} (h : Below W0.heap.size W0 w') (o : Obj) : Below W0.heap.size W0 (w'.alloc o) := h.alloc h.size o

end Go.Proofs.Ytpmdhoiodbjojaa
