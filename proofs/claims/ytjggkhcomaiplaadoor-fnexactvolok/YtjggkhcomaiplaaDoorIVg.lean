/- Volumes, impl: below, VolOk. -/
import Derived.Test.YtjggkhcomaiplaaDoorRows
import Derived.Test.YtjggkhcomaiplaaDoorIVf
namespace Go.Proofs.YtjggkhcomaiplaaDoor
open Go.RowKit Go.Maps Go.Sort

theorem gat_all (h base p m : Nat) (x : Vo) (ps : List (Nat × Value)) (hx : TreeFit x) (hall : ∀ y ∈ x.ins, ∀ e ∈ y.ents, ∃ z ∈ x.ins, z.id = e.id) (hE : ∀ t, t < ps.length → ∀ q, ps[t]!.2.ownBlock = some q → q < h) (n : Nat) : GatC h base p m x ps n := by
  induction n using Nat.strongRecOn with
  | ind n ih => exact gat_step h base p m x ps hx hall hE n ih
theorem gpost_reach {x : Vo} (hr : x.ins.Pairwise fun a b => a.id < b.id) {S' : Int → Bool} {a : Nat} (ha : a < x.ins.length) (hp : GPost x (fun _ => false) S' a x.ins[a]!.ents.length) (i : Int) : S' i = true ↔ Reach x x.ins[a]!.id i := by
  constructor
  · intro h
    rcases hp.sound i h with h1 | h1
    · cases h1
    · exact h1
  · intro h
    induction h with
    | one h =>
      obtain ⟨e, he, h1⟩ := (edge_at hr (place_mem ha)).1 h
      obtain ⟨k, hk, rfl⟩ := List.getElem_of_mem he
      have := hp.ents k hk
      rw [getElem!_pos _ k hk, h1] at this; exact this
    | more _ h ih =>
      obtain ⟨y, hy, h1, e, he, h2⟩ := h
      rw [← h2]
      exact hp.closed _ ih rfl y hy h1 e he

set_option maxRecDepth 100000 in
set_option maxHeartbeats 1000000 in
theorem below_any (base p m : Nat) (x : Vo) (ps : List (Nat × Value)) (a : Nat) (w : World) (hx : TreeFit x) (hall : ∀ y ∈ x.ins, ∀ e ∈ y.ents, ∃ z ∈ x.ins, z.id = e.id) (ha : a < x.ins.length) (hT : TreeAt w base p m x ps) :
    Calls Tryd.prog 18 #[.pointer (some ⟨p, 0, none⟩), .pointer (some ⟨ps[a]!.1, 0, none⟩)] w fun e w' => ∃ fm S, e = .returned (.map (some fm)) ∧ MapP w' fm (stF x.ins ps S) (cntS x.ins S) ∧ (∀ i, S i = true ↔ Reach x x.ins[a]!.id i) ∧ Below w.heap.size w w' := by
  have hmf : ∀ (fn : Fn) (first cap : Array Value) (w : World), (Instr.makeFunc fn first cap).run Tryd.prog w = .ok (.func fn first cap) w := fun _ _ _ _ => rfl
  have hMM := fun W => run_makeMap (P := Tryd.prog) 46 W
  have hlen := hT.len
  have hE : ∀ t, t < ps.length → ∀ q, ps[t]!.2.ownBlock = some q → q < w.heap.size := fun t ht q hq => ((hT.ents t ht).blk q hq).2
  have hC := gat_all w.heap.size base p m x ps hx hall hE x.ins.length (fun _ => false)
  have s1 : (w.alloc (.cells #[.pointer (some ⟨p, 0, none⟩)] 43)).heap.size = w.heap.size + 1 := by simp
  have s2 : ((w.alloc (.cells #[.pointer (some ⟨p, 0, none⟩)] 43)).alloc (.map #[] 0)).heap.size = w.heap.size + 2 := by simp
  have s3 : (((w.alloc (.cells #[.pointer (some ⟨p, 0, none⟩)] 43)).alloc (.map #[] 0)).alloc (.cells #[.map (some (w.heap.size + 1))] 46)).heap.size = w.heap.size + 3 := by simp
  obtain ⟨fv, hfv⟩ : ∃ fv, Hid (fv = Value.func (.func 28) #[] #[.pointer (some ⟨w.heap.size + 2, 0, none⟩), .pointer (some ⟨w.heap.size, 0, none⟩), .pointer (some ⟨w.heap.size + 3, 0, none⟩)]) := ⟨_, rfl⟩
  have hst : GatSt w.heap.size base p m x ps (fun _ => false) ((((w.alloc (.cells #[.pointer (some ⟨p, 0, none⟩)] 43)).alloc (.map #[] 0)).alloc (.cells #[.map (some (w.heap.size + 1))] 46)).alloc (.cells #[Value.func (.func 28) #[] #[.pointer (some ⟨w.heap.size + 2, 0, none⟩), .pointer (some ⟨w.heap.size, 0, none⟩), .pointer (some ⟨w.heap.size + 3, 0, none⟩)]] 63)) := by
    have b4 := below_lit (((w.alloc (.cells #[.pointer (some ⟨p, 0, none⟩)] 43)).alloc (.map #[] 0)).alloc (.cells #[.map (some (w.heap.size + 1))] 46)) (.cells #[Value.func (.func 28) #[] #[.pointer (some ⟨w.heap.size + 2, 0, none⟩), .pointer (some ⟨w.heap.size, 0, none⟩), .pointer (some ⟨w.heap.size + 3, 0, none⟩)]] 63)
    have b3 := below_lit ((w.alloc (.cells #[.pointer (some ⟨p, 0, none⟩)] 43)).alloc (.map #[] 0)) (.cells #[.map (some (w.heap.size + 1))] 46)
    have b2 := below_lit (w.alloc (.cells #[.pointer (some ⟨p, 0, none⟩)] 43)) (.map #[] 0)
    have b1 := below_lit w (.cells #[.pointer (some ⟨p, 0, none⟩)] 43)
    have h1 := (MapKept.heap_alloc w (.cells #[.pointer (some ⟨p, 0, none⟩)] 43)).1
    have h3 := (MapKept.heap_alloc ((w.alloc (.cells #[.pointer (some ⟨p, 0, none⟩)] 43)).alloc (.map #[] 0)) (.cells #[.map (some (w.heap.size + 1))] 46)).1
    have h4 := (MapKept.heap_alloc (((w.alloc (.cells #[.pointer (some ⟨p, 0, none⟩)] 43)).alloc (.map #[] 0)).alloc (.cells #[.map (some (w.heap.size + 1))] 46)) (.cells #[Value.func (.func 28) #[] #[.pointer (some ⟨w.heap.size + 2, 0, none⟩), .pointer (some ⟨w.heap.size, 0, none⟩), .pointer (some ⟨w.heap.size + 3, 0, none⟩)]] 63)).1
    have hm := MapP.made (w.alloc (.cells #[.pointer (some ⟨p, 0, none⟩)] 43))
    rw [s1] at hm
    rw [s2] at h3
    rw [s3] at h4
    refine ⟨?_, ?_, h4, ?_, (((hT.below b1).below b2).below b3).below b4, ?_⟩
    · rw [b4.block _ (by omega), b3.block _ (by omega), b2.block _ (by omega)]; exact h1
    · rw [b4.block _ (by omega)]; exact h3
    · have e1 : stF x.ins ps (fun _ => false) = fun _ => none := by funext i; simp [stF]
      have e2 : cntS x.ins (fun _ => false) = 0 := by unfold cntS; simp
      rw [e1, e2]
      exact (hm.below b3).below b4
    · exact ⟨lt_of_block hT.tree, hT.map.lt, fun t ht => lt_of_block (hT.ino t ht)⟩
  have hC := hC _ a ha (by omega) hst
  have bw : Below w.heap.size w ((((w.alloc (.cells #[.pointer (some ⟨p, 0, none⟩)] 43)).alloc (.map #[] 0)).alloc (.cells #[.map (some (w.heap.size + 1))] 46)).alloc (.cells #[Value.func (.func 28) #[] #[.pointer (some ⟨w.heap.size + 2, 0, none⟩), .pointer (some ⟨w.heap.size, 0, none⟩), .pointer (some ⟨w.heap.size + 3, 0, none⟩)]] 63)) := (((below_lit w _).alloc (by simp) _).alloc (by simp; omega) _).alloc (by simp; omega) _
  clear hst hfv
  generalize ps[a]!.1 = q at hC ⊢
  go_enter Tryd.func18, Tryd.ntmps18
  go_wp2_with (go_at_call 28; refine hC.mono ?_; rintro e w5 ⟨rfl, ⟨S3, st5, gp5⟩, g5⟩; have c5 : w5.cell? ⟨w.heap.size + 2, 0, none⟩ = some (.map (some (w.heap.size + 1))) := Joins.cell_of_block st5.fb 0)
  go_ret
  exact ⟨w.heap.size + 1, S3, rfl, st5.fm, fun i => gpost_reach hx.rise ha gp5 i, bw.grown g5 bw.size (fun q hq => by cases hq; omega)⟩

end Go.Proofs.YtjggkhcomaiplaaDoor
