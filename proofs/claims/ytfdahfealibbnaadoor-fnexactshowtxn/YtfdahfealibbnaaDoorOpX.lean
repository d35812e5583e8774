/- A transaction that is handed to a law, opened. -/
import Derived.Test.YtfdahfealibbnaaDoorRows
import Derived.Test.YtfdahfealibbnaaDoorOpW
namespace Go.Proofs.YtfdahfealibbnaaDoor
open Go.RowKit Go.ChangeShapes Go.WideShapes Go.Deep Go.Joins

theorem cellsLT : Tryd.prog.cellsOf 24 = 2 := by kernel_rfl

set_option maxRecDepth 100000 in
theorem txn_open {H : Type} {enc : TypeId × Value → H} {W : World} {base : Nat} {r : Reach} {v : Value} {d : DataW H} {p : List MemPlace} (hv : Value.okWide Tryd.prog W r base 24 v)
    (h : DataW.Trod enc Tryd.prog W 0 (fun _ => true) true 24 v d p) : ∃ (sq : Int) (b : Value) (l : List Wr), v = .agg #[.int .i64 sq, b] ∧ WrsAt W b l ∧ l.length ≤ 9223372036854775807 ∧ ∀ t, t < l.length → l[t]!.text.size ≤ 9223372036854775807 := by
  obtain ⟨cs, rfl, hsz⟩ := okWide_struct Tryd.underlying24 hv
  obtain ⟨c0, c1, rfl⟩ := arr2d (hsz.trans cellsLT)
  obtain ⟨fuel, hf⟩ := h
  obtain ⟨xs, k, -, -, -, hl, hq⟩ := DataW.trod_struct Tryd.underlying24 hf
  have hl : xs.length = 2 := hl
  have t0 := hq 0 _ rfl
  have t1 := hq 1 _ rfl
  clear hq hf
  have some_of : ∀ {i : Nat} {z : Option (DataW H × List MemPlace)}, z = xs[i]? → i < xs.length → ∃ y, z = some y := fun {i} {z} h hi => ⟨xs[i], by rw [h, List.getElem?_eq_getElem hi]⟩
  obtain ⟨y0, e0⟩ := some_of t0 (by omega)
  obtain ⟨y1, e1⟩ := some_of t1 (by omega)
  obtain ⟨z0, f0, -, -⟩ := DataW.trod_int Tryd.underlying3 e0
  have e1' : DataW.trod enc Tryd.prog W 0 (fun _ => true) true k 22 [c1] = some y1 := e1
  have hs1 : ∃ sa sl sc, c1 = .slice sa sl sc := by
    rcases k with _ | k
    · simp [DataW.trod] at e1'
    · cases c1 <;> simp [DataW.trod, Tryd.underlying22] at e1'
      exact ⟨_, _, _, rfl⟩
  obtain ⟨ta, tl, tc, rfl⟩ := hs1
  obtain ⟨m, h4, h5, h6⟩ := wrs_open e1'
  unfold maxLen at h5 h6
  cases f0
  exact ⟨z0, _, m, rfl, h4, by omega, fun t ht => by have := h6 t ht; omega⟩

end Go.Proofs.YtfdahfealibbnaaDoor
