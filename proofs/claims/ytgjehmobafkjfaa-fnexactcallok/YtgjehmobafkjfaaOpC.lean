/- A call that is handed to a law, opened. -/
import Derived.Test.YtgjehmobafkjfaaRows
import Derived.Test.YtgjehmobafkjfaaCaT
import Derived.WideShapes
import Derived.ChangeArms
import Derived.Lib.SmallJoins
namespace Go.Proofs.Ytgjehmobafkjfaa
open Go.RowKit Go.ChangeShapes Go.WideShapes Go.Joins

theorem cellsCa : Try.prog.cellsOf 30 = 6 := by kernel_rfl
theorem array6 {cs : Array Value} (h : cs.size = 6) : ∃ a b c d e f, cs = #[a, b, c, d, e, f] := by
  obtain ⟨l⟩ := cs
  match l, h with
  | [a, b, c, d, e, f], _ => exact ⟨a, b, c, d, e, f, rfl⟩
theorem some_of {α : Type} {l : List α} {i : Nat} {x : Option α} (h : x = l[i]?) (hi : i < l.length) : ∃ y, x = some y := ⟨l[i], by rw [h, List.getElem?_eq_getElem hi]⟩

set_option maxRecDepth 100000 in
theorem call_open {H : Type} {enc : TypeId × Value → H} {W : World} {base : Nat} {r : Reach} {v : Value} {d : DataW H} {p : List MemPlace} (hv : Value.okWide Try.prog W r base 30 v)
    (h : DataW.Trod enc Try.prog W 0 (fun _ => true) true 30 v d p) : ∃ c : Ca, v = encC c ∧ c.name.size ≤ maxLen ∧ c.as_.size ≤ maxLen ∧ c.data.size ≤ maxLen := by
  obtain ⟨cs, rfl, hsz⟩ := okWide_struct Try.underlying30 hv
  obtain ⟨c0, c1, c2, c3, c4, c5, rfl⟩ := array6 (hsz.trans cellsCa)
  obtain ⟨fuel, hf⟩ := h
  obtain ⟨xs, n, -, -, -, hlen, hq⟩ := DataW.trod_struct Try.underlying30 hf
  have hlen : xs.length = 6 := hlen
  have t0 := hq 0 _ rfl
  have t1 := hq 1 _ rfl
  have t2 := hq 2 _ rfl
  have t3 := hq 3 _ rfl
  have t4 := hq 4 _ rfl
  have t5 := hq 5 _ rfl
  clear hq hf
  obtain ⟨y0, e0⟩ := some_of t0 (by omega)
  obtain ⟨y1, e1⟩ := some_of t1 (by omega)
  obtain ⟨y2, e2⟩ := some_of t2 (by omega)
  obtain ⟨y3, e3⟩ := some_of t3 (by omega)
  obtain ⟨y4, e4⟩ := some_of t4 (by omega)
  obtain ⟨y5, e5⟩ := some_of t5 (by omega)
  obtain ⟨z0, f0, -, -⟩ := DataW.trod_int Try.underlying3 e0
  obtain ⟨z1, f1, -, -⟩ := DataW.trod_int Try.underlying3 e1
  obtain ⟨z2, f2, -, s2⟩ := DataW.trod_string Try.underlying9 e2
  obtain ⟨z3, f3, -, -⟩ := DataW.trod_int Try.underlying3 e3
  obtain ⟨z4, f4, -, s4⟩ := DataW.trod_string Try.underlying9 e4
  obtain ⟨z5, f5, -, s5⟩ := DataW.trod_string Try.underlying9 e5
  cases f0; cases f1; cases f2; cases f3; cases f4; cases f5
  exact ⟨⟨z0, z1, z2, z3, z4, z5⟩, rfl, s2, s4, s5⟩

end Go.Proofs.Ytgjehmobafkjfaa
