/- Ranges of signs: parts of rows, copies of rows, structs compared (what impl.mixed needs). -/
import Derived.Test.YtkpeabbilcmabaaRows
import Derived.Test.YtkpeabbilcmabaaRgX
import Derived.Test.YtkpeabbilcmabaaRgL
import Derived.Test.YtkpeabbilcmabaaCpK
import Derived.LaidEql
namespace Go.Proofs.Ytkpeabbilcmabaa
open Go.RowKit Go.Sort

theorem eqRg (x y : Rg) (w : World) : (binOp .eql 43 (.agg #[.int .i64 x.a, .int .i64 x.b]) (.agg #[.int .i64 y.a, .int .i64 y.b])).run Try.prog w = .ok (.bool (decide (x = y))) w := by
  have u3 := Try.underlying3
  have a3 := Try.isAgg3
  have z3 := Try.sizeOf3
  have hS : Try.prog.underlying 43 = some (.struct (Try.prog.fieldsOf 43)) := by kernel_rfl
  have hp : Try.prog.stoodInHeld 43 = false := by kernel_rfl
  rw [run_eql_struct, show (10000 : Nat) = 9999 + 1 from rfl, run_equalIn_agg w 9999 43 _ _ hS hp]
  simp only [Program.fieldsOf, Try.underlying43]
  obtain ⟨x0, x1⟩ := x
  obtain ⟨y0, y1⟩ := y
  have hd : decide ((⟨x0, x1⟩ : Rg) = ⟨y0, y1⟩) = (decide (x0 = y0) && (decide (x1 = y1))) := by
    rw [Bool.eq_iff_iff]; simp
  rw [hd]
  go_simp
  by_cases h0 : x0 = y0 <;> by_cases h1 : x1 = y1 <;> simp [h0, h1]

theorem elemRg : Try.prog.underlying 24 = some (.slice (Try.prog.elem 24)) := by kernel_rfl
theorem sizeRg (w : World) : (sizeOf (Try.prog.elem 24)).run Try.prog w = .ok 2 w := by kernel_rfl
/-- s[k:] -/
theorem slice_rg (a : Option Addr) (len cap k : Nat) (z : Int) (w : World) (hz : z = (k : Int)) (hk : k ≤ len) : (Instr.slice 24 (.slice a len cap) (some (.int .i64 z)) none none).run Try.prog w = .ok (sliced a k len cap 2) w := by
  subst hz
  rw [run_slice_l w 24 a len cap elemRg .i64 (k : Int) (by omega) (by omega), sizeRg]
  simp [Result.andThen]
/-- s[:k] -/
theorem slice_rgh (a : Option Addr) (len cap k : Nat) (w : World) (hk : k ≤ cap) : (Instr.slice 24 (.slice a len cap) none (some (.int .i64 (k : Int))) none).run Try.prog w = .ok (sliced a 0 k cap 2) w := by
  rw [run_slice_h w 24 a len cap elemRg .i64 (k : Int) (by omega) (by omega), sizeRg]
  simp [Result.andThen]

theorem rg_src {w : World} {u : Value} {m : List Rg} (hu : RgsAt w u m) : ∃ ad c, u = .slice ad m.length c ∧ (∀ a, ad = some a → ∀ j x, (flatRg m)[j]? = some x → w.cell? (a.add j) = some x) ∧ (ad = none → m = []) := by
  obtain ⟨ad, cap, rfl, hn, hc⟩ := hu
  refine ⟨ad, cap, rfl, fun a ha j x hx => ?_, fun h => ?_⟩
  · have hj : j < m.length * 2 := by
      have := (List.getElem?_eq_some_iff.1 hx).1
      rwa [flatRg_len] at this
    obtain ⟨b1, o1, e, -, h1⟩ := hc (j / 2) (by omega)
    rw [ha] at e
    cases e
    have hjj : j = j / 2 * 2 + j % 2 := by omega
    have h4 := flatRg_at m (j / 2) (by omega) (j % 2) (by omega)
    rw [← hjj, hx] at h4
    rw [Addr.add_lit, hjj, ← Nat.add_assoc]
    have : j % 2 < 2 := by omega
    generalize j % 2 = s at *
    rcases s with _ | _ | s
    · exact h1.c0.trans h4.symm
    · exact h1.c1.trans h4.symm
    · omega
  · cases m with
    | nil => rfl
    | cons e m => obtain ⟨b, off, h1, _⟩ := hc 0 (by simp); rw [h] at h1; cases h1
theorem copy_nil (w : World) (ty : TypeId) (d s : Option Addr) (dl dc sc : Nat) : (Builtin.copy_ #[24, 24] ty #[.slice d dl dc, .slice s 0 sc]).run Try.prog w = .ok (goInt 0) w := by
  have hI : ∃ i, Try.prog.info? 43 = some i ∧ i.size = 2 := by
    obtain ⟨i0, hi, hz0, hz1, hz2⟩ := info_parts Try.infoRg; exact ⟨i0, hi, hz1⟩
  obtain ⟨i, hi, hs⟩ := hI
  have h0 : Nat.min 0 dl = 0 := Nat.zero_min dl
  cases d <;> cases s <;> simp [Builtin.copy_, run_underlying Try.underlying24, Builtin.lenOf, Builtin.firstCells, sizeOf, typeInfo, hi, h0, loadCells, loadCellsFrom, storeCells]

/-- copy(out[k:], x): out a row of the call's own, with room for x behind the first k -/
theorem copy_rg {w : World} {base g N : Nat} (o z : List Rg) (hN : (o ++ z).length = N) (hr : w.ownsRow base 43 2 (.slice (some ⟨g, 0, none⟩) N N) N (flatRg (o ++ z))) (x : List Rg) (u : Value) (hu : RgsAt w u x) (hx : x.length ≤ z.length) (ty : TypeId) :
    ∃ w', (Builtin.copy_ #[24, 24] ty #[sliced (some ⟨g, 0, none⟩) o.length N N 2, u]).run Try.prog w = .ok (goInt (x.length : Nat)) w' ∧
      w'.ownsRow base 43 2 (.slice (some ⟨g, 0, none⟩) N N) N (flatRg (o ++ x ++ z.drop x.length)) ∧ w.grownBy w' (some g) := by
  obtain ⟨ad, c, rfl, hs, hz⟩ := rg_src hu
  by_cases hx0 : x = []
  · subst hx0
    refine ⟨w, copy_nil w ty _ _ _ _ _, by simpa using hr, ⟨rfl, rfl, rfl, Nat.le_refl _, fun _ _ _ => rfl⟩⟩
  · have hxp := List.length_pos_iff.2 hx0
    cases ad with
    | none => exact absurd (hz rfl) hx0
    | some a =>
      rw [List.length_append] at hN
      have hne : ¬ N = o.length := by omega
      rcases hr.2 with ⟨h0, -⟩ | ⟨g', cap, cs, e, hg, hcs, hnc, hcp, hsz, htk⟩
      · cases h0
      · cases e
        have hI : (Try.prog.info? 43).map (·.size) = some 2 := by kernel_rfl
        have hd : sliced (some ⟨g, 0, none⟩) o.length N N 2 = .slice (some ⟨g, o.length * 2, none⟩) (N - o.length) (N - o.length) := by
          unfold sliced; rw [if_neg hne, Option.map_some, Addr.add_lit, Nat.zero_add]
        have hcl : cs.toList = flatRg (o ++ z) := by
          rw [← htk, List.take_of_length_le]; simp [hsz]
        have hrun := run_copy_rowK (P := Try.prog) w 24 24 ty 43 2 x.length g (o.length * 2) (N - o.length) (N - o.length) a x.length c cs 43 (flatRg x) Try.underlying24 hI hcs (Nat.min_eq_left (by omega)) (flatRg_len x) (hs a rfl) (by rw [flatRg_len, hsz]; omega) (flatRg_cell x)
        have hfl : cs.toList.take (o.length * 2) ++ flatRg x ++ cs.toList.drop (o.length * 2 + (flatRg x).length) = flatRg (o ++ x ++ z.drop x.length) := by
          rw [hcl, flatRg_append, flatRg_append, flatRg_append, ← flatRg_len o, List.take_left' rfl, ← List.drop_drop, List.drop_left' rfl]
          congr 1
          rw [flatRg_len]
          conv => lhs; rw [← List.take_append_drop x.length z, flatRg_append]
          rw [List.drop_left']
          rw [flatRg_len, List.length_take]; omega
        rw [hd]
        rw [hfl] at hrun
        have hlen : (flatRg (o ++ x ++ z.drop x.length)).length = N * 2 := by rw [flatRg_len]; simp; omega
        refine ⟨_, hrun, ⟨hlen, .inr ⟨g, N, _, rfl, hg, setRow_heap w g cs _ _ _ hcs, Nat.le_refl _, hcp, by rw [List.size_toArray]; exact hlen, ?_⟩⟩, ⟨rfl, rfl, rfl, by simp, fun k _ hk => setRow_other w g k _ (fun e => hk (by rw [e]))⟩⟩
        show List.take (N * 2) _ = _
        rw [List.take_of_length_le]
        rw [hlen]; exact Nat.le_refl _
/-- out[:k] -/
theorem row_head {w : World} {base g N : Nat} (o z : List Rg) (hr : w.ownsRow base 43 2 (.slice (some ⟨g, 0, none⟩) N N) N (flatRg (o ++ z))) (hN : (o ++ z).length = N) : RgRow w base (sliced (some ⟨g, 0, none⟩) 0 o.length N 2) o := by
  rcases hr.2 with ⟨h0, -⟩ | ⟨g', cap, cs, e, hg, hcs, hnc, hcp, hsz, htk⟩
  · cases h0
  · cases e
    rw [List.length_append] at hN
    refine ⟨flatRg_len o, .inr ⟨g, N, cs, ?_, hg, hcs, by omega, hcp, hsz, ?_⟩⟩
    · unfold sliced
      by_cases e : N = 0
      · rw [if_pos e]; rfl
      · rw [if_neg e, Option.map_some, Addr.add_lit]; simp
    · have h1 : o.length * 2 ≤ N * 2 := by omega
      have : cs.toList.take (o.length * 2) = (cs.toList.take (N * 2)).take (o.length * 2) := by rw [List.take_take, Nat.min_eq_left h1]
      rw [this, htk, flatRg_append, List.take_left' (flatRg_len o)]
end Go.Proofs.Ytkpeabbilcmabaa
