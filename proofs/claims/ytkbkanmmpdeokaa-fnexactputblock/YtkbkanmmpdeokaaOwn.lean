/- Rows of bytes that a call has made: what they are as strings, and one byte more. No word of the program. -/
import Derived.WalkKit
import Derived.WalkSpells
import Derived.Laws.IdiomStrings
import Derived.Test.YtkbkanmmpdeokaaNum
namespace Go.Proofs.Ytkbkanmmpdeokaa
open Go.RowKit

def bytesV (l : List UInt8) : List Value := l.map fun b => .int .u8 (b.toNat : Int)

theorem bytesV_length (l : List UInt8) : (bytesV l).length = l.length := by simp [bytesV]
theorem bytesV_append (l m : List UInt8) : bytesV (l ++ m) = bytesV l ++ bytesV m := by simp [bytesV]
theorem bytesV_one (b : UInt8) : bytesV [b] = [.int .u8 (b.toNat : Int)] := rfl

/-- 'string(b)' where b is a row of bytes that the call owns. -/
theorem row_string {P : Program} {w : World} {base : Nat} {E S T : TypeId} {v : Value} {n : Nat} {l : List UInt8}
    (hS : P.underlying S = some (.slice E)) (hE : P.underlying E = some (.int .u8)) (hT : P.underlying T = some .string)
    (hown : w.ownsRow base E 1 v n (bytesV l)) : (convert S T v).run P w = .ok (.string ⟨l.toArray⟩) w := by
  have hn : l.length = n := by have := hown.1; rw [bytesV_length] at this; omega
  subst hn
  rcases hown.2 with ⟨rfl, h0⟩ | ⟨g, cap, cur, rfl, hg, hh, hnc, hcp, hcs, htake⟩
  · obtain rfl : l = [] := List.length_eq_zero_iff.1 h0
    rw [run_convert_bytes_string w S T E none 0 0 hS hE hT]
    rfl
  · exact run_convert_bytes_back w S T E ⟨g, 0, none⟩ cap l hS hE hT fun j hj => by
      rw [Addr.add_lit, Nat.zero_add, hown.cellAt j (by omega)]
      simp [bytesV, hj]

/-- 'string([]byte{x})' -/
theorem one_string {P : Program} (w : World) {E S T : TypeId} (x : Int) (h0 : 0 ≤ x) (h1 : x < 256)
    (hS : P.underlying S = some (.slice E)) (hE : P.underlying E = some (.int .u8)) (hT : P.underlying T = some .string) :
    (convert S T (.slice (some ⟨w.heap.size, 0, none⟩) 1 1)).run P (w.alloc (.cells #[.int .u8 x] E)) = .ok (.string ⟨#[UInt8.ofNat x.toNat]⟩) (w.alloc (.cells #[.int .u8 x] E)) := by
  have h := run_convert_bytes_back (P := P) (w.alloc (.cells #[.int .u8 x] E)) S T E ⟨w.heap.size, 0, none⟩ 1 [UInt8.ofNat x.toNat] hS hE hT (fun j hj => by
    have hj0 : j = 0 := by simp at hj; omega
    subst hj0
    rw [Addr.add_lit, Nat.zero_add, World.cell?_alloc_mark]
    simp
    omega)
  simpa using h

/-- '[]byte{}' -/
theorem empty_row (w : World) (E : TypeId) : (w.alloc (.cells #[] E)).ownsRow w.heap.size E 1 (.slice (some ⟨w.heap.size, 0, none⟩) 0 0) ([] : List UInt8).length (bytesV []) := by
  have h := World.ownsRow_lit (base := w.heap.size) (e := E) (size := 1) w #[] 0 (Nat.le_refl _) (by unfold maxLen; omega) (by simp)
  simpa [bytesV] using h

/-- 'append(out, b)', out a row of bytes of the call's own. -/
theorem append_byte {P : Program} (w : World) {ops : Array Oper} {rest : List Oper} {o : Oper} {a : Act} {Q : Exit → Act → World → Prop} (hgd : o.guard = none) (s x : Operand) (S E : TypeId)
    (ho : o.op = .call { callee := .builtin .append, args := #[s, x], argTypes := #[S, S] }) (base : Nat)
    (hS : P.underlying S = some (.slice E)) (hI : (P.info? E).map (fun i => (i.zero, i.size, i.bytes)) = some (some (.int .u8 0), 1, 1))
    (v : Value) (l : List UInt8) (X : Int) (h0 : 0 ≤ X) (h1 : X < 256) (hl : l.length + 1 ≤ 140737488355328) (hown : w.ownsRow base E 1 v l.length (bytesV l)) (hs : a.eval s = v) (hx : a.eval x = .slice (some ⟨w.heap.size, 0, none⟩) 1 1)
    (hbase : base ≤ w.heap.size)
    (h : ∀ v' w', w'.ownsRow base E 1 v' (l ++ [UInt8.ofNat X.toNat]).length (bytesV (l ++ [UInt8.ofNat X.toNat])) → Below base w w' → wpList P ops Q rest (a.put o.dst v') w') :
    wpList P ops Q (o :: rest) a (w.alloc (.cells #[.int .u8 X] E)) := by
  obtain ⟨i0, hi, hz0, hz1, hz2⟩ := info_parts hI
  refine wpList_append_own _ hgd s x S ho base E i0 (.int .u8 0) 1 1 hS hi hz0 hz1 hz2 rfl (by decide) v l.length (bytesV l) hs (hown.alloc _) ⟨w.heap.size, 0, none⟩ 1 1 [.int .u8 X] hx rfl (cell_one_new _ _ _) ?_ (by unfold maxLen; omega) (by omega) (by simp; omega) ?_
  · intro u hu; simp at hu; subst hu; rfl
  · intro v' w' hown' hgrow _
    refine h v' w' ?_ ?_
    · have e : ((UInt8.ofNat X.toNat).toNat : Int) = X := by simp; omega
      rw [bytesV_append, bytesV_one, e, List.length_append]
      exact hown'
    · refine ((Below.refl base w).alloc hbase _).grown hgrow (by simp; omega) ?_
      intro k hk
      rcases hown.2 with ⟨rfl, _⟩ | ⟨g, cap, cur, rfl, hg, _⟩
      · simp [Value.ownBlock] at hk
      · simp [Value.ownBlock] at hk; omega

end Go.Proofs.Ytkbkanmmpdeokaa
