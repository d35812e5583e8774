/- Journals: what Diff answers; one write behind a row of writes. -/
import Derived.Test.YtfdahfealibbnaaDoorRows
import Derived.Test.YtfdahfealibbnaaDoorWrR
namespace Go.Proofs.YtfdahfealibbnaaDoor
open Go.RowKit

/-- the writes of b's first k texts where a and b are unlike -/
def diffK (a b : List ByteArray) : Nat → List Wr
  | 0 => []
  | k + 1 => diffK a b k ++ (if a[k]! = b[k]! then [] else [⟨k, b[k]!⟩])
def diffN (a b : List ByteArray) : List Wr := if a.length = 17 ∧ b.length = 17 then diffK a b 17 else []
theorem diffK_len (a b : List ByteArray) (k : Nat) : (diffK a b k).length ≤ k := by
  induction k with
  | zero => simp [diffK]
  | succ k ih => unfold diffK; split <;> simp <;> omega
theorem diffN_len (a b : List ByteArray) : (diffN a b).length ≤ 17 := by
  unfold diffN; split
  · exact diffK_len a b 17
  · simp
theorem diffK_eq {a b : List ByteArray} {k : Nat} (h : a[k]! = b[k]!) : diffK a b (k + 1) = diffK a b k := by rw [diffK, if_pos h, List.append_nil]
theorem diffK_ne {a b : List ByteArray} {k : Nat} (h : ¬ a[k]! = b[k]!) : diffK a b (k + 1) = diffK a b k ++ [⟨k, b[k]!⟩] := by rw [diffK, if_neg h]

/-- 'append(out, Write{..})', out a row of the call's own -/
theorem append_wr1 (w : World) {ops : Array Oper} {rest : List Oper} {o : Oper} {a : Act} {Q : Exit → Act → World → Prop} (hgd : o.guard = none) (s x : Operand)
    (ho : o.op = .call { callee := .builtin .append, args := #[s, x], argTypes := #[27, 27] }) (base : Nat)
    (v : Value) (l : List Wr) (e : Wr) (hl : l.length + 1 ≤ 1099511627776) (hown : WrRow w base v l) (hs : a.eval s = v) (hx : a.eval x = .slice (some ⟨w.heap.size, 0, none⟩) 1 1)
    (hbase : base ≤ w.heap.size)
    (h : ∀ v' w', WrRow w' base v' (l ++ [e]) → Below base w w' → wpList Tryd.prog ops Q rest (a.put o.dst v') w') :
    wpList Tryd.prog ops Q (o :: rest) a (w.alloc (.cells #[.int .i64 e.block, .string e.text] 43)) := by
  refine append_wrs _ hgd s x ho base v _ l [e] hl (hown.below (below_lit _ _)) (one_wr w e) hs hx (by simp; omega) ?_
  intro v' w' hr hb
  exact h v' w' hr (((below_lit w _).mono hbase).trans hb)
theorem nil_wrs (w : World) (base : Nat) : WrRow w base (.slice none 0 0) [] := ⟨rfl, .inl ⟨rfl, rfl⟩⟩

end Go.Proofs.YtfdahfealibbnaaDoor
