/- Rows of texts: what laws.szStringS does. -/
import Derived.Test.YtfdahfealibbnaaRows
import Derived.Test.YtfdahfealibbnaaStS
namespace Go.Proofs.Ytfdahfealibbnaa
open Go.RowKit Go.Sort

set_option maxRecDepth 100000 in
set_option maxHeartbeats 1000000 in
theorem szStringS_le (v : Value) (L : List ByteArray) (y0 : Int) (w : World) (hy0 : 0 ≤ y0) (hy1 : y0 ≤ 1048576) (hv : TxtsAt w v L) (hl : L.length ≤ 9223372036854775807) (hs : ∀ t, t < L.length → L[t]!.size ≤ 9223372036854775807) :
    Calls Try.prog 4 #[v, .int .i64 y0] w fun e w' => ∃ q : Int, e = .returned (.int .i64 q) ∧ (-1 ≤ q ∧ q ≤ 1048576) ∧ Hid (0 ≤ q → L.length ≤ 1048576 ∧ ∀ t, t < L.length → L[t]!.size ≤ 1048576) ∧ Below w.heap.size w w' := by
  obtain ⟨a, ca, rfl, -, hva⟩ := hv
  obtain ⟨n, HL⟩ : ∃ n, Hid (n = L.length) := ⟨_, rfl⟩
  rw [← HL.out] at hva hl hs ⊢
  have hw : IntKind.i64.wrap (y0 - (n : Int)) = y0 - (n : Int) := by rw [IntKind.wrap_i64]; omega
  by_cases hbig : y0 < (n : Int)
  · have hc : y0 - (n : Int) < 0 := by omega
    go_enter Try.func4, Try.ntmps4
    go_wp2
    go_ret
    exact ⟨-1, rfl, ⟨by omega, by omega⟩, fun h => (by omega), Below.refl _ _⟩
  · have hc : ¬ (y0 - (n : Int) < 0) := by omega
    go_enter Try.func4, Try.ntmps4
    go_wp2
    go_loopw [1, 5] (fun q i wr => ∃ k : Nat, k ≤ n ∧ i = .int .i64 k ∧ ∃ x : Int, q = .int .i64 x ∧ 0 ≤ x ∧ (n : Int) + x ≤ 1048576 ∧ Hid (∀ t, t < k → L[t]!.size ≤ 1048576) ∧ Below w.heap.size w wr) (fun _ i _ => n - (intOf i).toNat)
    case atStart => exact ⟨0, Nat.zero_le _, rfl, _, rfl, by omega, by omega, fun t ht => by omega, Below.refl _ _⟩
    case round =>
      obtain ⟨k, hk, rfl, x, rfl, hx0, hx1, HS, hbel⟩ := hrel
      by_cases hlt : k < n
      · obtain ⟨b1, o1, rfl, hb1, hc1⟩ := hva k hlt
        have hc1 := (hbel.cell (p := ⟨b1, o1 + k, none⟩) hb1).trans hc1
        have hsk := hs k hlt
        have HK : Hid (L[k]!.size ≤ 1048576 → ∀ t, t < k + 1 → L[t]!.size ≤ 1048576) := fun h t ht => by
          by_cases e : t = k
          · rw [e]; exact h
          · exact HS.out t (by omega)
        generalize L[k]! = y at *
        have hkn : (k : Int) < (n : Int) := by omega
        have hk0 : (0 : Int) ≤ (k : Int) := by omega
        have hwy : IntKind.i64.wrap (x - (y.size : Int)) = x - (y.size : Int) := by rw [IntKind.wrap_i64]; omega
        by_cases hxy : x < (y.size : Int)
        · have hd : x - (y.size : Int) < 0 := by omega
          clear HK hva
          go_wp2
          go_ret
          exact ⟨-1, rfl, ⟨by omega, by omega⟩, fun h => (by omega), hbel⟩
        · have hd : ¬ (x - (y.size : Int) < 0) := by omega
          have HK' : Hid (∀ t, t < k + 1 → L[t]!.size ≤ 1048576) := HK.out (by omega)
          clear HK hva
          go_wp2
          go_roundw
          case rel => exact ⟨k + 1, by omega, by go_num, x - (y.size : Int), rfl, by omega, by omega, HK', hbel⟩
          case measure => simp [intOf]; omega
      · obtain rfl : n = k := by omega
        go_wp2
        go_ret
        exact ⟨x, rfl, ⟨by omega, by omega⟩, fun _ => ⟨by omega, HS.out⟩, hbel⟩

theorem szStringS_at (v : Value) (L : List ByteArray) (w : World) (hv : TxtsAt w v L) (hl : L.length ≤ 9223372036854775807) (hs : ∀ t, t < L.length → L[t]!.size ≤ 9223372036854775807) :
    Calls Try.prog 4 #[v, .int .i64 1048576] w fun e w' => ∃ q : Int, e = .returned (.int .i64 q) ∧ (-1 ≤ q ∧ q ≤ 1048576) ∧ Hid (0 ≤ q → L.length ≤ 1048576 ∧ ∀ t, t < L.length → L[t]!.size ≤ 1048576) ∧ Below w.heap.size w w' := szStringS_le v L 1048576 w (by decide) (by decide) hv hl hs

end Go.Proofs.Ytfdahfealibbnaa
