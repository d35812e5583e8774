/- Ranges of signs: firstOf, and Minus' own function. -/
import Derived.Test.YtkpeabbilcmabaaRows
import Derived.Test.YtkpeabbilcmabaaIRa
import Derived.Test.YtkpeabbilcmabaaIRc
import Derived.Test.YtkpeabbilcmabaaIRf
import Derived.Shelf.Abstract
import Derived.Deep.Cut
namespace Go.Proofs.Ytkpeabbilcmabaa
open Go.RowKit Go.Sort

theorem findRg_hit {d : List Rg} {p : Rg → Bool} {i : Nat} (hi : i < d.length) (h : p d[i]! = true) (hb : ∀ k, k < i → p d[k]! = false) : d.findIdx p = i := by
  rw [List.findIdx_eq hi]
  refine ⟨by rw [getElem!_pos d i hi] at h; exact h, fun j hj => ?_⟩
  have := hb j hj
  rw [getElem!_pos d j (by omega)] at this
  exact this
theorem findRg_miss {d : List Rg} {p : Rg → Bool} (hb : ∀ k, k < d.length → p d[k]! = false) : d.findIdx p = d.length := by
  rw [List.findIdx_eq_length]
  intro x hx
  obtain ⟨k, hk, rfl⟩ := List.getElem_of_mem hx
  have := hb k hk
  rw [getElem!_pos d k hk] at this
  exact this

set_option maxRecDepth 100000 in
set_option maxHeartbeats 1000000 in
theorem firstRg_any (g : Nat) (cb : Array Value) (p : Rg → Bool) (v : Value) (d : List Rg) (w : World) (hv : RgsAt w v d) (hl : d.length ≤ 1114112)
    (eg : ∀ args w, (callFunc g args).run Try.prog w = .ok (.enter g args) w)
    (hp : ∀ i, i < d.length → ∀ W, Below w.heap.size w W → Calls Try.prog g (#[.agg #[.int .i64 d[i]!.a, .int .i64 d[i]!.b]] ++ cb) W fun e w' => e = .returned (.bool (p d[i]!)) ∧ Below W.heap.size W w') :
    Calls Try.prog 29 #[v, .func (.func g) #[] cb] w fun e w' => e = .returned (.int .i64 (d.findIdx p : Nat)) ∧ Below w.heap.size w w' := by
  have HY : Hid (∀ i, i < d.length → p d[i]! = true → (∀ k, k < i → p d[k]! = false) → d.findIdx p = i) := fun i hi h hb => findRg_hit hi h hb
  have HN : Hid ((∀ k, k < d.length → p d[k]! = false) → d.findIdx p = d.length) := fun h => findRg_miss h
  generalize d.findIdx p = r at HY HN ⊢
  obtain ⟨a, ca, rfl, -, hva⟩ := hv
  obtain ⟨n, HL⟩ : ∃ n, Hid (n = d.length) := ⟨_, rfl⟩
  rw [← HL.out] at hva hl HY HN hp ⊢
  go_enter Try.func29, Try.ntmps29
  go_wp2
  go_loopw [9] (fun i wr => ∃ k : Nat, k ≤ n ∧ i = .int .i64 k ∧ Hid (∀ t, t < k → p d[t]! = false) ∧ Below w.heap.size w wr) (fun i _ => n - (intOf i).toNat)
  case atStart => exact ⟨0, Nat.zero_le _, rfl, fun t ht => by omega, Below.refl _ _⟩
  case round =>
    obtain ⟨k, hk, rfl, HNE, hbel⟩ := hrel
    by_cases hlt : k < n
    · obtain ⟨b1, o1, rfl, hb1, hc1⟩ := hva k hlt
      have hc1 := hc1.below hb1 hbel
      have HK : Hid (p d[k]! = true → r = k) := fun h => HY.out k hlt h HNE.out
      have HK2 : Hid (p d[k]! = false → ∀ t, t < k + 1 → p d[t]! = false) := fun h t ht => by
        by_cases e : t = k
        · rw [e]; exact h
        · exact HNE.out t (by omega)
      have hK := hp k hlt
      generalize p d[k]! = q at hK HK HK2
      generalize d[k]! = x at hc1 hK
      obtain ⟨x0, x1⟩ := x
      have c0 := hc1.c0
      have c1 := hc1.c1
      dsimp only at c0 c1 hK
      have hb5 := below_lit wr (.cells #[.int .i64 x0, .int .i64 x1] 43)
      have hbel5 := hbel.trans (hb5.mono hbel.size)
      have hcall := hK _ hbel5
      clear hc1 hva hp hK hb5
      cases q
      · go_wp2_with (go_at_fn g; refine hcall.mono ?_; rintro e w2 ⟨rfl, b2⟩)
        go_roundw
        case rel => exact ⟨k + 1, by omega, by go_num, HK2.out trivial, hbel5.trans (b2.mono hbel5.size)⟩
        case measure => simp [intOf]; omega
      · go_wp2_with (go_at_fn g; refine hcall.mono ?_; rintro e w2 ⟨rfl, b2⟩)
        go_ret
        exact ⟨ret_int (by rw [HK.out trivial]), hbel5.trans (b2.mono hbel5.size)⟩
    · obtain rfl : k = n := by omega
      have hr := HN.out HNE.out
      go_wp2
      go_ret
      exact ⟨ret_int (by rw [hr]), hbel⟩
theorem enters_mi : ∀ args w, (callFunc 30 args).run Try.prog w = .ok (.enter 30 args) w := Go.Proofs.enters_of Try.func30 (by kernel_rfl) rfl

set_option maxRecDepth 100000 in
set_option maxHeartbeats 1000000 in
theorem minus1_any (y : Rg) (x0 : Int) (B : Nat) (w : World) (hB : B < w.heap.size) (hc0 : w.cell? ⟨B, 0, none⟩ = some (.int .i64 x0)) :
    Calls Try.prog 30 #[.agg #[.int .i64 y.a, .int .i64 y.b], .pointer (some ⟨B, 0, none⟩)] w fun x w' => x = .returned (.bool (decide (x0 ≤ y.b))) ∧ Below w.heap.size w w' := by
  obtain ⟨y0, y1⟩ := y
  dsimp only
  have hb := below_lit w (.cells #[.int .i64 y0, .int .i64 y1] 43)
  obtain ⟨m0, m1⟩ : (w.alloc (.cells #[.int .i64 y0, .int .i64 y1] 43)).cell? ⟨w.heap.size, 0, none⟩ = some (.int .i64 y0) ∧ (w.alloc (.cells #[.int .i64 y0, .int .i64 y1] 43)).cell? ⟨w.heap.size, 1, none⟩ = some (.int .i64 y1) := by
    constructor <;> rw [World.cell?_alloc_mark] <;> rfl
  have c0 := (hb.cell (p := ⟨B, 0, none⟩) hB).trans hc0
  go_enter Try.func30, Try.ntmps30
  go_wp2
  go_ret
  exact ⟨rfl, hb⟩

/-- where the cuts begin that end in the range or behind it -/
theorem find_cut {b : List Rg} {x0 : Int} (j : Nat) (hj : j ≤ b.length) (r : Nat) (hr : r = (b.drop j).findIdx fun c => decide (x0 ≤ c.b)) (h : ∀ k, k < j → b[k]!.b < x0) :
    j + r ≤ b.length ∧ (∀ k, k < j + r → b[k]!.b < x0) ∧ (j + r < b.length → x0 ≤ b[j + r]!.b) := by
  have hle : r ≤ (b.drop j).length := by rw [hr]; exact List.findIdx_le_length
  rw [List.length_drop] at hle
  refine ⟨by omega, fun k hk => ?_, fun hk => ?_⟩
  · by_cases e : k < j
    · exact h k e
    · have h1 : k - j < (b.drop j).findIdx fun c => decide (x0 ≤ c.b) := by rw [← hr]; omega
      have := List.not_of_lt_findIdx h1
      rw [getElem!_pos b k (by omega)]
      simp only [List.getElem_drop, show j + (k - j) = k by omega] at this
      simpa using this
  · have h1 : (b.drop j).findIdx (fun c => decide (x0 ≤ c.b)) < (b.drop j).length := by rw [← hr, List.length_drop]; omega
    have := List.findIdx_getElem (w := h1)
    simp only [← hr, List.getElem_drop] at this
    rw [getElem!_pos b (j + r) hk]
    simpa using this

end Go.Proofs.Ytkpeabbilcmabaa
