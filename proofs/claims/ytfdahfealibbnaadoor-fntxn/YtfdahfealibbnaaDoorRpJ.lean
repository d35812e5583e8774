/- Blocks, impl: the cursor's pieces. -/
import Derived.Test.YtfdahfealibbnaaDoorRows
import Derived.Test.YtfdahfealibbnaaDoorRbI
import Derived.Test.YtfdahfealibbnaaDoorClT
namespace Go.Proofs.YtfdahfealibbnaaDoor
open Go.RowKit Go.Sort

theorem numR_len {l : List UInt8} {p : Int × List UInt8} (h : numR l = some p) : p.2.length < l.length ∧ 0 ≤ p.1 ∧ p.1 ≤ 562949953421311 := by
  unfold numR at h
  split at h
  · cases h
  · cases h
    have h1 := rdK_le l
    have h2 := rdN_in l
    exact ⟨by simp; omega, h2⟩
theorem takR_len {n : Int} {l : List UInt8} {p : List UInt8 × List UInt8} (h : takR n l = some p) : p.1.length ≤ l.length ∧ p.2.length ≤ l.length := by
  unfold takR at h
  split at h
  · cases h
  · cases h
    simp only [List.length_take, List.length_drop]
    omega
theorem pieR_len {l : List UInt8} {p : List UInt8 × List UInt8} (h : pieR l = some p) : p.1.length ≤ l.length ∧ p.2.length < l.length := by
  unfold pieR at h
  cases h1 : numR l with
  | none => rw [h1] at h; cases h
  | some q =>
    rw [h1] at h
    have h2 := numR_len h1
    have h3 := takR_len (show takR q.1 q.2 = some p from h)
    omega

set_option maxRecDepth 100000 in
set_option maxHeartbeats 1000000 in
theorem piece_any (b : Nat) (l : List UInt8) (T : TypeId) (x : Value) (w : World) (hE : ErrV w T x) (h : CurSt w b l) (hl : l.length ≤ 1048576) :
    Calls Tryd.prog 65 #[.pointer (some ⟨b, 0, none⟩)] w fun e w' => Says (pieR l) (fun p => .string (bA p)) T x b w e w' := by
  have HN := number_any b l T x w hE h hl
  have hb := h.2
  cases hn : numR l with
  | none =>
    have ht : Hid (∀ e w', (e = .panicked [{ v := .iface T x, recovered := false }] ∧ w.grownBy w' (some b)) → Says (pieR l) (fun p => .string (bA p)) T x b w e w') := fun e w' h => .inr ⟨by unfold pieR; rw [hn]; rfl, h⟩
    rw [hn] at HN
    generalize pieR l = o at *
    go_enter Tryd.func65, Tryd.ntmps65
    go_wp2_with fail
    refine HN.mono ?_
    rintro e w1 hs
    rcases hs with ⟨p, hp, -⟩ | ⟨-, rfl, hg⟩
    · cases hp
    · go_wp2
      exact ⟨rfl, ht.out _ _ ⟨rfl, hg⟩⟩
  | some p =>
    obtain ⟨n, r⟩ := p
    have hln := numR_len hn
    dsimp only at hln
    rw [hn] at HN
    have hpi : pieR l = takR n r := by unfold pieR; rw [hn]; rfl
    rw [hpi]
    go_enter Tryd.func65, Tryd.ntmps65
    go_wp2_with fail
    refine HN.mono ?_
    rintro e w1 hs
    rcases hs with ⟨p, hp, rfl, hc1, hg1⟩ | ⟨hp, -⟩
    · cases hp
      dsimp only at hc1 ⊢
      have HT := take_any b r n T x w1 (hE.grown hg1 hb) hc1 hln.2.1
      cases ht0 : takR n r with
      | none =>
        rw [ht0] at HT
        have ht : Hid (∀ e w', (e = .panicked [{ v := .iface T x, recovered := false }] ∧ w.grownBy w' (some b)) → Says (takR n r) (fun p => .string (bA p)) T x b w e w') := fun e w' h => .inr ⟨ht0, h⟩
        go_wp2_with fail
        refine HT.mono ?_
        rintro e w2 hs
        rcases hs with ⟨p, hp, -⟩ | ⟨-, rfl, hg2⟩
        · cases hp
        · go_wp2
          exact ⟨rfl, ht.out _ _ ⟨rfl, gbr_trans hg1 hg2⟩⟩
      | some p =>
        obtain ⟨s, r2⟩ := p
        have hlt := takR_len ht0
        dsimp only at hlt
        rw [ht0] at HT
        have ht : Hid (∀ e w', (e = .returned (.string (bA s)) ∧ CurSt w' b r2 ∧ w.grownBy w' (some b)) → Says (takR n r) (fun p => .string (bA p)) T x b w e w') := fun e w' h => .inl ⟨(s, r2), ht0, h⟩
        go_wp2_with fail
        refine HT.mono ?_
        rintro e w2 hs
        rcases hs with ⟨p, hp, rfl, hc2, hg2⟩ | ⟨hp, -⟩
        · cases hp
          dsimp only at hc2 ⊢
          have HC := clone_text (bA s) w2 (by rw [bA_size]; omega)
          go_wp2_with fail
          refine HC.mono ?_
          rintro e w3 ⟨rfl, b3⟩
          go_wp2
          go_ret
          exact ht.out _ _ ⟨rfl, hc2.below b3, gbr_trans (gbr_trans hg1 hg2) (gbi_of_below b3)⟩
        · cases hp
    · cases hp

theorem gb_set_new {w w' : World} {b g : Nat} (h : w.grownBy w' (some b)) (hg : w.heap.size ≤ g) (o : Nat) (v : Value) : w.grownBy (w'.setCell ⟨g, o, none⟩ v) (some b) :=
  ⟨h.os, h.tape, h.output, by have := h.size; simpa [World.setCell] using this, fun k hk hn => (Below.heap_setCell _ _ _ k (by show k ≠ g; omega)).trans (h.block k hk hn)⟩
theorem CurSt.set {w : World} {b g : Nat} {l : List UInt8} (h : CurSt w b l) (hg : b ≠ g) (o : Nat) (v : Value) : CurSt (w.setCell ⟨g, o, none⟩ v) b l :=
  ⟨(Below.heap_setCell _ _ _ b hg).trans h.1, h.2⟩

end Go.Proofs.YtfdahfealibbnaaDoor
