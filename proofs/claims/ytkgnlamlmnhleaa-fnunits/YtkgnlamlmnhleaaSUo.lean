/- Signs in rows: spec.Units. -/
import Derived.Test.YtkgnlamlmnhleaaRows
import Derived.Test.YtkgnlamlmnhleaaSUn
namespace Go.Proofs.Ytkgnlamlmnhleaa
open Go.RowKit

set_option maxRecDepth 100000 in
set_option maxHeartbeats 2000000 in
theorem sUnits (v : Value) (l : List Int) (w : World) (hl : l.length ≤ 1048576) (hv : IntsC w v l) :
    Calls Try.prog 20 #[v] w fun e w' => ∃ u us, e = .returned u ∧ RwsRow w' w.heap.size u us (unitsN l) ∧ Below w.heap.size w w' := by
  obtain ⟨hva, a, cap, rfl, hcap⟩ := hv
  have HGO : Hid (∀ f i us, UnI l l.length f i us → i < l.length → clsN (l.getD i 0) ≠ 0 → UnI l l.length f (i + 1) us) := fun f i us h => h.go
  have HSH : Hid (∀ f i us, UnI l l.length f i us → i ≤ l.length → (i = l.length ∨ clsN (l.getD i 0) = 0) → UnI l l.length i (i + 1) (us ++ [(l.take i).drop f])) := fun f i us h => h.shut
  have HDN : Hid (∀ f i us, UnI l l.length f i us → ¬ i ≤ l.length → us = unitsN l) := fun f i us h => h.done
  have HLN : Hid (∀ f i us, UnI l l.length f i us → us.length ≤ l.length) := fun f i us h => h.len
  have HAT : Hid (∀ f i us, UnI l l.length f i us → i ≤ l.length → f < i) := fun f i us h hi => by have := h.at'; omega
  have HCT : Hid (∀ W f i, Below w.heap.size w W → f ≤ i → i ≤ l.length → IntsAt W (sliced a f i cap 1) ((l.take i).drop f)) := fun W f i h h1 h2 => (hva.below h).cut rfl f i h1 h2 (by omega)
  have HCL : Hid (∀ f i, f < i → i ≤ l.length → (l.take i).drop f ≠ [] ∧ ((l.take i).drop f).length ≤ l.length) := fun f i h1 h2 => by
    have e : ((l.take i).drop f).length = i - f := by rw [List.length_drop, List.length_take]; omega
    exact ⟨fun h => by rw [h] at e; simp at e; omega, by omega⟩
  have HST := UnI.start l
  obtain ⟨a2, c2, e0, hcs⟩ := id hva
  cases e0
  generalize unitsN l = r at HDN ⊢
  obtain ⟨n, HN⟩ : ∃ n, Hid (n = l.length) := ⟨_, rfl⟩
  rw [← HN.out] at hcs hl hcap HGO HSH HDN HLN HAT HCT HCL HST ⊢
  clear hva
  have hE : RwsRow (w.alloc (.cells #[] 24)) w.heap.size (.slice (some ⟨w.heap.size, 0, none⟩) 0 0) [] [] := ⟨World.ownsRow_lit w #[] 0 (Nat.le_refl _) (by decide) rfl, fun t ht => by simp at ht, fun s t hs => by simp at hs⟩
  go_enter Try.func20, Try.ntmps20
  go_wp2
  go_loopw [3, 4, 5] (fun ov fv iv wr => ∃ (f i : Nat) (us : List Value) (ls : List (List Int)), (1 ≤ i ∧ i ≤ n + 1) ∧ iv = .int .i64 i ∧ fv = .int .i64 f ∧ RwsRow wr w.heap.size ov us ls ∧ UnI l n f i ls ∧ Below w.heap.size w wr) (fun _ _ iv _ => n + 1 - (intOf iv).toNat)
  case atStart => exact ⟨0, 1, [], [], ⟨by omega, by omega⟩, rfl, rfl, hE, HST, below_lit _ _⟩
  case round =>
    obtain ⟨f, i, us, ls, ⟨hi1, hi2⟩, rfl, rfl, hrow, HU, hbel⟩ := hrel
    clear hE HST
    by_cases hle : i ≤ n
    · have hfi := HAT.out f i ls HU hle
      obtain ⟨hne, hml⟩ := HCL.out f i hfi hle
      have hsl := fun w' => slice_int a n cap f i w' (by omega) (by omega)
      have HCU := fun W h => HCT.out W f i h (by omega) hle
      have hlln := HLN.out f i ls HU
      have HS1 := HSH.out f i ls HU hle
      have HG1 := HGO.out f i ls HU
      generalize (l.take i).drop f = m at hne hml HCU HS1
      generalize sliced a f i cap 1 = U at hsl HCU
      have hwi : IntKind.i64.wrap ((i : Int) + 1) = (i : Int) + 1 := by rw [IntKind.wrap_i64]; omega
      clear HCT HCL HSH HGO HAT HLN
      by_cases hin : i = n
      · subst hin
        have HSX := HS1 (.inl rfl)
        have hbX := hbel
        have rowX := hrow
        clear HS1 HG1 hcs
        go_wp2_with (first | (at_builtin; (refine append_row w8 rfl (.tmp 25) (.tmp 32) rfl w.heap.size _ _ us ls m (by omega) rw8 (row8.mono hbX.size) nw8 rfl rfl (Nat.le_trans hbX.size b8'.size) ?_; intro v9 w9 row9 b9)) | (at_builtin; (refine append_ints _ rfl (.tmp 26) (.tmp 30) rfl wr.heap.size _ _ [] m hne (by simp; omega) (lit_at wr #[] [] 0 rfl rfl (by decide)) (HCU _ (hbX.trans ((below_lit wr _).mono hbX.size))) rfl rfl (below_lit wr _).size ?_; intro v8 w8 row8 b8; rw [List.nil_append] at row8; have b8' := (below_lit wr (.cells #[] 3)).trans (b8.mono (Nat.le_refl _)); have rw8 := rowX.below b8'; have nw8 := fresh_row rowX row8 (Nat.le_refl _); obtain ⟨p8, c8, rfl, -⟩ := row8.at)))
        go_roundw
        case rel => exact ⟨i, i + 1, _, _, ⟨by omega, by omega⟩, by go_num, rfl, row9, HSX, (hbX.trans (b8'.mono hbX.size)).trans b9⟩
        case measure => simp [intOf]
      · have hilt : i < n := by omega
        have hne' : ¬ (i : Int) = (n : Int) := by omega
        obtain ⟨b1, o1, rfl, hb1, hc1⟩ := hcs i hilt
        have hc1' := (hbel.cell (p := ⟨b1, o1 + i, none⟩) hb1).trans hc1
        have HC := sClass (l.getD i 0) wr
        have HG2 := HG1 hilt
        have HS2 : clsN (l.getD i 0) = 0 → _ := fun h => HS1 (.inr h)
        generalize clsN (l.getD i 0) = kc at HC HG2 HS2
        generalize l.getD i 0 = d at hc1' HC
        clear hc1 hcs HS1 HG1
        go_wp2_with fail
        refine HC.mono ?_
        rintro e w2 ⟨rfl, b2⟩
        have rowX := hrow.below b2
        have hbX := hbel.trans (b2.mono hbel.size)
        clear hrow b2 hbel HC
        by_cases hk : kc = 0
        · have HSX := HS2 hk
          have hkb : (kc == 0) = true := by simp [hk]
          clear HG2 HS2
          go_wp2_with (first | (at_builtin; (refine append_row w8 rfl (.tmp 25) (.tmp 32) rfl w.heap.size _ _ us ls m (by omega) rw8 (row8.mono hbX.size) nw8 rfl rfl (Nat.le_trans hbX.size b8'.size) ?_; intro v9 w9 row9 b9)) | (at_builtin; (refine append_ints _ rfl (.tmp 26) (.tmp 30) rfl w2.heap.size _ _ [] m hne (by simp; omega) (lit_at w2 #[] [] 0 rfl rfl (by decide)) (HCU _ (hbX.trans ((below_lit w2 _).mono hbX.size))) rfl rfl (below_lit w2 _).size ?_; intro v8 w8 row8 b8; rw [List.nil_append] at row8; have b8' := (below_lit w2 (.cells #[] 3)).trans (b8.mono (Nat.le_refl _)); have rw8 := rowX.below b8'; have nw8 := fresh_row rowX row8 (Nat.le_refl _); obtain ⟨p8, c8, rfl, -⟩ := row8.at)))
          go_roundw
          case rel => exact ⟨i, i + 1, _, _, ⟨by omega, by omega⟩, by go_num, rfl, row9, HSX, (hbX.trans (b8'.mono hbX.size)).trans b9⟩
          case measure => simp [intOf]; omega
        · have HGX := HG2 hk
          have hkb : (kc == 0) = false := by simp [hk]
          clear HG2 HS2
          go_wp2
          go_roundw
          case rel => exact ⟨f, i + 1, _, _, ⟨by omega, by omega⟩, by go_num, rfl, rowX, HGX, hbX⟩
          case measure => simp [intOf]; omega
    · obtain rfl : i = n + 1 := by omega
      have hr := HDN.out f _ ls HU (by omega)
      subst hr
      go_wp2
      go_ret
      exact ⟨_, _, rfl, hrow, hbel⟩
end Go.Proofs.Ytkgnlamlmnhleaa
