/- Devices, impl: copyTexts, copyWrites. -/
import Derived.Test.YtpmdhoiodbjojaaRows
import Derived.Test.YtpmdhoiodbjojaaIDp
import Derived.Test.YtpmdhoiodbjojaaClT
import Derived.Test.YtpmdhoiodbjojaaCpK
import Derived.Test.YtpmdhoiodbjojaaSDq
namespace Go.Proofs.Ytpmdhoiodbjojaa
open Go.RowKit

set_option maxRecDepth 100000 in
set_option maxHeartbeats 1000000 in
theorem copyTexts_any (v : Value) (l : List ByteArray) (w : World) (hl : l.length ≤ 1048576) (hsz : ∀ t, t < l.length → l[t]!.size ≤ 1048576) (hv : TxtsAt w v l) :
    Calls Try.prog 62 #[v] w fun e w' => ∃ u, e = .returned u ∧ TxtRow w' w.heap.size u l ∧ Below w.heap.size w w' := by
  obtain ⟨a, ca, rfl, -, hva⟩ := hv
  obtain ⟨n, HN⟩ : ∃ n, Hid (n = l.length) := ⟨_, rfl⟩
  have HM : Hid (∀ j, (strsV (fillT j l)).set j (.string l[j]!) = strsV (fillT (j + 1) l)) := fun j => by rw [strsV_set, fillT_step]
  have HE : Hid (fillT n l = l) := by show _ = _; rw [HN.out]; exact fillT_all l
  have HZ : Hid (strsV (fillT 0 l) = strsV (List.replicate n ⟨#[]⟩)) := by show _ = _; rw [HN.out, fillT_zero]
  have HR : Hid (∀ w' u, TxtRow w' w.heap.size u l = w'.ownsRow w.heap.size 9 1 u n (strsV l)) := fun _ _ => by rw [HN.out]; rfl
  rw [← HN.out] at hva hl hsz ⊢
  obtain ⟨i0, hi, hz0, hz1, hz2⟩ := info_parts Try.infoTxt
  go_enter Try.func62, Try.ntmps62
  go_wp2_with (at_make; refine wpList_make_full _ rfl _ _ 24 rfl w.heap.size 9 i0 (.string ⟨#[]⟩) 1 Try.underlying24 hi hz0 hz1 .i64 .i64 _ _ n rfl rfl rfl rfl (by rw [hz2]; omega) (by unfold maxLen; omega) (Nat.le_refl _) ?_; intro w1 hown1 hgrow1)
  have hown2 : w1.ownsRow w.heap.size 9 1 (.slice (some ⟨w.heap.size, 0, none⟩) n n) n (strsV (fillT 0 l)) := by
    rw [HZ.out, ← made_strs]; simpa [Value.cells] using hown1
  have hbel2 : Below w.heap.size w w1 := (Below.refl _ _).grown hgrow1 (Nat.le_refl _) (fun _ h => by cases h)
  clear hown1 hgrow1
  go_wp2
  go_loopw [11] (fun i wr => ∃ k : Nat, k ≤ n ∧ i = .int .i64 k ∧ wr.ownsRow w.heap.size 9 1 (.slice (some ⟨w.heap.size, 0, none⟩) n n) n (strsV (fillT k l)) ∧ Below w.heap.size w wr) (fun i _ => n - (intOf i).toNat)
  case atStart => exact ⟨0, Nat.zero_le _, rfl, hown2, hbel2⟩
  case round =>
    obtain ⟨k, hk, rfl, hown, hbel⟩ := hrel
    by_cases hlt : k < n
    · obtain ⟨b1, o1, rfl, hb1, hc1⟩ := hva k hlt
      have hc1' := (hbel.cell (p := ⟨b1, o1 + k, none⟩) hb1).trans hc1
      have HP : Hid (∀ w2, Below wr.heap.size wr w2 → ((w2.setCell ⟨w.heap.size, k, none⟩ (.string l[k]!)).ownsRow w.heap.size 9 1 (.slice (some ⟨w.heap.size, 0, none⟩) n n) n (strsV (fillT (k + 1) l))) ∧ (∃ u, w2.cell? ⟨w.heap.size, k, none⟩ = some u) ∧ w2.frozen? ⟨w.heap.size, k, none⟩ = false) := fun w2 b2 => by
        have h2 := own_below hown b2
        have hst := (h2.stored k (.string l[k]!)).1
        rw [HM.out k] at hst
        exact ⟨hst, ⟨_, (h2.cellAt k (by omega)).trans (List.getElem?_eq_getElem (by have := h2.1; omega))⟩, h2.frozenAt k⟩
      have HT := fun w' => clone_text l[k]! w' (hsz k hlt)
      generalize l[k]! = x at hc1' HP HT
      have hkn : (k : Int) < (n : Int) := by omega
      have hk0 : (0 : Int) ≤ (k : Int) := by omega
      clear hc1 hva hown
      go_wp2_with (go_at_call 63; refine (HT _).mono ?_; rintro e w2 ⟨rfl, b2⟩; obtain ⟨h2, ⟨u0, d0⟩, f0⟩ := HP.out _ b2; have HS : Hid _ := h2; clear h2)
      go_roundw
      case rel => exact ⟨k + 1, by omega, by go_num, HS.out, (hbel.trans (b2.mono hbel.size)).setCell (Nat.le_refl _) _⟩
      case measure => simp [intOf]; omega
    · obtain rfl : k = n := by omega
      rw [HE.out] at hown
      go_wp2
      go_ret
      exact ⟨_, rfl, by rw [HR.out]; exact hown, hbel⟩

theorem flatW_put (l : List Wr) (k : Nat) (hk : k < l.length) : (flatW l).set (k * 2 + 1) (.string l[k]!.text) = flatW l := by
  have h := flatW_set l k l[k]! hk
  have e : l.set k l[k]! = l := by rw [getElem!_pos l k hk]; exact List.set_getElem_self hk
  rw [e] at h
  have h0 : (flatW l).set (k * 2) (.int .i64 l[k]!.block) = flatW l := by
    apply List.ext_getElem?
    intro j
    by_cases hj : j = k * 2
    · subst hj
      rw [List.getElem?_set_self (by rw [flatW_len]; omega)]
      have := flatW_at l k hk 0 (by omega)
      rw [Nat.add_zero] at this
      rw [this]; rfl
    · rw [List.getElem?_set_ne (by omega)]
  rwa [h0] at h

/-- the row behind 'make' and 'copy' -/
theorem copy_wr {w : World} {n : Nat} {l : List Wr} (hn : n = l.length) (ty : TypeId) (u : Value) (hu : WrsAt w u l) (g : Nat) (base : Nat) (hr : w.ownsRow base 35 2 (.slice (some ⟨g, 0, none⟩) n n) n (flatW (List.replicate n default))) :
    ∃ v' w', (Builtin.copy_ #[25, 25] ty #[.slice (some ⟨g, 0, none⟩) n n, u]).run Try.prog w = .ok v' w' ∧ w'.ownsRow base 35 2 (.slice (some ⟨g, 0, none⟩) n n) n (flatW l) ∧ w.grownBy w' (some g) := by
  obtain ⟨ad, c, rfl, hs, hz⟩ := wr_src hu
  have hI : (Try.prog.info? 35).map (·.size) = some 2 := by kernel_rfl
  cases ad with
  | none =>
    obtain ⟨rfl, rfl⟩ := hz rfl
    subst hn
    exact ⟨_, _, run_copy_none w 25 25 ty 35 g 0 0 Try.underlying25 2 hI, hr, ⟨rfl, rfl, rfl, Nat.le_refl _, fun _ _ _ => rfl⟩⟩
  | some a =>
    rcases hr.2 with ⟨h0, -⟩ | ⟨g', cap, cs, e, hg, hcs, hnc, hcp, hsz, htk⟩
    · cases h0
    · cases e
      have hrun := run_copy_rowK (P := Try.prog) w 25 25 ty 35 2 n g 0 n n a l.length c cs 35 (flatW l) Try.underlying25 hI hcs (by rw [hn]; exact Nat.min_self _) (by rw [flatW_len, hn]) (hs a rfl) (by rw [flatW_len, hsz]; omega) (flatW_cell l)
      refine ⟨_, _, hrun, ⟨by rw [flatW_len, hn], .inr ⟨g, n, _, rfl, hg, setRow_heap w g cs _ _ _ hcs, Nat.le_refl _, hcp, ?_, ?_⟩⟩, ⟨rfl, rfl, rfl, by simp, fun k _ hk => setRow_other w g k _ (fun e => hk (by rw [e]))⟩⟩
      · simp [flatW_len, hsz]; omega
      · simp only [List.take_zero, List.nil_append, Nat.zero_add]
        have hl2 : (flatW l).length = n * 2 := by rw [flatW_len, hn]
        rw [← hl2]
        exact List.take_left

set_option maxRecDepth 100000 in
set_option maxHeartbeats 1000000 in
theorem copyWrites_any (v : Value) (l : List Wr) (w : World) (hl : l.length ≤ 1048576) (hsz : ∀ t, t < l.length → l[t]!.text.size ≤ 1048576) (hv : WrsAt w v l) :
    Calls Try.prog 53 #[v] w fun e w' => ∃ u, e = .returned u ∧ WrRow w' w.heap.size u l ∧ Below w.heap.size w w' := by
  obtain ⟨a, ca, hvv, -, -⟩ := id hv
  obtain ⟨n, HN⟩ : ∃ n, Hid (n = l.length) := ⟨_, rfl⟩
  have HSET : Hid (∀ k, k < n → (flatW l).set (k * 2 + 1) (.string l[k]!.text) = flatW l) := fun k hk => flatW_put l k (by rw [← HN.out]; exact hk)
  have HAT : Hid (∀ (wr : World) (k : Nat), k < n → wr.ownsRow w.heap.size 35 2 (.slice (some ⟨w.heap.size, 0, none⟩) n n) n (flatW l) → wr.cell? ⟨w.heap.size, k * 2 + 1, none⟩ = some (.string l[k]!.text)) := fun wr k hk h => by
    rw [h.cellAt _ (by omega), flatW_at l k (by rw [← HN.out]; exact hk) 1 (by omega)]; rfl
  have HR : Hid (∀ w' u, WrRow w' w.heap.size u l = w'.ownsRow w.heap.size 35 2 u n (flatW l)) := fun _ _ => by rw [HN.out]; rfl
  have HCP : Hid (∀ (w1 : World) (ty : TypeId), Below w.heap.size w w1 → w1.ownsRow w.heap.size 35 2 (.slice (some ⟨w.heap.size, 0, none⟩) n n) n (flatW (List.replicate n default)) → _) := fun w1 ty b h => copy_wr HN.out ty v (hv.below b) w.heap.size w.heap.size h
  rw [← HN.out] at hl hsz hvv
  subst hvv
  obtain ⟨i0, hi, hz0, hz1, hz2⟩ := info_parts Try.infoW
  clear hv
  go_enter Try.func53, Try.ntmps53
  go_wp2_with (first
    | (at_make; refine wpList_make_full _ rfl _ _ 25 rfl w.heap.size 35 i0 _ 2 Try.underlying25 hi hz0 hz1 .i64 .i64 _ _ n rfl rfl rfl rfl (by rw [hz2]; omega) (by unfold maxLen; omega) (Nat.le_refl _) ?_; intro w1 hown1 hgrow1; have hbel1 : Below w.heap.size w w1 := (Below.refl _ _).grown hgrow1 (Nat.le_refl _) (fun _ h => by cases h); have hown2 : w1.ownsRow w.heap.size 35 2 (.slice (some ⟨w.heap.size, 0, none⟩) n n) n (flatW (List.replicate n default)) := (by rw [← flatW_zero]; simpa [Value.cells] using hown1); obtain ⟨v3, w3, hrun3, hown3, hg3⟩ := HCP.out w1 3 hbel1 hown2; clear hown1 hgrow1)
    | (at_builtin; refine wpList_cp rfl (.tmp 8) (.tmp 9) 25 25 rfl _ _ rfl rfl v3 w3 hrun3 ?_))
  have hbel3 : Below w.heap.size w w3 := hbel1.grown hg3 hbel1.size (fun k h => by cases h; exact Nat.le_refl _)
  clear hrun3 hg3 hown2
  go_wp2
  go_loopw [13] (fun i wr => ∃ k : Nat, k ≤ n ∧ i = .int .i64 k ∧ wr.ownsRow w.heap.size 35 2 (.slice (some ⟨w.heap.size, 0, none⟩) n n) n (flatW l) ∧ Below w.heap.size w wr) (fun i _ => n - (intOf i).toNat)
  case atStart => exact ⟨0, Nat.zero_le _, rfl, hown3, hbel3⟩
  case round =>
    obtain ⟨k, hk, rfl, hown, hbel⟩ := hrel
    by_cases hlt : k < n
    · have hc1 := HAT.out wr k hlt hown
      have HP : Hid (∀ w2, Below wr.heap.size wr w2 → ((w2.setCell ⟨w.heap.size, k * 2 + 1, none⟩ (.string l[k]!.text)).ownsRow w.heap.size 35 2 (.slice (some ⟨w.heap.size, 0, none⟩) n n) n (flatW l)) ∧ (∃ u, w2.cell? ⟨w.heap.size, k * 2 + 1, none⟩ = some u) ∧ w2.frozen? ⟨w.heap.size, k * 2 + 1, none⟩ = false) := fun w2 b2 => by
        have h2 := own_below hown b2
        have hst := (h2.stored (k * 2 + 1) (.string l[k]!.text)).1
        rw [HSET.out k hlt] at hst
        exact ⟨hst, (rowW_cells h2 (k * 2 + 1) (by omega)).1, (rowW_cells h2 (k * 2 + 1) (by omega)).2⟩
      have HT := fun w' => clone_text l[k]!.text w' (hsz k hlt)
      generalize l[k]!.text = x at hc1 HP HT
      have hkn : (k : Int) < (n : Int) := by omega
      have hk0 : (0 : Int) ≤ (k : Int) := by omega
      clear hown
      go_wp2_with (go_at_call 63; refine (HT _).mono ?_; rintro e w2 ⟨rfl, b2⟩; obtain ⟨h2, ⟨u0, d0⟩, f0⟩ := HP.out _ b2; have HS : Hid _ := h2; clear h2)
      go_roundw
      case rel => exact ⟨k + 1, by omega, by go_num, HS.out, (hbel.trans (b2.mono hbel.size)).setCell (Nat.le_refl _) _⟩
      case measure => simp [intOf]; omega
    · obtain rfl : k = n := by omega
      go_wp2
      go_ret
      exact ⟨_, rfl, by rw [HR.out]; exact hown, hbel⟩

end Go.Proofs.Ytpmdhoiodbjojaa
