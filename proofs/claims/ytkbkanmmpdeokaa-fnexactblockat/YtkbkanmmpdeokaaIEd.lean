/- Extents, program's side: firstOf, BlockAt. -/
import Derived.Test.YtkbkanmmpdeokaaRows
import Derived.Test.YtkbkanmmpdeokaaIEc
import Derived.Test.YtkbkanmmpdeokaaSEe
import Derived.Shelf.Abstract
import Derived.Deep.Cut
namespace Go.Proofs.Ytkbkanmmpdeokaa
open Go.RowKit Go.Sort

theorem findEx_hit {d : List Ex} {p : Ex → Bool} {i : Nat} (hi : i < d.length) (h : p d[i]! = true) (hb : ∀ k, k < i → p d[k]! = false) : d.findIdx p = i := by
  rw [List.findIdx_eq hi]
  refine ⟨by rw [getElem!_pos d i hi] at h; exact h, fun j hj => ?_⟩
  have := hb j hj
  rw [getElem!_pos d j (by omega)] at this
  exact this
theorem findEx_miss {d : List Ex} {p : Ex → Bool} (hb : ∀ k, k < d.length → p d[k]! = false) : d.findIdx p = d.length := by
  rw [List.findIdx_eq_length]
  intro x hx
  obtain ⟨k, hk, rfl⟩ := List.getElem_of_mem hx
  have := hb k hk
  rw [getElem!_pos d k hk] at this
  exact this

set_option maxRecDepth 100000 in
set_option maxHeartbeats 1000000 in
theorem firstEx_any (g : Nat) (cb : Array Value) (p : Ex → Bool) (v : Value) (d : List Ex) (w : World) (hv : ExsAt w v d) (hl : d.length ≤ 1114112)
    (eg : ∀ args w, (callFunc g args).run Try.prog w = .ok (.enter g args) w)
    (hp : ∀ i, i < d.length → ∀ W, Below w.heap.size w W → Calls Try.prog g (#[.agg #[.int .i64 d[i]!.p, .int .i64 d[i]!.b, .int .i64 d[i]!.n]] ++ cb) W fun e w' => e = .returned (.bool (p d[i]!)) ∧ Below W.heap.size W w') :
    Calls Try.prog 45 #[v, .func (.func g) #[] cb] w fun e w' => e = .returned (.int .i64 (d.findIdx p : Nat)) ∧ Below w.heap.size w w' := by
  have HY : Hid (∀ i, i < d.length → p d[i]! = true → (∀ k, k < i → p d[k]! = false) → d.findIdx p = i) := fun i hi h hb => findEx_hit hi h hb
  have HN : Hid ((∀ k, k < d.length → p d[k]! = false) → d.findIdx p = d.length) := fun h => findEx_miss h
  generalize d.findIdx p = r at HY HN ⊢
  obtain ⟨a, ca, rfl, -, hva⟩ := hv
  obtain ⟨n, HL⟩ : ∃ n, Hid (n = d.length) := ⟨_, rfl⟩
  rw [← HL.out] at hva hl HY HN hp ⊢
  go_enter Try.func45, Try.ntmps45
  go_wp2
  go_loopw [9] (fun i wr => ∃ k : Nat, k ≤ n ∧ i = .int .i64 k ∧ Hid (∀ t, t < k → p d[t]! = false) ∧ Below w.heap.size w wr) (fun i _ => n - (intOf i).toNat)
  case atStart => exact ⟨0, Nat.zero_le _, rfl, fun t ht => by omega, Below.refl _ _⟩
  case round =>
    obtain ⟨k, hk, rfl, HNE, hbel⟩ := hrel
    by_cases hlt : k < n
    · obtain ⟨b1, o1, rfl, hb1, hc1⟩ := hva k hlt
      have hc1 := hc1.below hb1 hbel
      have HK : Hid (p d[k]! = true → r = k) := fun h => HY.out k hlt h HNE.out
      have HK2 : Hid (p d[k]! = false → ∀ t, t < k + 1 → p d[t]! = false) := fun h t ht => by
        by_cases e : t = k
        · rw [e]; exact h
        · exact HNE.out t (by omega)
      have hK := hp k hlt
      generalize p d[k]! = q at hK HK HK2
      generalize d[k]! = x at hc1 hK
      obtain ⟨x0, x1, x2⟩ := x
      have c0 := hc1.c0
      have c1 := hc1.c1
      have c2 := hc1.c2
      dsimp only at c0 c1 c2 hK
      have hb5 := below_lit wr (.cells #[.int .i64 x0, .int .i64 x1, .int .i64 x2] 58)
      have hbel5 := hbel.trans (hb5.mono hbel.size)
      have hcall := hK _ hbel5
      clear hc1 hva hp hK hb5
      cases q
      · go_wp2_with (go_at_fn g; refine hcall.mono ?_; rintro e w2 ⟨rfl, b2⟩)
        go_roundw
        case rel => exact ⟨k + 1, by omega, by go_num, HK2.out trivial, hbel5.trans (b2.mono hbel5.size)⟩
        case measure => simp [intOf]; omega
      · go_wp2_with (go_at_fn g; refine hcall.mono ?_; rintro e w2 ⟨rfl, b2⟩)
        go_ret
        exact ⟨ret_int (by rw [HK.out trivial]), hbel5.trans (b2.mono hbel5.size)⟩
    · obtain rfl : k = n := by omega
      have hr := HN.out HNE.out
      go_wp2
      go_ret
      exact ⟨ret_int (by rw [hr]), hbel⟩
theorem enters_ba : ∀ args w, (callFunc 46 args).run Try.prog w = .ok (.enter 46 args) w := Go.Proofs.enters_of Try.func46 (by kernel_rfl) rfl

set_option maxRecDepth 100000 in
set_option maxHeartbeats 1000000 in
theorem blockAt1_any (y : Ex) (i : Int) (B : Nat) (w : World) (h : ExOne y) (hB : B < w.heap.size) (hc0 : w.cell? ⟨B, 0, none⟩ = some (.int .i64 i)) :
    Calls Try.prog 46 #[.agg #[.int .i64 y.p, .int .i64 y.b, .int .i64 y.n], .pointer (some ⟨B, 0, none⟩)] w fun x w' => x = .returned (.bool (inB i y.p (y.p + y.n - 1))) ∧ Below w.heap.size w w' := by
  have hH := fun w' => iExHas y i w' h
  generalize inB i y.p (y.p + y.n - 1) = r at hH ⊢
  obtain ⟨y0, y1, y2⟩ := y
  dsimp only at *
  have hb := below_lit w (.cells #[.int .i64 y0, .int .i64 y1, .int .i64 y2] 58)
  obtain ⟨m0, m1, m2⟩ := ex_box w y0 y1 y2
  have c0 := (hb.cell (p := ⟨B, 0, none⟩) hB).trans hc0
  go_enter Try.func46, Try.ntmps46
  go_wp2_with fail
  refine (hH _).mono ?_
  rintro e w2 ⟨rfl, b2⟩
  go_wp2
  go_ret
  exact ⟨rfl, hb.trans (b2.mono hb.size)⟩

/-- the block of a file block, by the first extent that has it -/
theorem blockN_hit {l : List Ex} (h : ExR l) (i : Int) {t : Nat} (ht : t < l.length) (hb : inB i l[t]!.p (l[t]!.p + l[t]!.n - 1) = true) : blockN l i = l[t]!.b + i - l[t]!.p ∧ ExOne l[t]! ∧ l[t]!.p ≤ i ∧ i < 12 := by
  have hm : l[t]! ∈ l := by rw [getElem!_pos l t ht]; exact List.getElem_mem ht
  have ho := h.one _ hm
  obtain ⟨h1, h2⟩ := inB_le hb
  have ha : ExAt l i (l[t]!.b + (i - l[t]!.p)) := ⟨_, hm, h1, by omega, rfl⟩
  have hi : 0 ≤ i ∧ i < 12 := by omega
  refine ⟨?_, ho, h1, hi.2⟩
  unfold blockN
  rw [if_pos ⟨h, hi⟩]
  have := exM_some (i := i.toNat) h.g (by omega) (by rw [show ((i.toNat : Nat) : Int) = i by omega]; exact ha)
  rw [this]; omega
theorem blockN_miss {l : List Ex} (i : Int) (hb : ∀ t, t < l.length → inB i l[t]!.p (l[t]!.p + l[t]!.n - 1) = false) : blockN l i = -1 := by
  unfold blockN
  by_cases h : ExR l ∧ 0 ≤ i ∧ i < 12
  · rw [if_pos h]
    refine exM_none (by omega) fun c hc => ?_
    rw [show ((i.toNat : Nat) : Int) = i by omega] at hc
    obtain ⟨r, hr, h1, h2, h3⟩ := hc
    obtain ⟨t, ht, rfl⟩ := List.getElem_of_mem hr
    have := hb t ht
    rw [getElem!_pos l t ht, inB_mk h1 (by omega)] at this
    cases this
  · rw [if_neg h]
theorem blockN_bad {l : List Ex} (h : ¬ ExR l) (i : Int) : blockN l i = -1 := by
  unfold blockN
  rw [if_neg fun hh => h hh.1]

set_option maxRecDepth 100000 in
set_option maxHeartbeats 2000000 in
theorem iBlockAt (v : Value) (l : List Ex) (i : Int) (w : World) (hl : l.length ≤ 1048576) (hv : ExsAt w v l) :
    Calls Try.prog 14 #[v, .int .i64 i] w fun e w' => e = .returned (.int .i64 (blockN l i)) ∧ Below w.heap.size w w' := by
  have HK := fun w' (b : Below w.heap.size w w') => iExtsOk v l w' hl (hv.below b)
  have hb0 := below_lit w (.cells #[.int .i64 i] 3)
  have hi0 : (w.alloc (.cells #[.int .i64 i] 3)).cell? ⟨w.heap.size, 0, none⟩ = some (.int .i64 i) := by rw [World.cell?_alloc_mark]; rfl
  have hsz : w.heap.size < (w.alloc (.cells #[.int .i64 i] 3)).heap.size := by simp
  have HK := HK _ hb0
  by_cases h : ExR l
  · rw [okE_yes h] at HK
    obtain ⟨p, HP⟩ : ∃ p : Ex → Bool, Hid (p = fun x => inB i x.p (x.p + x.n - 1)) := ⟨_, rfl⟩
    have HH : Hid (∀ t, t < l.length → p l[t]! = true → blockN l i = l[t]!.b + i - l[t]!.p ∧ ExOne l[t]! ∧ l[t]!.p ≤ i ∧ i < 12) := fun t ht e => blockN_hit h i ht (by rw [HP.out] at e; exact e)
    have HM : Hid ((∀ t, t < l.length → p l[t]! = false) → blockN l i = -1) := fun e => blockN_miss i fun t ht => by have := e t ht; rw [HP.out] at this; exact this
    have HF := fun w' (b : Below w.heap.size w w') (hc : w'.cell? ⟨w.heap.size, 0, none⟩ = some (.int .i64 i)) (hs : w.heap.size < w'.heap.size) =>
      firstEx_any 46 #[.pointer (some ⟨w.heap.size, 0, none⟩)] p v l w' (hv.below b) (by omega) enters_ba fun t ht W bW => by
        rw [HP.out]
        exact blockAt1_any l[t]! i w.heap.size W (h.one _ (by rw [getElem!_pos l t ht]; exact List.getElem_mem ht)) (Nat.lt_of_lt_of_le hs bW.size) ((bW.cell (p := ⟨w.heap.size, 0, none⟩) hs).trans hc)
    have HFI : Hid (l.findIdx p < l.length → p l[l.findIdx p]! = true) := fun e => by rw [getElem!_pos l _ e]; exact List.findIdx_getElem
    have HFM : Hid (l.findIdx p = l.length → ∀ t, t < l.length → p l[t]! = false) := fun e t ht => by
      have := List.not_of_lt_findIdx (p := p) (xs := l) (i := t) (by omega)
      rw [getElem!_pos l t ht]; simpa using this
    have hle : l.findIdx p ≤ l.length := List.findIdx_le_length
    generalize l.findIdx p = r at *
    generalize blockN l i = q at *
    have hva := hv
    obtain ⟨a, ca, rfl, -, hva⟩ := hva
    obtain ⟨n, HL⟩ : ∃ n, Hid (n = l.length) := ⟨_, rfl⟩
    rw [← HL.out] at hva HK HF HFI HFM HH HM hle hl ⊢
    clear hv
    go_enter Try.func14, Try.ntmps14
    go_wp2_with fail
    refine HK.mono ?_
    rintro e w1 ⟨rfl, b1⟩
    have B1 := hb0.trans (b1.mono hb0.size)
    have hc1 := (b1.cell (p := ⟨w.heap.size, 0, none⟩) hsz).trans hi0
    have hs1 := Nat.lt_of_lt_of_le hsz b1.size
    go_wp2_with fail
    refine (HF w1 B1 hc1 hs1).mono ?_
    rintro e w2 ⟨rfl, b2⟩
    have B2 := B1.trans (b2.mono B1.size)
    have hc2 := (b2.cell (p := ⟨w.heap.size, 0, none⟩) hs1).trans hc1
    clear HF HK hi0 hc1
    by_cases hr : r = n
    · subst hr
      have hq : Hid (q = -1) := HM.out (HFM.out rfl)
      have hrr : ((r : Int) == (r : Int)) = true := by simp
      go_wp2
      go_ret
      exact ⟨ret_int hq.out.symm, B2⟩
    · have hrn : r < n := by omega
      obtain ⟨e1, e2, e3, e4⟩ := HH.out r hrn (HFI.out hrn)
      have HQ : Hid (q = l[r]!.b + i - l[r]!.p) := e1
      have hne : ((r : Int) == (n : Int)) = false := by rw [beq_eq_false_iff_ne]; omega
      have hrz : (r : Int) < (n : Int) := by omega
      have hr0 : (0 : Int) ≤ (r : Int) := by omega
      obtain ⟨b1', o1, rfl, hb1', hcx⟩ := hva r hrn
      obtain ⟨c0, c1, c2⟩ := hcx.below hb1' B2
      obtain ⟨o2, o3, o4, o5, o6⟩ := e2
      clear hva hcx HFI HFM HM HH e1
      generalize l[r]! = x at *
      obtain ⟨x0, x1, x2⟩ := x
      dsimp only at *
      have v1 : IntKind.i64.wrap (x1 + i) = x1 + i := by rw [IntKind.wrap_i64]; omega
      have v2 : IntKind.i64.wrap (x1 + i - x0) = x1 + i - x0 := by rw [IntKind.wrap_i64]; omega
      go_wp2
      go_quiet (fail)
      go_wp2
      go_ret
      exact ⟨ret_int HQ.out.symm, B2.trans ⟨rfl, rfl, rfl, Nat.le_refl _, fun _ _ => rfl⟩⟩
  · rw [okE_no h] at HK
    have HB : Hid (blockN l i = -1) := blockN_bad h i
    generalize blockN l i = r at HB ⊢
    go_enter Try.func14, Try.ntmps14
    go_wp2_with fail
    refine HK.mono ?_
    rintro e w1 ⟨rfl, b1⟩
    go_wp2
    go_ret
    exact ⟨ret_int HB.out.symm, hb0.trans (b1.mono hb0.size)⟩
end Go.Proofs.Ytkbkanmmpdeokaa
