/- Directories: impl.DirOk: what it answers. Directories: impl.Look, Next: what they answer. Directories: impl.Drop, Respell: what they answer. Directories: impl.Add: what it answers. -/
import Derived.Test.YtchcdgkpaipkgaaGreatDoorRows
import Derived.Test.YtchcdgkpaipkgaaGreatDoorMv
import Derived.Test.YtchcdgkpaipkgaaGreatDoorMu
import Derived.Test.YtchcdgkpaipkgaaGreatDoorMs
import Derived.Deep.RegionLaw
namespace Go.Proofs.YtchcdgkpaipkgaaGreatDoor

section
open Go.RowKit Go.Sort

def keysL (d : List En) : List ByteArray := d.map fun e => (keyN e.name).1
theorem keys_len (d : List En) : (keysL d).length = d.length := by simp [keysL]
theorem keys_snoc {d : List En} {k : Nat} (hk : k < d.length) : keysL (d.take (k + 1)) = keysL (d.take k) ++ [(keyN d[k]!.name).1] := by
  unfold keysL
  rw [List.take_succ_eq_append_getElem hk, List.map_append, getElem!_pos d k hk]; rfl
/-- a key is there already just where a name ahead is one with this one -/
theorem has_iff {d : List En} {k : Nat} (hk : k < d.length) (hr : RightP (d.take k)) (ho : (keyN d[k]!.name).2 = true) :
    hasK (keysL (d.take k)) (keyN d[k]!.name).1 = true ↔ ∃ t, t < k ∧ alikeB d[t]!.name d[k]!.name = true := by
  have hl : (d.take k).length = k := by rw [List.length_take]; omega
  have hok : ∀ t, t < k → (keyN d[t]!.name).2 = true := fun t ht => by
    have h1 := hr.each d[t]! (by rw [getElem!_pos d t (by omega), List.mem_take_iff_getElem]; exact ⟨t, by omega, rfl⟩)
    rw [entB_key] at h1
    exact (Bool.and_eq_true .. ▸ h1).1
  unfold hasK keysL
  rw [List.any_map, List.any_eq_true]
  constructor
  · rintro ⟨e, he, h⟩
    obtain ⟨t, ht, rfl⟩ := List.mem_take_iff_getElem.1 he
    refine ⟨t, by omega, ?_⟩
    unfold alikeB
    rw [hok t (by omega), ho, getElem!_pos d t (by omega)]
    simp only [Function.comp, beq_iff_eq] at h
    rw [h]; simp
  · rintro ⟨t, ht, h⟩
    refine ⟨d[t]!, by rw [getElem!_pos d t (by omega), List.mem_take_iff_getElem]; exact ⟨t, by omega, rfl⟩, ?_⟩
    unfold alikeB at h
    rw [hok t ht, ho] at h
    simp only [Bool.and_true, Bool.true_and, beq_iff_eq] at h
    show ((keyN d[k]!.name).1.toList == (keyN d[t]!.name).1.toList) = true
    rw [h]; simp

set_option maxRecDepth 100000 in
set_option maxHeartbeats 4000000 in
theorem iDirOk (v : Value) (d : List En) (w : World) (hT : Tabs w) (hC : CrcTab w) (hv : EntsAt w v d) (hd : Shorts d) :
    Calls Tryz.prog 55 #[v] w fun e w' => e = .returned (.bool (dirB d)) ∧ Below w.heap.size w w' := by
  obtain ⟨a, ca, rfl, -, hva⟩ := hv
  have HAT : Hid (dirB d = true → ∀ k, k < d.length → entB d[k]! = true ∧ (k = 0 ∨ lessB d[k - 1]! d[k]!.hash d[k]!.index = true) ∧ (∀ t, t < k → alikeB d[t]!.name d[k]!.name = false)) := fun h k hk => dirB_at h hk
  have HLN : Hid (dirB d = true → d.length ≤ 12) := fun h => (dirB_iff.1 h).len
  have HTR : Hid (d.length ≤ 12 → RightP (d.take d.length) → dirB d = true) := fun h1 h2 => by
    rw [List.take_length] at h2; exact dirB_iff.2 ⟨h2, h1⟩
  have HST : Hid (∀ k, k < d.length → RightP (d.take k) → entB d[k]! = true → (k = 0 ∨ lessB d[k - 1]! d[k]!.hash d[k]!.index = true) → (∀ t, t < k → alikeB d[t]!.name d[k]!.name = false) → RightP (d.take (k + 1))) := fun k hk h1 h2 h3 h4 => (right_take hk).2 ⟨h1, h2, h3, h4⟩
  have HKS : Hid (∀ k, k < d.length → keysL (d.take (k + 1)) = keysL (d.take k) ++ [(keyN d[k]!.name).1]) := fun k hk => keys_snoc hk
  have HHI : Hid (∀ k, k < d.length → RightP (d.take k) → (keyN d[k]!.name).2 = true → (hasK (keysL (d.take k)) (keyN d[k]!.name).1 = true ↔ ∃ t, t < k ∧ alikeB d[t]!.name d[k]!.name = true)) := fun k hk h1 h2 => has_iff hk h1 h2
  have HKL : Hid (∀ k, (keysL (d.take k)).length ≤ d.length) := fun k => by rw [keys_len, List.length_take]; exact Nat.min_le_right _ _
  generalize dirB d = r at HAT HLN HTR ⊢
  have hS := fun i (hi : i < d.length) => hd.at hi
  obtain ⟨n, HL⟩ : ∃ n, Hid (n = d.length) := ⟨_, rfl⟩
  rw [← HL.out] at hva HAT HLN HTR HST HKS HHI HKL hS ⊢
  clear hd
  have HTT : Hid (Tabs w) := hT
  have HCC : Hid (CrcTab w) := hC
  clear hT hC
  by_cases hn : n ≤ 12
  · have hn' : ¬ (12 < (n : Int)) := by omega
    obtain ⟨i0, hi0, hz0, hz1, hz2⟩ := info_parts Tryz.infoS
    go_enter Tryz.func55, Tryz.ntmps55
    go_wp2_with (at_make; refine wpList_make_own _ rfl _ _ 25 rfl w.heap.size 9 i0 _ 1 Tryz.underlying25 hi0 hz0 hz1 .i64 .i64 _ n rfl rfl rfl (by rw [hz2]; omega) (by unfold maxLen; omega) (Nat.le_refl _) ?_; intro w1 hown1 hgrow1)
    have hbel1 : Below w.heap.size w w1 := (Below.refl _ _).grown hgrow1 (Nat.le_refl _) (fun _ h => by cases h)
    have hrow1 : StrRow w1 w.heap.size (.slice (some ⟨w.heap.size, 0, none⟩) 0 n) (keysL (d.take 0)) := by
      rw [List.take_zero]; exact hown1
    have HRW : Hid _ := hrow1
    clear hown1 hgrow1 hrow1 hi0 hz0 hz1 hz2
    go_wp2
    go_loopw [3, 16] (fun ks i wr => ∃ k : Nat, k ≤ n ∧ i = .int .i64 k ∧ Hid (RightP (d.take k)) ∧ Hid (StrRow wr w.heap.size ks (keysL (d.take k))) ∧ Below w.heap.size w wr) (fun _ i _ => n - (intOf i).toNat)
    case atStart => exact ⟨0, Nat.zero_le _, rfl, by show RightP _; rw [List.take_zero]; exact RightP.nil, HRW, hbel1⟩
    case round =>
      clear hbel1 HRW
      obtain ⟨k, hk, rfl, HRT, HKR, hbel⟩ := hrel
      by_cases hlt : k < n
      · obtain ⟨b1, o1, rfl, hb1, hc1⟩ := hva k hlt
        have hc1 := hc1.below hb1 hbel
        obtain ⟨m, HM⟩ : ∃ m, Hid (m = k - 1) := ⟨_, rfl⟩
        obtain ⟨b3, o3, e3, hb3, hc3⟩ := hva m (by have := HM.out; omega)
        cases e3
        have hc3 := hc3.below hb1 hbel
        have hnm := hS k hlt
        have HF : Hid (¬ (entB d[k]! = true ∧ (k = 0 ∨ lessB d[m]! d[k]!.hash d[k]!.index = true)) → r = false) := fun h => by
          cases hr : r
          · rfl
          · have := HAT.out hr k hlt
            rw [← HM.out] at this
            exact absurd ⟨this.1, this.2.1⟩ h
        have HA : Hid ((keyN d[k]!.name).2 = true → hasK (keysL (d.take k)) (keyN d[k]!.name).1 = true → r = false) := fun h0 h => by
          cases hr : r
          · rfl
          · obtain ⟨t, ht, h2⟩ := (HHI.out k hlt HRT.out h0).1 h
            have := (HAT.out hr k hlt).2.2 t ht
            rw [h2] at this; cases this
        have HG : Hid ((keyN d[k]!.name).2 = true → hasK (keysL (d.take k)) (keyN d[k]!.name).1 = false → (entB d[k]! = true ∧ (k = 0 ∨ lessB d[m]! d[k]!.hash d[k]!.index = true)) → RightP (d.take (k + 1))) := fun h0 h4 h => HST.out k hlt HRT.out h.1 (by rw [← HM.out]; exact h.2) (fun t ht => by
          cases ha : alikeB d[t]!.name d[k]!.name
          · rfl
          · rw [(HHI.out k hlt HRT.out h0).2 ⟨t, ht, ha⟩] at h4; cases h4)
        have HKN := HKS.out k hlt
        have HKN : Hid (keysL (d.take (k + 1)) = keysL (d.take k) ++ [(keyN d[k]!.name).1]) := HKN
        have HLK : Hid ((keysL (d.take k)).length ≤ n) := HKL.out k
        have HKZ := keyN_size d[k]!.name
        rw [entB_key] at HF HG
        generalize d[k]! = x at hc1 HF HA HG hnm HKN HKZ
        generalize d[m]! = y at hc3 HF HG
        obtain ⟨hh, ix, nm, id⟩ := x
        obtain ⟨y0, y1, y2, y3⟩ := y
        dsimp only at HKZ
        have c0 := hc1.c0
        have c1 := hc1.c1
        have c2 := hc1.c2
        have c3 := hc1.c3
        dsimp only at c0 c1 c2 c3 HF HA HG hnm HKN
        have hb5 := below_lit wr (.cells #[.int .i64 hh, .int .i64 ix, .string nm, .int .i64 id] 66)
        have hc5 := hc3.below (Nat.lt_of_lt_of_le hb1 hbel.size) hb5
        have hcg := new_cells wr hh ix nm id
        have hg5 : wr.heap.size < (wr.alloc (.cells #[.int .i64 hh, .int .i64 ix, .string nm, .int .i64 id] 66)).heap.size := by simp
        have hbel5 := hbel.trans (hb5.mono hbel.size)
        have HKR5 : Hid (StrRow _ w.heap.size u3 (keysL (d.take k))) := HKR.out.below hb5
        obtain ⟨w5, HW5⟩ : ∃ w5, Hid (w5 = wr.alloc (.cells #[.int .i64 hh, .int .i64 ix, .string nm, .int .i64 id] 66)) := ⟨_, rfl⟩
        rw [← HW5.out] at hbel5 hcg hc5 hg5 HKR5
        have hq2 := hcg.c2
        dsimp only [Nat.zero_add] at hq2
        have HKY := iKeyOf nm w5 (HTT.out.below hbel5) hnm
        have HEO := fun w' (hb : Below w5.heap.size w5 w') => entOk_any ⟨hh, ix, nm, id⟩ (keyN nm).1 w' ((HCC.out.below hbel5).below hb) HKZ
        have HCO := fun w' (hb : Below w5.heap.size w5 w') => containsS_any w.heap.size u3 (keysL (d.take k)) (keyN nm).1 w' (HKR5.out.below hb) (by have := HLK.out; omega)
        dsimp only at HEO
        generalize (keyN nm).1 = key at HF HA HG HKY HEO HCO HKN
        generalize (keyN nm).2 = ok at HF HA HG HKY
        generalize entK ⟨hh, ix, nm, id⟩ key = eo at HF HG HEO
        generalize hasK (keysL (d.take k)) key = co at HA HG HCO
        cases ok
        · have hr : r = false := HF.out (by simp)
          subst hr
          clear HF HA HG HAT HST HTR HLN hva HKS HHI HKL
          go_wp2_with fail
          rw [← HW5.out]
          refine HKY.mono ?_
          rintro e w6 ⟨rfl, b6⟩
          have b7 := hbel5.trans (b6.mono hbel5.size)
          go_wp2
          go_ret
          exact ⟨rfl, b7⟩
        · cases eo
          · have hr : r = false := HF.out (by simp)
            subst hr
            clear HF HA HG HAT HST HTR HLN hva HKS HHI HKL
            go_wp2_with fail
            rw [← HW5.out]
            refine HKY.mono ?_
            rintro e w6 ⟨rfl, b6⟩
            have hc6 := hcg.below hg5 b6
            have e0 := hc6.c0
            have e1 := hc6.c1
            have e2 := hc6.c2
            have e3 := hc6.c3
            dsimp only [Nat.zero_add] at e0 e1 e2 e3
            go_wp2_with fail
            refine (HEO w6 b6).mono ?_
            rintro e w7 ⟨rfl, b7⟩
            have b7 := b6.trans (b7.mono b6.size)
            clear e0 e1 e2 e3 hc6
            have b8 := hbel5.trans (b7.mono hbel5.size)
            go_wp2
            go_ret
            exact ⟨rfl, b8⟩
          · cases co
            · have HF2 : Hid (¬ (k = 0 ∨ lessB ⟨y0, y1, y2, y3⟩ hh ix = true) → r = false) := fun h => HF.out (by simpa using h)
              have HG2 : Hid ((k = 0 ∨ lessB ⟨y0, y1, y2, y3⟩ hh ix = true) → RightP (d.take (k + 1))) := fun h => HG.out rfl rfl ⟨rfl, h⟩
              have zm : 0 < k → IntKind.i64.wrap ((k : Int) - 1) = (m : Int) := fun h => by rw [IntKind.wrap_i64, HM.out]; omega
              have hkn : (k : Int) < (n : Int) := by omega
              have jm : (m : Int) < (n : Int) := by have := HM.out; omega
              have jm0 : (0 : Int) ≤ (m : Int) := by omega
              clear HF HG HA HAT HST HTR HLN hva HKS HHI HKL
              go_wp2_with fail
              rw [← HW5.out]
              refine HKY.mono ?_
              rintro e w6 ⟨rfl, b6⟩
              have hc6 := hcg.below hg5 b6
              have e0 := hc6.c0
              have e1 := hc6.c1
              have e2 := hc6.c2
              have e3 := hc6.c3
              dsimp only [Nat.zero_add] at e0 e1 e2 e3
              go_wp2_with fail
              refine (HEO w6 b6).mono ?_
              rintro e w7 ⟨rfl, b7⟩
              have b7 := b6.trans (b7.mono b6.size)
              clear e0 e1 e2 e3 hc6
              go_wp2_with fail
              refine (HCO w7 b7).mono ?_
              rintro e w7 ⟨rfl, rfl⟩
              have hc7 := hcg.below hg5 b7
              have hd7 := hc5.below (Nat.lt_of_lt_of_le hb1 hbel5.size) b7
              have q0 := cell_regrown hc7.c0
              have q1 := cell_regrown hc7.c1
              have q2 := cell_regrown hc7.c2
              have q3 := cell_regrown hc7.c3
              have p0 := cell_regrown hd7.c0
              have p1 := cell_regrown hd7.c1
              have p2 := cell_regrown hd7.c2
              have p3 := cell_regrown hd7.c3
              dsimp only [Nat.zero_add] at q0 q1 q2 q3 p0 p1 p2 p3
              have hPX := fun dd os => plI_any ⟨hh, ix, nm, id⟩ w7 dd os
              have hPY := fun dd os => plI_any ⟨y0, y1, y2, y3⟩ w7 dd os
              have hAH := fun dd os => ahI_any y0 y1 hh ix w7 dd os
              have HAL : Hid (aheadB y0 y1 hh ix = lessB ⟨y0, y1, y2, y3⟩ hh ix) := rfl
              rw [HAL.out] at hAH
              dsimp only at hPX hPY
              clear hc7 hd7 HKY HEO HCO HAL
              generalize lessB ⟨y0, y1, y2, y3⟩ hh ix = bL at hAH HF2 HG2
              by_cases hk0 : k = 0
              · clear zm
                have HOK : Hid (RightP (d.take (k + 1))) := HG2.out (.inl hk0)
                have hd0 : decide (0 < k) = false := decide_eq_false (by omega)
                clear hk0 HF2 HG2
                go_wp2
                refine wp_region_quiet_below (by kernel_rfl) (by kernel_rfl) ?_
                repeat (go_big_quiet_step (first | with_reducible exact hPX _ _ | with_reducible exact hPY _ _ | with_reducible exact hAH _ _))
                refine wpQuiet_nil ?_
                rintro w' ⟨⟨dq, osq⟩, rfl⟩
                have hbq := below_regrown w7 dq osq
                generalize grow (redrawn w7 dq) osq = w8 at hbq ⊢
                have b8 := b7.trans (hbq.mono b7.size)
                have hbel8 : Below w.heap.size w w8 := hbel5.trans (b8.mono hbel5.size)
                have HR8 : Hid (StrRow w8 w.heap.size u3 (keysL (d.take k))) := HKR5.out.below b8
                have hb9 := below_lit w8 (.cells #[.string key] 9)
                have hc9 : (w8.alloc (.cells #[.string key] 9)).cell? ⟨w8.heap.size, 0, none⟩ = some (.string key) := by rw [World.cell?_alloc_mark]; rfl
                have HR9 : Hid (StrRow (w8.alloc (.cells #[.string key] 9)) w.heap.size u3 (keysL (d.take k))) := HR8.out.below hb9
                have hbel9 := hbel8.trans (hb9.mono hbel8.size)
                clear p0 p1 p2 p3 q0 q1 q2 q3 hPX hPY hAH HR8 hb9 hbq
                go_wp2_with (at_builtin; refine append_str _ rfl (.tmp 54) (.tmp 56) rfl w.heap.size _ ⟨w8.heap.size, 0, none⟩ 1 (keysL (d.take k)) key (by have := HLK.out; omega) HR9.out hc9 rfl rfl hbel9.size ?_; intro v' w10 hrow10 hbel10; have HR10 : Hid _ := hrow10; clear hrow10)
                go_roundw
                case rel => exact ⟨k + 1, by omega, by go_num, HOK, by show StrRow _ _ _ _; rw [HKN.out]; exact HR10.out, hbel9.trans hbel10⟩
                case measure => simp [intOf]; omega
              · have zz := zm (by omega)
                have hd0 : decide (0 < k) = true := decide_eq_true (by omega)
                cases bL
                · have hr : r = false := HF2.out (by simp [hk0])
                  subst hr
                  clear hk0 HF2 HG2 zm
                  go_wp2
                  refine wp_region_quiet_below (by kernel_rfl) (by kernel_rfl) ?_
                  repeat (go_big_quiet_step (first | with_reducible exact hPX _ _ | with_reducible exact hPY _ _ | with_reducible exact hAH _ _))
                  refine wpQuiet_nil ?_
                  rintro w' ⟨⟨dq, osq⟩, rfl⟩
                  have hbq := below_regrown w7 dq osq
                  generalize grow (redrawn w7 dq) osq = w8 at hbq ⊢
                  have b8 := b7.trans (hbq.mono b7.size)
                  have hbel8 : Below w.heap.size w w8 := hbel5.trans (b8.mono hbel5.size)
                  go_wp2
                  go_ret
                  exact ⟨rfl, hbel8⟩
                · have HOK : Hid (RightP (d.take (k + 1))) := HG2.out (.inr rfl)
                  clear hk0 HF2 HG2 zm
                  go_wp2
                  refine wp_region_quiet_below (by kernel_rfl) (by kernel_rfl) ?_
                  repeat (go_big_quiet_step (first | with_reducible exact hPX _ _ | with_reducible exact hPY _ _ | with_reducible exact hAH _ _))
                  refine wpQuiet_nil ?_
                  rintro w' ⟨⟨dq, osq⟩, rfl⟩
                  have hbq := below_regrown w7 dq osq
                  generalize grow (redrawn w7 dq) osq = w8 at hbq ⊢
                  have b8 := b7.trans (hbq.mono b7.size)
                  have hbel8 : Below w.heap.size w w8 := hbel5.trans (b8.mono hbel5.size)
                  have HR8 : Hid (StrRow w8 w.heap.size u3 (keysL (d.take k))) := HKR5.out.below b8
                  have hb9 := below_lit w8 (.cells #[.string key] 9)
                  have hc9 : (w8.alloc (.cells #[.string key] 9)).cell? ⟨w8.heap.size, 0, none⟩ = some (.string key) := by rw [World.cell?_alloc_mark]; rfl
                  have HR9 : Hid (StrRow (w8.alloc (.cells #[.string key] 9)) w.heap.size u3 (keysL (d.take k))) := HR8.out.below hb9
                  have hbel9 := hbel8.trans (hb9.mono hbel8.size)
                  clear p0 p1 p2 p3 q0 q1 q2 q3 hPX hPY hAH HR8 hb9 hbq
                  go_wp2_with (at_builtin; refine append_str _ rfl (.tmp 54) (.tmp 56) rfl w.heap.size _ ⟨w8.heap.size, 0, none⟩ 1 (keysL (d.take k)) key (by have := HLK.out; omega) HR9.out hc9 rfl rfl hbel9.size ?_; intro v' w10 hrow10 hbel10; have HR10 : Hid _ := hrow10; clear hrow10)
                  go_roundw
                  case rel => exact ⟨k + 1, by omega, by go_num, HOK, by show StrRow _ _ _ _; rw [HKN.out]; exact HR10.out, hbel9.trans hbel10⟩
                  case measure => simp [intOf]; omega
            · have hr : r = false := HA.out rfl rfl
              subst hr
              clear HF HA HG HAT HST HTR HLN hva HKS HHI HKL
              go_wp2_with fail
              rw [← HW5.out]
              refine HKY.mono ?_
              rintro e w6 ⟨rfl, b6⟩
              have hc6 := hcg.below hg5 b6
              have e0 := hc6.c0
              have e1 := hc6.c1
              have e2 := hc6.c2
              have e3 := hc6.c3
              dsimp only [Nat.zero_add] at e0 e1 e2 e3
              go_wp2_with fail
              refine (HEO w6 b6).mono ?_
              rintro e w7 ⟨rfl, b7⟩
              have b7 := b6.trans (b7.mono b6.size)
              clear e0 e1 e2 e3 hc6
              go_wp2_with fail
              refine (HCO w7 b7).mono ?_
              rintro e w7 ⟨rfl, rfl⟩
              have b8 := hbel5.trans (b7.mono hbel5.size)
              go_wp2
              go_ret
              exact ⟨rfl, b8⟩
      · obtain rfl : k = n := by omega
        have hr := HTR.out hn HRT.out
        subst hr
        clear HAT HST HTR HLN hva HKS HHI HKL
        go_wp2
        go_ret
        exact ⟨rfl, hbel⟩
  · have hn' : 12 < (n : Int) := by omega
    have hr : r = false := by
      cases h : r
      · rfl
      · exact absurd (HLN.out h) hn
    subst hr
    clear HAT HST HTR HLN hva HKS HHI HKL
    go_enter Tryz.func55, Tryz.ntmps55
    go_wp2
    go_ret
    exact ⟨rfl, Below.refl _ _⟩
end

section
open Go.RowKit

theorem atE_le (d : List En) (s : ByteArray) : atE d s ≤ d.length := List.findIdx_le_length
theorem atE_some {d : List En} (hr : RightP d) {s : ByteArray} {i : Nat} (h : atN d s = some i) : atE d s = i := by rw [atE_right hr, h]; rfl
theorem atE_none {d : List En} (hr : RightP d) {s : ByteArray} (h : atN d s = none) : atE d s = d.length := by rw [atE_right hr, h]; rfl
theorem lookN_at {d : List En} (hr : dirB d = true) (s : ByteArray) : lookN d s = (if atE d s < d.length then d[atE d s]! else default, decide (atE d s < d.length)) := by
  have hR := dirB_iff.1 hr
  unfold lookN
  rw [if_pos hr]
  cases ha : atN d s with
  | none => rw [atE_none hR.toRightP ha]; simp
  | some i =>
    obtain ⟨hi, -⟩ := atN_is ha
    rw [atE_some hR.toRightP ha]; simp [hi]
theorem nextN_idx {d : List En} (hr : dirB d = true) (h k : Int) : nextN d h k = (if d.findIdx (fun e => behB e h k) < d.length then d[d.findIdx (fun e => behB e h k)]! else default, decide (d.findIdx (fun e => behB e h k) < d.length)) := by
  unfold nextN
  rw [if_pos hr]
  by_cases hi : d.findIdx (fun e => behB e h k) < d.length
  · have e1 : ∀ j, j < d.findIdx (fun e => behB e h k) → behB d[j]! h k = false := fun j hj => by
      have := List.not_of_lt_findIdx hj
      rw [getElem!_pos d j (by omega)]; simpa using this
    have e2 : behB d[d.findIdx (fun e => behB e h k)]! h k = true := by
      rw [getElem!_pos d _ hi]; exact List.findIdx_getElem (w := hi)
    rw [find_at hi e1 e2]
    simp [hi]
  · have h1 : d.findIdx (fun e => behB e h k) = d.length := by
      have := List.findIdx_le_length (xs := d) (p := fun e => behB e h k); omega
    rw [List.findIdx_eq_length] at h1
    have e1 : ∀ j, j < d.length → behB d[j]! h k = false := fun j hj => by
      rw [getElem!_pos d j hj]; exact h1 _ (List.getElem_mem hj)
    rw [find_no e1]
    simp [hi]
end

section
open Go.RowKit
end

section
open Go.RowKit

/-- the place where the program puts a new entry is the one where it belongs -/
theorem insN_at {d : List En} {e : En} (hf : ∀ x ∈ d, x.hash = e.hash → x.index ≠ e.index) : insN d e = d.take (d.findIdx fun x => behB x e.hash e.index) ++ e :: d.drop (d.findIdx fun x => behB x e.hash e.index) := by
  have h1 : d.findIdx (fun x => behB x e.hash e.index) = d.findIdx (fun x => !lessB x e.hash e.index) := findIdx_cong fun x hx => by
    have h2 := hf x hx
    rw [Bool.eq_iff_iff, behB_iff, Bool.not_eq_true', lessB_not]
    omega
  unfold insN
  rw [h1, List.takeWhile_eq_take_findIdx_not, List.dropWhile_eq_drop_findIdx_not]
end

end Go.Proofs.YtchcdgkpaipkgaaGreatDoor
