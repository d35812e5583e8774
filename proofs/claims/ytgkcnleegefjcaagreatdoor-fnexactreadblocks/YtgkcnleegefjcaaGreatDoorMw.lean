/- Directories: impl.DirOk: what it answers. Directories: impl.Look, Next: what they answer. Directories: impl.Drop, Respell: what they answer. Directories: impl.Add: what it answers. -/
import Derived.Test.YtgkcnleegefjcaaGreatDoorRows
import Derived.Test.YtgkcnleegefjcaaGreatDoorMv
import Derived.Test.YtgkcnleegefjcaaGreatDoorMu
import Derived.Test.YtgkcnleegefjcaaGreatDoorMs
import Derived.Deep.RegionLaw
namespace Go.Proofs.YtgkcnleegefjcaaGreatDoor

section
open Go.RowKit Go.Sort

def keysL (d : List En) : List ByteArray := d.map fun e => (keyN e.name).1
theorem keys_len (d : List En) : (keysL d).length = d.length := by simp [keysL]
theorem keys_snoc {d : List En} {k : Nat} (hk : k < d.length) : keysL (d.take (k + 1)) = keysL (d.take k) ++ [(keyN d[k]!.name).1] := by
  unfold keysL
  rw [List.take_succ_eq_append_getElem hk, List.map_append, getElem!_pos d k hk]; rfl
/-- a key is there already just where a name ahead is one with this one -/
theorem has_iff {d : List En} {k : Nat} (hk : k < d.length) (hr : RightP (d.take k)) (ho : (keyN d[k]!.name).2 = true) :
    hasK (keysL (d.take k)) (keyN d[k]!.name).1 = true ↔ ∃ t, t < k ∧ alikeB d[t]!.name d[k]!.name = true := by
  have hl : (d.take k).length = k := by rw [List.length_take]; omega
  have hok : ∀ t, t < k → (keyN d[t]!.name).2 = true := fun t ht => by
    have h1 := hr.each d[t]! (by rw [getElem!_pos d t (by omega), List.mem_take_iff_getElem]; exact ⟨t, by omega, rfl⟩)
    rw [entB_key] at h1
    exact (Bool.and_eq_true .. ▸ h1).1
  unfold hasK keysL
  rw [List.any_map, List.any_eq_true]
  constructor
  · rintro ⟨e, he, h⟩
    obtain ⟨t, ht, rfl⟩ := List.mem_take_iff_getElem.1 he
    refine ⟨t, by omega, ?_⟩
    unfold alikeB
    rw [hok t (by omega), ho, getElem!_pos d t (by omega)]
    simp only [Function.comp, beq_iff_eq] at h
    rw [h]; simp
  · rintro ⟨t, ht, h⟩
    refine ⟨d[t]!, by rw [getElem!_pos d t (by omega), List.mem_take_iff_getElem]; exact ⟨t, by omega, rfl⟩, ?_⟩
    unfold alikeB at h
    rw [hok t ht, ho] at h
    simp only [Bool.and_true, Bool.true_and, beq_iff_eq] at h
    show ((keyN d[k]!.name).1.toList == (keyN d[t]!.name).1.toList) = true
    rw [h]; simp

set_option maxRecDepth 100000 in
set_option maxHeartbeats 4000000 in
theorem iDirOk (v : Value) (d : List En) (w : World) (hT : Tabs w) (hC : CrcTab w) (hv : EntsAt w v d) (hd : Shorts d) :
    Calls Tryz.prog 101 #[v] w fun e w' => e = .returned (.bool (dirB d)) ∧ Below w.heap.size w w' := by
  obtain ⟨a, ca, rfl, -, hva⟩ := hv
  have HAT : Hid (dirB d = true → ∀ k, k < d.length → entB d[k]! = true ∧ (k = 0 ∨ lessB d[k - 1]! d[k]!.hash d[k]!.index = true) ∧ (∀ t, t < k → alikeB d[t]!.name d[k]!.name = false)) := fun h k hk => dirB_at h hk
  have HLN : Hid (dirB d = true → d.length ≤ 12) := fun h => (dirB_iff.1 h).len
  have HTR : Hid (d.length ≤ 12 → RightP (d.take d.length) → dirB d = true) := fun h1 h2 => by
    rw [List.take_length] at h2; exact dirB_iff.2 ⟨h2, h1⟩
  have HST : Hid (∀ k, k < d.length → RightP (d.take k) → entB d[k]! = true → (k = 0 ∨ lessB d[k - 1]! d[k]!.hash d[k]!.index = true) → (∀ t, t < k → alikeB d[t]!.name d[k]!.name = false) → RightP (d.take (k + 1))) := fun k hk h1 h2 h3 h4 => (right_take hk).2 ⟨h1, h2, h3, h4⟩
  have HKS : Hid (∀ k, k < d.length → keysL (d.take (k + 1)) = keysL (d.take k) ++ [(keyN d[k]!.name).1]) := fun k hk => keys_snoc hk
  have HHI : Hid (∀ k, k < d.length → RightP (d.take k) → (keyN d[k]!.name).2 = true → (hasK (keysL (d.take k)) (keyN d[k]!.name).1 = true ↔ ∃ t, t < k ∧ alikeB d[t]!.name d[k]!.name = true)) := fun k hk h1 h2 => has_iff hk h1 h2
  have HKL : Hid (∀ k, (keysL (d.take k)).length ≤ d.length) := fun k => by rw [keys_len, List.length_take]; exact Nat.min_le_right _ _
  generalize dirB d = r at HAT HLN HTR ⊢
  have hS := fun i (hi : i < d.length) => hd.at hi
  obtain ⟨n, HL⟩ : ∃ n, Hid (n = d.length) := ⟨_, rfl⟩
  rw [← HL.out] at hva HAT HLN HTR HST HKS HHI HKL hS ⊢
  clear hd
  have HTT : Hid (Tabs w) := hT
  have HCC : Hid (CrcTab w) := hC
  clear hT hC
  by_cases hn : n ≤ 12
  · have hn' : ¬ (12 < (n : Int)) := by omega
    obtain ⟨i0, hi0, hz0, hz1, hz2⟩ := info_parts Tryz.infoS
    go_enter Tryz.func101, Tryz.ntmps101
    go_wp2_with (at_make; refine wpList_make_own _ rfl _ _ 43 rfl w.heap.size 9 i0 _ 1 Tryz.underlying43 hi0 hz0 hz1 .i64 .i64 _ n rfl rfl rfl (by rw [hz2]; omega) (by unfold maxLen; omega) (Nat.le_refl _) ?_; intro w1 hown1 hgrow1)
    have hbel1 : Below w.heap.size w w1 := (Below.refl _ _).grown hgrow1 (Nat.le_refl _) (fun _ h => by cases h)
    have hrow1 : StrRow w1 w.heap.size (.slice (some ⟨w.heap.size, 0, none⟩) 0 n) (keysL (d.take 0)) := by
      rw [List.take_zero]; exact hown1
    have HRW : Hid _ := hrow1
    clear hown1 hgrow1 hrow1 hi0 hz0 hz1 hz2
    go_wp2
    go_loopw [3, 16] (fun ks i wr => ∃ k : Nat, k ≤ n ∧ i = .int .i64 k ∧ Hid (RightP (d.take k)) ∧ Hid (StrRow wr w.heap.size ks (keysL (d.take k))) ∧ Below w.heap.size w wr) (fun _ i _ => n - (intOf i).toNat)
    case atStart => exact ⟨0, Nat.zero_le _, rfl, by show RightP _; rw [List.take_zero]; exact RightP.nil, HRW, hbel1⟩
    case round =>
      clear hbel1 HRW
      obtain ⟨k, hk, rfl, HRT, HKR, hbel⟩ := hrel
      by_cases hlt : k < n
      · obtain ⟨b1, o1, rfl, hb1, hc1⟩ := hva k hlt
        have hc1 := hc1.below hb1 hbel
        obtain ⟨m, HM⟩ : ∃ m, Hid (m = k - 1) := ⟨_, rfl⟩
        obtain ⟨b3, o3, e3, hb3, hc3⟩ := hva m (by have := HM.out; omega)
        cases e3
        have hc3 := hc3.below hb1 hbel
        have hnm := hS k hlt
        have HF : Hid (¬ (entB d[k]! = true ∧ (k = 0 ∨ lessB d[m]! d[k]!.hash d[k]!.index = true)) → r = false) := fun h => by
          cases hr : r
          · rfl
          · have := HAT.out hr k hlt
            rw [← HM.out] at this
            exact absurd ⟨this.1, this.2.1⟩ h
        have HA : Hid ((keyN d[k]!.name).2 = true → hasK (keysL (d.take k)) (keyN d[k]!.name).1 = true → r = false) := fun h0 h => by
          cases hr : r
          · rfl
          · obtain ⟨t, ht, h2⟩ := (HHI.out k hlt HRT.out h0).1 h
            have := (HAT.out hr k hlt).2.2 t ht
            rw [h2] at this; cases this
        have HG : Hid ((keyN d[k]!.name).2 = true → hasK (keysL (d.take k)) (keyN d[k]!.name).1 = false → (entB d[k]! = true ∧ (k = 0 ∨ lessB d[m]! d[k]!.hash d[k]!.index = true)) → RightP (d.take (k + 1))) := fun h0 h4 h => HST.out k hlt HRT.out h.1 (by rw [← HM.out]; exact h.2) (fun t ht => by
          cases ha : alikeB d[t]!.name d[k]!.name
          · rfl
          · rw [(HHI.out k hlt HRT.out h0).2 ⟨t, ht, ha⟩] at h4; cases h4)
        have HKN := HKS.out k hlt
        have HKN : Hid (keysL (d.take (k + 1)) = keysL (d.take k) ++ [(keyN d[k]!.name).1]) := HKN
        have HLK : Hid ((keysL (d.take k)).length ≤ n) := HKL.out k
        have HKZ := keyN_size d[k]!.name
        rw [entB_key] at HF HG
        generalize d[k]! = x at hc1 HF HA HG hnm HKN HKZ
        generalize d[m]! = y at hc3 HF HG
        obtain ⟨hh, ix, nm, id⟩ := x
        obtain ⟨y0, y1, y2, y3⟩ := y
        dsimp only at HKZ
        have c0 := hc1.c0
        have c1 := hc1.c1
        have c2 := hc1.c2
        have c3 := hc1.c3
        dsimp only at c0 c1 c2 c3 HF HA HG hnm HKN
        have hb5 := below_lit wr (.cells #[.int .i64 hh, .int .i64 ix, .string nm, .int .i64 id] 118)
        have hc5 := hc3.below (Nat.lt_of_lt_of_le hb1 hbel.size) hb5
        have hcg := new_cells wr hh ix nm id
        have hg5 : wr.heap.size < (wr.alloc (.cells #[.int .i64 hh, .int .i64 ix, .string nm, .int .i64 id] 118)).heap.size := by simp
        have hbel5 := hbel.trans (hb5.mono hbel.size)
        have HKR5 : Hid (StrRow _ w.heap.size u3 (keysL (d.take k))) := HKR.out.below hb5
        obtain ⟨w5, HW5⟩ : ∃ w5, Hid (w5 = wr.alloc (.cells #[.int .i64 hh, .int .i64 ix, .string nm, .int .i64 id] 118)) := ⟨_, rfl⟩
        rw [← HW5.out] at hbel5 hcg hc5 hg5 HKR5
        have hq2 := hcg.c2
        dsimp only [Nat.zero_add] at hq2
        have HKY := iKeyOf nm w5 (HTT.out.below hbel5) hnm
        have HEO := fun w' (hb : Below w5.heap.size w5 w') => entOk_any ⟨hh, ix, nm, id⟩ (keyN nm).1 w' ((HCC.out.below hbel5).below hb) HKZ
        have HCO := fun w' (hb : Below w5.heap.size w5 w') => containsS_any w.heap.size u3 (keysL (d.take k)) (keyN nm).1 w' (HKR5.out.below hb) (by have := HLK.out; omega)
        dsimp only at HEO
        generalize (keyN nm).1 = key at HF HA HG HKY HEO HCO HKN
        generalize (keyN nm).2 = ok at HF HA HG HKY
        generalize entK ⟨hh, ix, nm, id⟩ key = eo at HF HG HEO
        generalize hasK (keysL (d.take k)) key = co at HA HG HCO
        cases ok
        · have hr : r = false := HF.out (by simp)
          subst hr
          clear HF HA HG HAT HST HTR HLN hva HKS HHI HKL
          go_wp2_with fail
          rw [← HW5.out]
          refine HKY.mono ?_
          rintro e w6 ⟨rfl, b6⟩
          have b7 := hbel5.trans (b6.mono hbel5.size)
          go_wp2
          go_ret
          exact ⟨rfl, b7⟩
        · cases eo
          · have hr : r = false := HF.out (by simp)
            subst hr
            clear HF HA HG HAT HST HTR HLN hva HKS HHI HKL
            go_wp2_with fail
            rw [← HW5.out]
            refine HKY.mono ?_
            rintro e w6 ⟨rfl, b6⟩
            have hc6 := hcg.below hg5 b6
            have e0 := hc6.c0
            have e1 := hc6.c1
            have e2 := hc6.c2
            have e3 := hc6.c3
            dsimp only [Nat.zero_add] at e0 e1 e2 e3
            go_wp2_with fail
            refine (HEO w6 b6).mono ?_
            rintro e w7 ⟨rfl, b7⟩
            have b7 := b6.trans (b7.mono b6.size)
            clear e0 e1 e2 e3 hc6
            have b8 := hbel5.trans (b7.mono hbel5.size)
            go_wp2
            go_ret
            exact ⟨rfl, b8⟩
          · cases co
            · have HF2 : Hid (¬ (k = 0 ∨ lessB ⟨y0, y1, y2, y3⟩ hh ix = true) → r = false) := fun h => HF.out (by simpa using h)
              have HG2 : Hid ((k = 0 ∨ lessB ⟨y0, y1, y2, y3⟩ hh ix = true) → RightP (d.take (k + 1))) := fun h => HG.out rfl rfl ⟨rfl, h⟩
              have zm : 0 < k → IntKind.i64.wrap ((k : Int) - 1) = (m : Int) := fun h => by rw [IntKind.wrap_i64, HM.out]; omega
              have hkn : (k : Int) < (n : Int) := by omega
              have jm : (m : Int) < (n : Int) := by have := HM.out; omega
              have jm0 : (0 : Int) ≤ (m : Int) := by omega
              clear HF HG HA HAT HST HTR HLN hva HKS HHI HKL
              go_wp2_with fail
              rw [← HW5.out]
              refine HKY.mono ?_
              rintro e w6 ⟨rfl, b6⟩
              have hc6 := hcg.below hg5 b6
              have e0 := hc6.c0
              have e1 := hc6.c1
              have e2 := hc6.c2
              have e3 := hc6.c3
              dsimp only [Nat.zero_add] at e0 e1 e2 e3
              go_wp2_with fail
              refine (HEO w6 b6).mono ?_
              rintro e w7 ⟨rfl, b7⟩
              have b7 := b6.trans (b7.mono b6.size)
              clear e0 e1 e2 e3 hc6
              go_wp2_with fail
              refine (HCO w7 b7).mono ?_
              rintro e w7 ⟨rfl, rfl⟩
              have hc7 := hcg.below hg5 b7
              have hd7 := hc5.below (Nat.lt_of_lt_of_le hb1 hbel5.size) b7
              have q0 := cell_regrown hc7.c0
              have q1 := cell_regrown hc7.c1
              have q2 := cell_regrown hc7.c2
              have q3 := cell_regrown hc7.c3
              have p0 := cell_regrown hd7.c0
              have p1 := cell_regrown hd7.c1
              have p2 := cell_regrown hd7.c2
              have p3 := cell_regrown hd7.c3
              dsimp only [Nat.zero_add] at q0 q1 q2 q3 p0 p1 p2 p3
              have hPX := fun dd os => plI_any ⟨hh, ix, nm, id⟩ w7 dd os
              have hPY := fun dd os => plI_any ⟨y0, y1, y2, y3⟩ w7 dd os
              have hAH := fun dd os => ahI_any y0 y1 hh ix w7 dd os
              have HAL : Hid (aheadB y0 y1 hh ix = lessB ⟨y0, y1, y2, y3⟩ hh ix) := rfl
              rw [HAL.out] at hAH
              dsimp only at hPX hPY
              clear hc7 hd7 HKY HEO HCO HAL
              generalize lessB ⟨y0, y1, y2, y3⟩ hh ix = bL at hAH HF2 HG2
              by_cases hk0 : k = 0
              · clear zm
                have HOK : Hid (RightP (d.take (k + 1))) := HG2.out (.inl hk0)
                have hd0 : decide (0 < k) = false := decide_eq_false (by omega)
                clear hk0 HF2 HG2
                go_wp2
                refine wp_region_quiet_below (by kernel_rfl) (by kernel_rfl) ?_
                repeat (go_big_quiet_step (first | with_reducible exact hPX _ _ | with_reducible exact hPY _ _ | with_reducible exact hAH _ _))
                refine wpQuiet_nil ?_
                rintro w' ⟨⟨dq, osq⟩, rfl⟩
                have hbq := below_regrown w7 dq osq
                generalize grow (redrawn w7 dq) osq = w8 at hbq ⊢
                have b8 := b7.trans (hbq.mono b7.size)
                have hbel8 : Below w.heap.size w w8 := hbel5.trans (b8.mono hbel5.size)
                have HR8 : Hid (StrRow w8 w.heap.size u3 (keysL (d.take k))) := HKR5.out.below b8
                have hb9 := below_lit w8 (.cells #[.string key] 9)
                have hc9 : (w8.alloc (.cells #[.string key] 9)).cell? ⟨w8.heap.size, 0, none⟩ = some (.string key) := by rw [World.cell?_alloc_mark]; rfl
                have HR9 : Hid (StrRow (w8.alloc (.cells #[.string key] 9)) w.heap.size u3 (keysL (d.take k))) := HR8.out.below hb9
                have hbel9 := hbel8.trans (hb9.mono hbel8.size)
                clear p0 p1 p2 p3 q0 q1 q2 q3 hPX hPY hAH HR8 hb9 hbq
                go_wp2_with (at_builtin; refine append_str _ rfl (.tmp 54) (.tmp 56) rfl w.heap.size _ ⟨w8.heap.size, 0, none⟩ 1 (keysL (d.take k)) key (by have := HLK.out; omega) HR9.out hc9 rfl rfl hbel9.size ?_; intro v' w10 hrow10 hbel10; have HR10 : Hid _ := hrow10; clear hrow10)
                go_roundw
                case rel => exact ⟨k + 1, by omega, by go_num, HOK, by show StrRow _ _ _ _; rw [HKN.out]; exact HR10.out, hbel9.trans hbel10⟩
                case measure => simp [intOf]; omega
              · have zz := zm (by omega)
                have hd0 : decide (0 < k) = true := decide_eq_true (by omega)
                cases bL
                · have hr : r = false := HF2.out (by simp [hk0])
                  subst hr
                  clear hk0 HF2 HG2 zm
                  go_wp2
                  refine wp_region_quiet_below (by kernel_rfl) (by kernel_rfl) ?_
                  repeat (go_big_quiet_step (first | with_reducible exact hPX _ _ | with_reducible exact hPY _ _ | with_reducible exact hAH _ _))
                  refine wpQuiet_nil ?_
                  rintro w' ⟨⟨dq, osq⟩, rfl⟩
                  have hbq := below_regrown w7 dq osq
                  generalize grow (redrawn w7 dq) osq = w8 at hbq ⊢
                  have b8 := b7.trans (hbq.mono b7.size)
                  have hbel8 : Below w.heap.size w w8 := hbel5.trans (b8.mono hbel5.size)
                  go_wp2
                  go_ret
                  exact ⟨rfl, hbel8⟩
                · have HOK : Hid (RightP (d.take (k + 1))) := HG2.out (.inr rfl)
                  clear hk0 HF2 HG2 zm
                  go_wp2
                  refine wp_region_quiet_below (by kernel_rfl) (by kernel_rfl) ?_
                  repeat (go_big_quiet_step (first | with_reducible exact hPX _ _ | with_reducible exact hPY _ _ | with_reducible exact hAH _ _))
                  refine wpQuiet_nil ?_
                  rintro w' ⟨⟨dq, osq⟩, rfl⟩
                  have hbq := below_regrown w7 dq osq
                  generalize grow (redrawn w7 dq) osq = w8 at hbq ⊢
                  have b8 := b7.trans (hbq.mono b7.size)
                  have hbel8 : Below w.heap.size w w8 := hbel5.trans (b8.mono hbel5.size)
                  have HR8 : Hid (StrRow w8 w.heap.size u3 (keysL (d.take k))) := HKR5.out.below b8
                  have hb9 := below_lit w8 (.cells #[.string key] 9)
                  have hc9 : (w8.alloc (.cells #[.string key] 9)).cell? ⟨w8.heap.size, 0, none⟩ = some (.string key) := by rw [World.cell?_alloc_mark]; rfl
                  have HR9 : Hid (StrRow (w8.alloc (.cells #[.string key] 9)) w.heap.size u3 (keysL (d.take k))) := HR8.out.below hb9
                  have hbel9 := hbel8.trans (hb9.mono hbel8.size)
                  clear p0 p1 p2 p3 q0 q1 q2 q3 hPX hPY hAH HR8 hb9 hbq
                  go_wp2_with (at_builtin; refine append_str _ rfl (.tmp 54) (.tmp 56) rfl w.heap.size _ ⟨w8.heap.size, 0, none⟩ 1 (keysL (d.take k)) key (by have := HLK.out; omega) HR9.out hc9 rfl rfl hbel9.size ?_; intro v' w10 hrow10 hbel10; have HR10 : Hid _ := hrow10; clear hrow10)
                  go_roundw
                  case rel => exact ⟨k + 1, by omega, by go_num, HOK, by show StrRow _ _ _ _; rw [HKN.out]; exact HR10.out, hbel9.trans hbel10⟩
                  case measure => simp [intOf]; omega
            · have hr : r = false := HA.out rfl rfl
              subst hr
              clear HF HA HG HAT HST HTR HLN hva HKS HHI HKL
              go_wp2_with fail
              rw [← HW5.out]
              refine HKY.mono ?_
              rintro e w6 ⟨rfl, b6⟩
              have hc6 := hcg.below hg5 b6
              have e0 := hc6.c0
              have e1 := hc6.c1
              have e2 := hc6.c2
              have e3 := hc6.c3
              dsimp only [Nat.zero_add] at e0 e1 e2 e3
              go_wp2_with fail
              refine (HEO w6 b6).mono ?_
              rintro e w7 ⟨rfl, b7⟩
              have b7 := b6.trans (b7.mono b6.size)
              clear e0 e1 e2 e3 hc6
              go_wp2_with fail
              refine (HCO w7 b7).mono ?_
              rintro e w7 ⟨rfl, rfl⟩
              have b8 := hbel5.trans (b7.mono hbel5.size)
              go_wp2
              go_ret
              exact ⟨rfl, b8⟩
      · obtain rfl : k = n := by omega
        have hr := HTR.out hn HRT.out
        subst hr
        clear HAT HST HTR HLN hva HKS HHI HKL
        go_wp2
        go_ret
        exact ⟨rfl, hbel⟩
  · have hn' : 12 < (n : Int) := by omega
    have hr : r = false := by
      cases h : r
      · rfl
      · exact absurd (HLN.out h) hn
    subst hr
    clear HAT HST HTR HLN hva HKS HHI HKL
    go_enter Tryz.func101, Tryz.ntmps101
    go_wp2
    go_ret
    exact ⟨rfl, Below.refl _ _⟩
end

section
open Go.RowKit

theorem atE_le (d : List En) (s : ByteArray) : atE d s ≤ d.length := List.findIdx_le_length
theorem atE_some {d : List En} (hr : RightP d) {s : ByteArray} {i : Nat} (h : atN d s = some i) : atE d s = i := by rw [atE_right hr, h]; rfl
theorem atE_none {d : List En} (hr : RightP d) {s : ByteArray} (h : atN d s = none) : atE d s = d.length := by rw [atE_right hr, h]; rfl
theorem lookN_at {d : List En} (hr : dirB d = true) (s : ByteArray) : lookN d s = (if atE d s < d.length then d[atE d s]! else default, decide (atE d s < d.length)) := by
  have hR := dirB_iff.1 hr
  unfold lookN
  rw [if_pos hr]
  cases ha : atN d s with
  | none => rw [atE_none hR.toRightP ha]; simp
  | some i =>
    obtain ⟨hi, -⟩ := atN_is ha
    rw [atE_some hR.toRightP ha]; simp [hi]
theorem nextN_idx {d : List En} (hr : dirB d = true) (h k : Int) : nextN d h k = (if d.findIdx (fun e => behB e h k) < d.length then d[d.findIdx (fun e => behB e h k)]! else default, decide (d.findIdx (fun e => behB e h k) < d.length)) := by
  unfold nextN
  rw [if_pos hr]
  by_cases hi : d.findIdx (fun e => behB e h k) < d.length
  · have e1 : ∀ j, j < d.findIdx (fun e => behB e h k) → behB d[j]! h k = false := fun j hj => by
      have := List.not_of_lt_findIdx hj
      rw [getElem!_pos d j (by omega)]; simpa using this
    have e2 : behB d[d.findIdx (fun e => behB e h k)]! h k = true := by
      rw [getElem!_pos d _ hi]; exact List.findIdx_getElem (w := hi)
    rw [find_at hi e1 e2]
    simp [hi]
  · have h1 : d.findIdx (fun e => behB e h k) = d.length := by
      have := List.findIdx_le_length (xs := d) (p := fun e => behB e h k); omega
    rw [List.findIdx_eq_length] at h1
    have e1 : ∀ j, j < d.length → behB d[j]! h k = false := fun j hj => by
      rw [getElem!_pos d j hj]; exact h1 _ (List.getElem_mem hj)
    rw [find_no e1]
    simp [hi]

set_option maxRecDepth 100000 in
set_option maxHeartbeats 1000000 in
theorem iLook (v : Value) (d : List En) (s : ByteArray) (w : World) (hT : Tabs w) (hC : CrcTab w) (hv : EntsAt w v d) (hd : Shorts d) (hs : s.size ≤ 1048576) (hl : d.length ≤ 1048576) :
    Calls Tryz.prog 85 #[v, .string s] w fun e w' => e = .returned (.tuple #[.agg #[.int .i64 (lookN d s).1.hash, .int .i64 (lookN d s).1.index, .string (lookN d s).1.name, .int .i64 (lookN d s).1.id], .bool (lookN d s).2]) ∧ Below w.heap.size w w' := by
  have hb1 := below_lit w (.cells #[.int .i64 0, .int .i64 0, .string ⟨#[]⟩, .int .i64 0] 118)
  have hh1 : (w.alloc (.cells #[.int .i64 0, .int .i64 0, .string ⟨#[]⟩, .int .i64 0] 118)).heap[w.heap.size]? = some (.cells #[.int .i64 0, .int .i64 0, .string ⟨#[]⟩, .int .i64 0] 118 (0, 0)) := heap_alloc_new _ _
  have hv1 := hv.below hb1
  have HD := iDirOk v d _ (hT.below hb1) (hC.below hb1) hv1 hd
  have HA := fun w' (hb : Below _ _ w') => firstAlike_any v d s w' ((hT.below hb1).below hb) ((hC.below hb1).below hb) (hv1.below hb) hd hs hl
  have HE := fun w' (hb : Below _ _ w') => entAt_any v d (atE d s) w' (hv1.below hb) (atE_le d s)
  obtain ⟨w1, HW1⟩ : ∃ w1, Hid (w1 = w.alloc (.cells #[.int .i64 0, .int .i64 0, .string ⟨#[]⟩, .int .i64 0] 118)) := ⟨_, rfl⟩
  rw [← HW1.out] at hb1 hh1 hv1 HD HA HE
  have hg1 : w.heap.size < w1.heap.size := lt_of_block hh1
  obtain ⟨a, ca, rfl, -, -⟩ := hv1
  clear hv hT hC
  cases hr : dirB d
  · have HR : Hid (lookN d s = (default, false)) := (wrong hr s 0 0 0).2.2.2.1
    generalize lookN d s = r at HR ⊢
    rw [hr] at HD
    go_enter Tryz.func85, Tryz.ntmps85
    go_wp2_with fail
    rw [← HW1.out]
    refine HD.mono ?_
    rintro e w2 ⟨rfl, b2⟩
    have hh2 := (b2.block _ hg1).trans hh1
    obtain ⟨⟨⟨c0, c1⟩, c2, c3⟩, ⟨f0, f1⟩, f2, f3⟩ := block_cells hh2
    have HP : Hid _ := put_cells w2 w.heap.size _ _ _ _ _ (.int .i64 0) (.int .i64 0) (.string ⟨#[]⟩) (.int .i64 0) hh2
    have HB : Hid _ := below_put (hb1.trans (b2.mono hb1.size)) (Nat.le_refl _) (.int .i64 0) (.int .i64 0) (.string ⟨#[]⟩) (.int .i64 0)
    clear hh2
    go_wp2
    rw [HR.out]
    exact bodyPost_ret (results_ent rfl _ _ w.heap.size _ rfl rfl HP.out) rfl ⟨rfl, HB.out⟩
  · have HR : Hid (lookN d s = (if atE d s < d.length then d[atE d s]! else default, decide (atE d s < d.length))) := lookN_at hr s
    rw [hr] at HD
    generalize (if atE d s < d.length then d[atE d s]! else default) = x at HE HR
    generalize decide (atE d s < d.length) = q at HE HR
    generalize atE d s = i at HA HE
    generalize lookN d s = r at HR ⊢
    obtain ⟨x0, x1, x2, x3⟩ := x
    dsimp only at HE
    go_enter Tryz.func85, Tryz.ntmps85
    go_wp2_with fail
    rw [← HW1.out]
    refine HD.mono ?_
    rintro e w2 ⟨rfl, b2⟩
    go_wp2_with fail
    refine (HA w2 b2).mono ?_
    rintro e w3 ⟨rfl, b3⟩
    have b3 := b2.trans (b3.mono b2.size)
    go_wp2_with fail
    refine (HE w3 b3).mono ?_
    rintro e w4 ⟨rfl, b4⟩
    have b4 := b3.trans (b4.mono b3.size)
    have hh2 := (b4.block _ hg1).trans hh1
    obtain ⟨⟨⟨c0, c1⟩, c2, c3⟩, ⟨f0, f1⟩, f2, f3⟩ := block_cells hh2
    have HP : Hid _ := put_cells w4 w.heap.size _ _ _ _ _ (.int .i64 x0) (.int .i64 x1) (.string x2) (.int .i64 x3) hh2
    have HB : Hid _ := below_put (hb1.trans (b4.mono hb1.size)) (Nat.le_refl _) (.int .i64 x0) (.int .i64 x1) (.string x2) (.int .i64 x3)
    clear hh2
    go_wp2
    rw [HR.out]
    exact bodyPost_ret (results_ent rfl _ _ w.heap.size _ rfl rfl HP.out) rfl ⟨rfl, HB.out⟩
end

section
open Go.RowKit

set_option maxRecDepth 100000 in
set_option maxHeartbeats 1000000 in
theorem iDrop (v : Value) (d : List En) (s : ByteArray) (w : World) (hT : Tabs w) (hC : CrcTab w) (hv : EntsAt w v d) (hd : Shorts d) (hs : s.size ≤ 1048576) (hl : d.length ≤ 1048576) :
    Calls Tryz.prog 183 #[v, .string s] w fun e w' => ∃ u, e = .returned (.tuple #[u, .bool (dropN d s).2]) ∧ EntRow w' w.heap.size u (dropN d s).1 ∧ Below w.heap.size w w' := by
  have HD := iDirOk v d w hT hC hv hd
  have HC := fun w' (hb : Below w.heap.size w w') => clone_any v d w' (hv.below hb) hl
  have HA := fun w' (hb : Below w.heap.size w w') => firstAlike_any v d s w' (hT.below hb) (hC.below hb) (hv.below hb) hd hs hl
  obtain ⟨a, ca, rfl, -, -⟩ := hv
  clear hT hC
  cases hr : dirB d
  · have HR : Hid (dropN d s = ([], false)) := (wrong hr s 0 0 0).2.1
    generalize dropN d s = r at HR ⊢
    rw [hr] at HD
    go_enter Tryz.func183, Tryz.ntmps183
    go_wp2_with (go_at_call 101; refine HD.mono ?_; rintro e w2 ⟨rfl, b2⟩)
    go_ret2
    exact ⟨_, by rw [HR.out]; rfl, by rw [HR.out]; exact World.ownsRow_nil _ _ _ _, b2⟩
  · have hR := (dirB_iff.1 hr).toRightP
    rw [hr] at HD
    cases ha : atN d s with
    | none =>
      have HR : Hid (dropN d s = (d, false)) := by show _ = _; unfold dropN; rw [if_pos hr, ha]
      rw [atE_none hR ha] at HA
      generalize dropN d s = r at HR ⊢
      have hee : ((d.length : Int) == (d.length : Int)) = true := by simp
      generalize d.length = n at *
      go_enter Tryz.func183, Tryz.ntmps183
      go_wp2_with (first | (go_at_call 101; refine HD.mono ?_; rintro e w2 ⟨rfl, b2⟩) | (go_at_call 83; refine (HC _ b2).mono ?_; rintro e w3 ⟨u3, rfl, row3, b3⟩; have b4 := b2.trans (b3.mono b2.size)) | (go_at_call 131; refine (HA _ b4).mono ?_; rintro e w4 ⟨rfl, b5⟩))
      go_ret2
      exact ⟨_, by rw [HR.out]; rfl, by rw [HR.out]; exact (row3.below b5).mono b2.size, b4.trans (b5.mono b4.size)⟩
    | some i =>
      have HR : Hid (dropN d s = (d.eraseIdx i, true)) := by show _ = _; unfold dropN; rw [if_pos hr, ha]
      rw [atE_some hR ha] at HA
      obtain ⟨hi, -⟩ := atN_is ha
      obtain ⟨j, HJ⟩ : ∃ j, Hid (j = i + 1) := ⟨_, rfl⟩
      have HX := fun u base w' (hu : EntRow w' base u d) => delete_any u d i j base HJ.out w' hu hi hl
      have hne : ((i : Int) == (d.length : Int)) = false := by simp; omega
      have hwj : IntKind.i64.wrap ((i : Int) + 1) = (j : Int) := by rw [IntKind.wrap_i64, HJ.out]; omega
      generalize dropN d s = r at HR ⊢
      generalize d.length = n at *
      go_enter Tryz.func183, Tryz.ntmps183
      go_wp2_with (first | (go_at_call 101; refine HD.mono ?_; rintro e w2 ⟨rfl, b2⟩) | (go_at_call 83; refine (HC _ b2).mono ?_; rintro e w3 ⟨u3, rfl, row3, b3⟩; have b4 := b2.trans (b3.mono b2.size)) | (go_at_call 131; refine (HA _ b4).mono ?_; rintro e w4 ⟨rfl, b5⟩; have row4 := row3.below b5; have b6 := b4.trans (b5.mono b4.size)) | (go_at_call 211; refine (HX _ _ _ row4).mono ?_; rintro e w5 ⟨u5, rfl, row5, b7⟩))
      go_ret2
      exact ⟨_, by rw [HR.out]; rfl, by rw [HR.out]; exact row5.mono b2.size, b6.trans (b7.mono b2.size)⟩

set_option maxRecDepth 100000 in
set_option maxHeartbeats 1000000 in
theorem iRespell (v : Value) (d : List En) (s : ByteArray) (id : Int) (w : World) (hT : Tabs w) (hC : CrcTab w) (hv : EntsAt w v d) (hd : Shorts d) (hs : s.size ≤ 1048576) (hl : d.length ≤ 1048576) :
    Calls Tryz.prog 187 #[v, .string s, .int .i64 id] w fun e w' => ∃ u, e = .returned (.tuple #[u, .bool (respN d s id).2]) ∧ EntRow w' w.heap.size u (respN d s id).1 ∧ Below w.heap.size w w' := by
  have HD := iDirOk v d w hT hC hv hd
  have HC := fun w' (hb : Below w.heap.size w w') => clone_any v d w' (hv.below hb) hl
  have HA := fun w' (hb : Below w.heap.size w w') => firstAlike_any v d s w' (hT.below hb) (hC.below hb) (hv.below hb) hd hs hl
  have HI := fun w' => idOk_any id w'
  obtain ⟨a, ca, rfl, -, -⟩ := hv
  clear hT hC
  cases hr : dirB d
  · have HR : Hid (respN d s id = ([], false)) := (wrong hr s id 0 0).2.2.1
    generalize respN d s id = r at HR ⊢
    rw [hr] at HD
    go_enter Tryz.func187, Tryz.ntmps187
    go_wp2_with (go_at_call 101; refine HD.mono ?_; rintro e w2 ⟨rfl, b2⟩)
    go_ret2
    exact ⟨_, by rw [HR.out]; rfl, by rw [HR.out]; exact World.ownsRow_nil _ _ _ _, b2⟩
  · have hR := (dirB_iff.1 hr).toRightP
    rw [hr] at HD
    cases ha : atN d s with
    | none =>
      have HR : Hid (respN d s id = (d, false)) := by show _ = _; unfold respN; rw [if_pos hr, ha]
      rw [atE_none hR ha] at HA
      generalize respN d s id = r at HR ⊢
      have hee : ((d.length : Int) == (d.length : Int)) = true := by simp
      generalize d.length = n at *
      go_enter Tryz.func187, Tryz.ntmps187
      go_wp2_with (first | (go_at_call 101; refine HD.mono ?_; rintro e w2 ⟨rfl, b2⟩) | (go_at_call 83; refine (HC _ b2).mono ?_; rintro e w3 ⟨u3, rfl, row3, b3⟩; have b4 := b2.trans (b3.mono b2.size)) | (go_at_call 131; refine (HA _ b4).mono ?_; rintro e w4 ⟨rfl, b5⟩))
      go_ret2
      exact ⟨_, by rw [HR.out]; rfl, by rw [HR.out]; exact (row3.below b5).mono b2.size, b4.trans (b5.mono b4.size)⟩
    | some i =>
      rw [atE_some hR ha] at HA
      obtain ⟨hi, -⟩ := atN_is ha
      have hne : ((i : Int) == (d.length : Int)) = false := by simp; omega
      cases hb : idB id
      · have HR : Hid (respN d s id = (d, false)) := by show _ = _; unfold respN; rw [if_pos hr, ha]; simp [hb]
        rw [hb] at HI
        generalize respN d s id = r at HR ⊢
        generalize d.length = n at *
        go_enter Tryz.func187, Tryz.ntmps187
        go_wp2_with (first | (go_at_call 101; refine HD.mono ?_; rintro e w2 ⟨rfl, b2⟩) | (go_at_call 83; refine (HC _ b2).mono ?_; rintro e w3 ⟨u3, rfl, row3, b3⟩; have b4 := b2.trans (b3.mono b2.size)) | (go_at_call 131; refine (HA _ b4).mono ?_; rintro e w4 ⟨rfl, b5⟩) | (go_at_call 179; refine (HI _).mono ?_; rintro e w5 ⟨rfl, rfl⟩))
        go_ret2
        exact ⟨_, by rw [HR.out]; rfl, by rw [HR.out]; exact (row3.below b5).mono b2.size, b4.trans (b5.mono b4.size)⟩
      · have HR : Hid (respN d s id = (d.set i (respE d[i]! s id), true)) := by show _ = _; unfold respN; rw [if_pos hr, ha]; simp [hb]
        rw [hb] at HI
        have HP : Hid (∀ u base w2, EntRow w2 base u d → ∃ g cap, u = .slice (some ⟨g, 0, none⟩) d.length cap ∧ base ≤ g ∧ (EntRow ((w2.setCell ⟨g, i * 4 + 2, none⟩ (.string s)).setCell ⟨g, i * 4 + 3, none⟩ (.int .i64 id)) base u (d.set i (respE d[i]! s id))) ∧ (∀ j, j < d.length * 4 → (∃ u, w2.cell? ⟨g, j, none⟩ = some u) ∧ w2.frozen? ⟨g, j, none⟩ = false)) := fun u base w2 h2 => by
          rcases h2.2 with ⟨rfl, h0⟩ | ⟨g, cap, cur, rfl, hg, hh, hnc, hcp, hcs, htake⟩
          · omega
          · refine ⟨g, cap, rfl, hg, ?_, fun j hj => row_cells h2 j hj⟩
            have h3 := (h2.stored (i * 4 + 2) (.string s)).1
            have h4 := (h3.stored (i * 4 + 3) (.int .i64 id)).1
            rw [flatE_set2 d i s id hi] at h4
            unfold EntRow
            rw [List.length_set]
            exact h4
        generalize respN d s id = r at HR ⊢
        generalize d.set i (respE d[i]! s id) = rl at HR HP
        have hin : (i : Int) < (d.length : Int) := by omega
        have hi0 : (0 : Int) ≤ (i : Int) := by omega
        generalize d.length = n at *
        go_enter Tryz.func187, Tryz.ntmps187
        go_wp2_with (first | (go_at_call 101; refine HD.mono ?_; rintro e w2 ⟨rfl, b2⟩) | (go_at_call 83; refine (HC _ b2).mono ?_; rintro e w3 ⟨u3, rfl, row3, b3⟩; have b4 := b2.trans (b3.mono b2.size)) | (go_at_call 131; refine (HA _ b4).mono ?_; rintro e w4 ⟨rfl, b5⟩; have b6 := b4.trans (b5.mono b4.size); obtain ⟨g, cap, rfl, hg, h2, hcc⟩ := HP.out _ _ _ (row3.below b5); obtain ⟨⟨u2, d2⟩, f2⟩ := hcc (i * 4 + 2) (by omega); obtain ⟨⟨u3, d3⟩, f3⟩ := hcc (i * 4 + 3) (by omega); have HS : Hid _ := h2; clear h2 hcc row3) | (go_at_call 179; refine (HI _).mono ?_; rintro e w5 ⟨rfl, rfl⟩))
        go_ret2
        exact ⟨_, by rw [HR.out]; rfl, by rw [HR.out]; exact HS.out.mono b2.size, (b6.setCell (Nat.le_trans b2.size hg) _).setCell (Nat.le_trans b2.size hg) _⟩
end

section
open Go.RowKit

/-- the place where the program puts a new entry is the one where it belongs -/
theorem insN_at {d : List En} {e : En} (hf : ∀ x ∈ d, x.hash = e.hash → x.index ≠ e.index) : insN d e = d.take (d.findIdx fun x => behB x e.hash e.index) ++ e :: d.drop (d.findIdx fun x => behB x e.hash e.index) := by
  have h1 : d.findIdx (fun x => behB x e.hash e.index) = d.findIdx (fun x => !lessB x e.hash e.index) := findIdx_cong fun x hx => by
    have h2 := hf x hx
    rw [Bool.eq_iff_iff, behB_iff, Bool.not_eq_true', lessB_not]
    omega
  unfold insN
  rw [h1, List.takeWhile_eq_take_findIdx_not, List.dropWhile_eq_drop_findIdx_not]

set_option maxRecDepth 100000 in
set_option maxHeartbeats 4000000 in
theorem iAdd (v : Value) (d : List En) (s : ByteArray) (id : Int) (w : World) (hT : Tabs w) (hC : CrcTab w) (hv : EntsAt w v d) (hd : Shorts d) (hs : s.size ≤ 1048576) (hl : d.length ≤ 1048576) :
    Calls Tryz.prog 133 #[v, .string s, .int .i64 id] w fun e w' => ∃ u, e = .returned (.tuple #[u, .bool (addN d s id).2]) ∧ EntRow w' w.heap.size u (addN d s id).1 ∧ Below w.heap.size w w' := by
  have HD := iDirOk v d w hT hC hv hd
  have HC := fun w' (hb : Below w.heap.size w w') => clone_any v d w' (hv.below hb) hl
  have HN := fun w' (hb : Below w.heap.size w w') => iNameOk s w' (hT.below hb) hs
  have HA := fun w' (hb : Below w.heap.size w w') => firstAlike_any v d s w' (hT.below hb) (hC.below hb) (hv.below hb) hd hs hl
  have HI := fun w' => idOk_any id w'
  have HH := fun w' (hb : Below w.heap.size w w') => iHashOf s w' (hT.below hb) (hC.below hb) hs
  have HLI := fun w' (hb : Below w.heap.size w w') => least_any v d (hashN s) w' (hv.below hb) hl
  have HFB := fun w' (hb : Below w.heap.size w w') => firstBehind_any v d (hashN s) (lstN (hashN s) 0 d) w' (hv.below hb) hl
  have HPL := fun w' => placeOf_any (newE d s id) w'
  have HIN := fun u i base vb w' (hu : EntRow w' base u d) (hi : i ≤ d.length) (hb : base ≤ w'.heap.size) (hx : w'.heap[vb]? = some (.cells #[.int .i64 (newE d s id).hash, .int .i64 (newE d s id).index, .string (newE d s id).name, .int .i64 (newE d s id).id] 118 (0, 0))) (hne : u.ownBlock ≠ some vb) => insertE_any u d i base vb (newE d s id) w' hu hi hl hb hx hne
  dsimp only [newE] at HPL HIN
  obtain ⟨a, ca, rfl, -, -⟩ := hv
  clear hT hC
  cases hr : dirB d
  · have HR : Hid (addN d s id = ([], false)) := (wrong hr s id 0 0).1
    generalize addN d s id = r at HR ⊢
    rw [hr] at HD
    go_enter Tryz.func133, Tryz.ntmps133
    go_wp2_with (go_at_call 101; refine HD.mono ?_; rintro e w2 ⟨rfl, b2⟩)
    go_ret2
    exact ⟨_, by rw [HR.out]; rfl, by rw [HR.out]; exact World.ownsRow_nil _ _ _ _, b2⟩
  · have hR := dirB_iff.1 hr
    rw [hr] at HD
    cases ho : addOk d s id
    · have HR : Hid (addN d s id = (d, false)) := by show _ = _; unfold addN; rw [if_pos hr, ho]; rfl
      have HNO : Hid (addOk d s id = ((nameL s).isSome && (atN d s).isNone && idB id && decide (d.length < 12))) := rfl
      rw [ho] at HNO
      generalize addN d s id = r at HR ⊢
      generalize (nameL s).isSome = nm at HN HNO
      clear HH HLI HFB HPL HIN
      cases nm
      · go_enter Tryz.func133, Tryz.ntmps133
        go_wp2_with (first | (go_at_call 101; refine HD.mono ?_; rintro e w2 ⟨rfl, b2⟩) | (go_at_call 83; refine (HC _ b2).mono ?_; rintro e w3 ⟨u3, rfl, row3, b3⟩; have b4 := b2.trans (b3.mono b2.size)) | (go_at_call 129; refine (HN _ b4).mono ?_; rintro e w4 ⟨rfl, b5⟩))
        go_ret2
        exact ⟨_, by rw [HR.out]; rfl, by rw [HR.out]; exact (row3.below b5).mono b2.size, b4.trans (b5.mono b4.size)⟩
      · cases ha : atN d s with
        | some i =>
          rw [atE_some hR.toRightP ha] at HA
          obtain ⟨hi, -⟩ := atN_is ha
          have hlt : (i : Int) < (d.length : Int) := by omega
          generalize d.length = n at *
          go_enter Tryz.func133, Tryz.ntmps133
          go_wp2_with (first | (go_at_call 101; refine HD.mono ?_; rintro e w2 ⟨rfl, b2⟩) | (go_at_call 83; refine (HC _ b2).mono ?_; rintro e w3 ⟨u3, rfl, row3, b3⟩; have b4 := b2.trans (b3.mono b2.size)) | (go_at_call 129; refine (HN _ b4).mono ?_; rintro e w4 ⟨rfl, b5⟩; have row4 := row3.below b5; have b6 := b4.trans (b5.mono b4.size)) | (go_at_call 131; refine (HA _ b6).mono ?_; rintro e w5 ⟨rfl, b7⟩))
          go_ret2
          exact ⟨_, by rw [HR.out]; rfl, by rw [HR.out]; exact (row4.below b7).mono b2.size, b6.trans (b7.mono b6.size)⟩
        | none =>
          rw [atE_none hR.toRightP ha] at HA
          rw [ha] at HNO
          generalize idB id = q at HI HNO
          have HN12 : Hid (q = true → d.length = 12) := fun h => by
            have h1 := HNO.out
            rw [h] at h1
            simp at h1
            have := hR.len
            omega
          generalize d.length = n at *
          cases q
          · go_enter Tryz.func133, Tryz.ntmps133
            go_wp2_with (first | (go_at_call 101; refine HD.mono ?_; rintro e w2 ⟨rfl, b2⟩) | (go_at_call 83; refine (HC _ b2).mono ?_; rintro e w3 ⟨u3, rfl, row3, b3⟩; have b4 := b2.trans (b3.mono b2.size)) | (go_at_call 129; refine (HN _ b4).mono ?_; rintro e w4 ⟨rfl, b5⟩; have row4 := row3.below b5; have b6 := b4.trans (b5.mono b4.size)) | (go_at_call 131; refine (HA _ b6).mono ?_; rintro e w5 ⟨rfl, b7⟩) | (go_at_call 179; refine (HI _).mono ?_; rintro e w6 ⟨rfl, rfl⟩))
            go_ret2
            exact ⟨_, by rw [HR.out]; rfl, by rw [HR.out]; exact (row4.below b7).mono b2.size, b6.trans (b7.mono b6.size)⟩
          · have h12 : ((n : Int) == 12) = true := by have := HN12.out rfl; simp; omega
            go_enter Tryz.func133, Tryz.ntmps133
            go_wp2_with (first | (go_at_call 101; refine HD.mono ?_; rintro e w2 ⟨rfl, b2⟩) | (go_at_call 83; refine (HC _ b2).mono ?_; rintro e w3 ⟨u3, rfl, row3, b3⟩; have b4 := b2.trans (b3.mono b2.size)) | (go_at_call 129; refine (HN _ b4).mono ?_; rintro e w4 ⟨rfl, b5⟩; have row4 := row3.below b5; have b6 := b4.trans (b5.mono b4.size)) | (go_at_call 131; refine (HA _ b6).mono ?_; rintro e w5 ⟨rfl, b7⟩) | (go_at_call 179; refine (HI _).mono ?_; rintro e w6 ⟨rfl, rfl⟩))
            go_ret2
            exact ⟨_, by rw [HR.out]; rfl, by rw [HR.out]; exact (row4.below b7).mono b2.size, b6.trans (b7.mono b6.size)⟩
    · obtain ⟨h1, h2, h3, h4⟩ := addOk_iff.1 ho
      have HR : Hid (addN d s id = (d.take (d.findIdx fun x => behB x (hashN s) (lstN (hashN s) 0 d)) ++ (⟨hashN s, lstN (hashN s) 0 d, s, id⟩ : En) :: d.drop (d.findIdx fun x => behB x (hashN s) (lstN (hashN s) 0 d)), true)) := by
        show _ = _
        unfold addN
        rw [if_pos hr, if_pos ho, insN_at (newE_ok hR ho).2.1]; rfl
      have hile := List.findIdx_le_length (xs := d) (p := fun x => behB x (hashN s) (lstN (hashN s) 0 d))
      have HIN2 := fun u base vb w' hu hb hx hne => HIN u _ base vb w' hu hile hb hx hne
      clear HIN
      rw [atE_none hR.toRightP h2] at HA
      rw [h1] at HN
      rw [h3] at HI
      generalize addN d s id = r at HR ⊢
      generalize (d.findIdx fun x => behB x (hashN s) (lstN (hashN s) 0 d)) = i at HR HFB HIN2 hile
      generalize lstN (hashN s) 0 d = ix at HFB HLI HPL HIN2 HR
      generalize hashN s = hn at HH HFB HLI HPL HIN2 HR
      generalize d.take i ++ (⟨hn, ix, s, id⟩ : En) :: d.drop i = rl at HR HIN2
      have hn12 : ((d.length : Int) == 12) = false := by simp; omega
      generalize d.length = n at *
      clear h1 h2 h3
      go_enter Tryz.func133, Tryz.ntmps133
      go_wp2_with (first | (go_at_call 101; refine HD.mono ?_; rintro e w2 ⟨rfl, b2⟩) | (go_at_call 83; refine (HC _ b2).mono ?_; rintro e w3 ⟨u3, rfl, row3, b3⟩; have b4 := b2.trans (b3.mono b2.size)) | (go_at_call 129; refine (HN _ b4).mono ?_; rintro e w4 ⟨rfl, b5⟩; have row4 := row3.below b5; have b6 := b4.trans (b5.mono b4.size)) | (go_at_call 131; refine (HA _ b6).mono ?_; rintro e w5 ⟨rfl, b7⟩; have row5 := row4.below b7; have b8 := b6.trans (b7.mono b6.size)) | (go_at_call 179; refine (HI _).mono ?_; rintro e w6 ⟨rfl, rfl⟩) | (go_at_call 175; refine (HH _ b8).mono ?_; rintro e w7 ⟨rfl, b9⟩; have row7 := row5.below b9; have b10 := b8.trans (b9.mono b8.size)) | (go_at_call 180; refine (HLI _ b10).mono ?_; rintro e w8 ⟨rfl, b11⟩; have row8 := row7.below b11; have b12 := b10.trans (b11.mono b10.size)))
      have hb9 := below_lit w8 (.cells #[.int .i64 hn, .int .i64 ix, .string s, .int .i64 id] 118)
      have hh9 : (w8.alloc (.cells #[.int .i64 hn, .int .i64 ix, .string s, .int .i64 id] 118)).heap[w8.heap.size]? = some (.cells #[.int .i64 hn, .int .i64 ix, .string s, .int .i64 id] 118 (0, 0)) := heap_alloc_new _ _
      have row9 := row8.below hb9
      obtain ⟨w9, HW9⟩ : ∃ w9, Hid (w9 = w8.alloc (.cells #[.int .i64 hn, .int .i64 ix, .string s, .int .i64 id] 118)) := ⟨_, rfl⟩
      rw [← HW9.out] at hb9 hh9 row9 ⊢
      have B9 : Below w.heap.size w w9 := b12.trans (hb9.mono b12.size)
      have hbs : w2.heap.size ≤ w9.heap.size := Nat.le_trans (Nat.le_trans (Nat.le_trans (Nat.le_trans b3.size b5.size) b7.size) (Nat.le_trans b9.size b11.size)) hb9.size
      have hE9 := lt_of_block hh9
      /- in any world behind this one the new entry stands where it was laid -/
      have HK : Hid (∀ W, Below w9.heap.size w9 W → ((W.cell? ⟨w8.heap.size, 0, none⟩ = some (.int .i64 hn) ∧ W.cell? ⟨w8.heap.size, 1, none⟩ = some (.int .i64 ix)) ∧ W.cell? ⟨w8.heap.size, 2, none⟩ = some (.string s) ∧ W.cell? ⟨w8.heap.size, 3, none⟩ = some (.int .i64 id))) := fun W hW => (block_cells ((hW.block _ hE9).trans hh9)).1
      have hdr : Below w9.heap.size w9 w9.drew := (Below.refl _ _).drew
      have hdb : Below w9.heap.size w9 (w9.drew.alloc (.cells #[.int .i64 hn, .int .i64 ix, .string s, .int .i64 id] 118)) := hdr.alloc (Nat.le_refl _) _
      have hnew : ∀ W : World, (W.alloc (.cells #[.int .i64 hn, .int .i64 ix, .string s, .int .i64 id] 118)).heap[W.heap.size]? = some (.cells #[.int .i64 hn, .int .i64 ix, .string s, .int .i64 id] 118 (0, 0)) := fun W => heap_alloc_new _ _
      have FIN : ∀ W vb, Below w9.heap.size w9 W → w9.heap.size ≤ vb → W.heap[vb]? = some (.cells #[.int .i64 hn, .int .i64 ix, .string s, .int .i64 id] 118 (0, 0)) → Calls Tryz.prog 181 #[u3, .int .i64 i, .slice (some ⟨vb, 0, none⟩) 1 1] W fun e w' => ∃ u, e = .returned u ∧ EntRow w' w.heap.size u rl ∧ Below w.heap.size w w' := fun W vb hW hvb hx => by
        refine (HIN2 u3 w2.heap.size vb W (row9.below hW) (Nat.le_trans hbs hW.size) hx (fun e => by have := (World.ownsRow.lt row9 vb e).2; omega)).mono ?_
        rintro e w' ⟨u, rfl, hrow, hbel⟩
        exact ⟨u, rfl, hrow.mono b2.size, (B9.trans (hW.mono B9.size)).trans (hbel.mono b2.size)⟩
      have FIN1 : Hid (∀ wA wB, Below w9.drew.heap.size w9.drew wA → Below wA.heap.size wA wB → Calls Tryz.prog 181 #[u3, .int .i64 i, .slice (some ⟨wB.heap.size, 0, none⟩) 1 1] (wB.alloc (.cells #[.int .i64 hn, .int .i64 ix, .string s, .int .i64 id] 118)) fun e w' => ∃ u, e = .returned u ∧ EntRow w' w.heap.size u rl ∧ Below w.heap.size w w') := fun wA wB hA hB => by
        have h1 : Below w9.heap.size w9 wA := hdr.trans hA
        have h2 : Below w9.heap.size w9 wB := h1.trans (hB.mono h1.size)
        exact FIN _ _ (h2.alloc h2.size _) h2.size (hnew wB)
      have FIN2 : Hid (∀ wA wB, Below (w9.drew.alloc (.cells #[.int .i64 hn, .int .i64 ix, .string s, .int .i64 id] 118)).heap.size (w9.drew.alloc (.cells #[.int .i64 hn, .int .i64 ix, .string s, .int .i64 id] 118)) wA → Below wA.heap.size wA wB → Calls Tryz.prog 181 #[u3, .int .i64 i, .slice (some ⟨w9.heap.size, 0, none⟩) 1 1] wB fun e w' => ∃ u, e = .returned u ∧ EntRow w' w.heap.size u rl ∧ Below w.heap.size w w') := fun wA wB hA hB => by
        have h1 : Below w9.heap.size w9 wA := hdb.trans (hA.mono hdb.size)
        have h2 : Below w9.heap.size w9 wB := h1.trans (hB.mono h1.size)
        have hz : w9.drew.heap.size < (w9.drew.alloc (.cells #[.int .i64 hn, .int .i64 ix, .string s, .int .i64 id] 118)).heap.size := lt_of_block (hnew w9.drew)
        exact FIN _ _ h2 (Nat.le_refl _) ((hB.block _ (Nat.lt_of_lt_of_le hz hA.size)).trans ((hA.block _ hz).trans (hnew w9.drew)))
      have FIN3 : Hid (∀ wA wB, Below w9.drew.heap.size w9.drew wA → Below (wA.alloc (.cells #[.int .i64 hn, .int .i64 ix, .string s, .int .i64 id] 118)).heap.size (wA.alloc (.cells #[.int .i64 hn, .int .i64 ix, .string s, .int .i64 id] 118)) wB → Calls Tryz.prog 181 #[u3, .int .i64 i, .slice (some ⟨wA.heap.size, 0, none⟩) 1 1] wB fun e w' => ∃ u, e = .returned u ∧ EntRow w' w.heap.size u rl ∧ Below w.heap.size w w') := fun wA wB hA hB => by
        have h1 : Below w9.heap.size w9 wA := hdr.trans hA
        have h2 : Below w9.heap.size w9 (wA.alloc (.cells #[.int .i64 hn, .int .i64 ix, .string s, .int .i64 id] 118)) := h1.alloc h1.size _
        have h3 : Below w9.heap.size w9 wB := h2.trans (hB.mono h2.size)
        exact FIN _ _ h3 h1.size ((hB.block _ (lt_of_block (hnew wA))).trans (hnew wA))
      have BX1 : Hid (∀ wA, Below w9.drew.heap.size w9.drew wA → Below w9.heap.size w9 wA) := fun wA hA => hdr.trans hA
      have BX2 : Hid (∀ wA, Below (w9.drew.alloc (.cells #[.int .i64 hn, .int .i64 ix, .string s, .int .i64 id] 118)).heap.size (w9.drew.alloc (.cells #[.int .i64 hn, .int .i64 ix, .string s, .int .i64 id] 118)) wA → Below w9.heap.size w9 wA) := fun wA hA => hdb.trans (hA.mono hdb.size)
      have BX3 : Hid (∀ wA wB, Below w9.heap.size w9 wA → Below wA.heap.size wA wB → Below w9.heap.size w9 wB) := fun wA wB h1 hB => h1.trans (hB.mono h1.size)
      have BX4 : Hid (∀ wA wB, Below w9.heap.size w9 wA → Below (wA.alloc (.cells #[.int .i64 hn, .int .i64 ix, .string s, .int .i64 id] 118)).heap.size (wA.alloc (.cells #[.int .i64 hn, .int .i64 ix, .string s, .int .i64 id] 118)) wB → Below w9.heap.size w9 wB) := fun wA wB h1 hB => (h1.alloc h1.size _).trans (hB.mono (h1.alloc h1.size _).size)
      have HFB1 : Hid (∀ W, Below w9.heap.size w9 W → Calls Tryz.prog 182 #[.slice a n ca, .agg #[.int .i64 hn, .int .i64 ix]] W fun e w' => e = .returned (.int .i64 (i : Nat)) ∧ Below W.heap.size W w') := fun W hW => HFB W (B9.trans (hW.mono B9.size))
      have HFB2 : Hid (∀ wA, Below w9.heap.size w9 wA → Calls Tryz.prog 182 #[.slice a n ca, .agg #[.int .i64 hn, .int .i64 ix]] (wA.alloc (.cells #[.int .i64 hn, .int .i64 ix, .string s, .int .i64 id] 118)) fun e w' => e = .returned (.int .i64 (i : Nat)) ∧ Below (wA.alloc (.cells #[.int .i64 hn, .int .i64 ix, .string s, .int .i64 id] 118)).heap.size (wA.alloc (.cells #[.int .i64 hn, .int .i64 ix, .string s, .int .i64 id] 118)) w') := fun wA h1 => HFB _ (B9.trans ((h1.alloc h1.size _).mono B9.size))
      obtain ⟨⟨k0, k1⟩, k2, k3⟩ := HK.out w9 (Below.refl _ _)
      obtain ⟨⟨l0, l1⟩, l2, l3⟩ := HK.out _ hdb
      clear HD HC HN HA HI HH HLI HFB HIN2 FIN hnew hdr hdb hh9 hb9 row9 row8 row7 row5 row4 row3 b3 b4 b5 b6 b7 b8 b9 b10 b11 b12 B9 hbs
      go_region_law (first
        | (go_simp; go_at_call 156; refine (HPL _).mono ?_; rintro e wA ⟨rfl, bA⟩; have BA : Below w9.heap.size w9 wA := (by first | exact BX1.out _ bA | exact BX2.out _ bA); obtain ⟨⟨m0, m1⟩, m2, m3⟩ := HK.out wA BA; dsimp only)
        | (go_simp; go_at_call 182; first | (refine (HFB1.out _ BA).mono ?_; rintro e wB ⟨rfl, bB⟩; have BB : Below w9.heap.size w9 wB := BX3.out _ _ BA bB; obtain ⟨⟨n0, n1⟩, n2, n3⟩ := HK.out wB BB; dsimp only) | (refine (HFB2.out _ BA).mono ?_; rintro e wB ⟨rfl, bB⟩; have BB : Below w9.heap.size w9 wB := BX4.out _ _ BA bB; obtain ⟨⟨n0, n1⟩, n2, n3⟩ := HK.out wB BB; dsimp only))
        | (go_simp; go_at_call 181; first | (refine (FIN1.out _ _ bA bB).mono ?_; rintro e wC ⟨u, rfl, rowC, bC⟩; dsimp only) | (refine (FIN2.out _ _ bA bB).mono ?_; rintro e wC ⟨u, rfl, rowC, bC⟩; dsimp only) | (refine (FIN3.out _ _ bA bB).mono ?_; rintro e wC ⟨u, rfl, rowC, bC⟩; dsimp only)))
      all_goals
        go_wp2
        go_ret2
        exact ⟨_, by rw [HR.out]; rfl, by rw [HR.out]; exact rowC, bC⟩
end

end Go.Proofs.YtgkcnleegefjcaaGreatDoor
