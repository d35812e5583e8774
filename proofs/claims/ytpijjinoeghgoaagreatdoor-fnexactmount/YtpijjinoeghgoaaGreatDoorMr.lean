/- Directories: spec.l5Less, l5At, l5Copy: what they answer. Directories: spec.DirOk: what it answers. Directories: spec.Look: what it answers. Directories: spec.Next: what it answers. -/
import Derived.Test.YtpijjinoeghgoaaGreatDoorRows
import Derived.Test.YtpijjinoeghgoaaGreatDoorMq
import Derived.Test.YtpijjinoeghgoaaGreatDoorMp
import Derived.Test.YtpijjinoeghgoaaGreatDoorMm
import Derived.WalkKit
import Derived.WalkSpells
import Derived.WalkLawsBesides
import Derived.Lib.QuietBelow
import Derived.BigQuiet
import Derived.Laws.ResultCell
namespace Go.Proofs.YtpijjinoeghgoaaGreatDoor

section
open Go.RowKit


set_option maxRecDepth 100000 in
set_option maxHeartbeats 1000000 in
theorem l5Less_any (e : En) (h k : Int) (w : World) :
    Calls Tryz.prog 108 #[.agg #[.int .i64 e.hash, .int .i64 e.index, .string e.name, .int .i64 e.id], .int .i64 h, .int .i64 k] w fun x w' => x = .returned (.bool (lessB e h k)) ∧ Below w.heap.size w w' := by
  have HR : Hid (lessB e h k = (decide (e.hash < h) || (decide (e.hash = h) && decide (e.index < k)))) := rfl
  generalize lessB e h k = r at HR ⊢
  obtain ⟨a, b, c, d⟩ := e
  dsimp only at HR ⊢
  have hb := below_lit w (.cells #[.int .i64 a, .int .i64 b, .string c, .int .i64 d] 77)
  by_cases h1 : a < h
  · go_enter Tryz.func108, Tryz.ntmps108
    go_wp2
    go_ret
    exact ⟨by rw [HR.out]; simp [h1], hb⟩
  · by_cases h2 : a = h
    · have h2' : (a == h) = true := by simp [h2]
      have HRR : Hid (r = decide (b < k)) := by show _ = _; rw [HR.out]; simp [h2]
      clear h2
      go_enter Tryz.func108, Tryz.ntmps108
      go_wp2
      go_ret
      exact ⟨by rw [HRR.out]; rfl, hb⟩
    · have h2' : (a == h) = false := by simp [h2]
      go_enter Tryz.func108, Tryz.ntmps108
      go_wp2
      go_ret
      exact ⟨by rw [HR.out]; simp [h1, h2], hb⟩




/-- names of entries that are short enough -/
def Shorts (d : List En) : Prop := ∀ e ∈ d, e.name.size ≤ 1048576
theorem Shorts.at {d : List En} (h : Shorts d) {i : Nat} (hi : i < d.length) : d[i]!.name.size ≤ 1048576 := by
  rw [getElem!_pos d i hi]; exact h _ (List.getElem_mem hi)
end

section
open Go.RowKit Go.Sort

theorem nmS_any (s : ByteArray) (hs : s.size ≤ 1048576) (w : World) (d : Nat) (os : Array Obj) :
    Calls Tryz.prog 84 #[.string s] (grow (redrawn w d) os) fun e w'' => e = .returned (.bool (nameL s).isSome) ∧ ∃ p : Regrown, w'' = grow (redrawn w p.d) p.os :=
  Calls.regrown_of (sNameOk s _ hs)
theorem hsS_any (s : ByteArray) (hs : s.size ≤ 1048576) (w : World) (d : Nat) (os : Array Obj) :
    Calls Tryz.prog 48 #[.string s] (grow (redrawn w d) os) fun e w'' => e = .returned (.int .i64 (hashN s)) ∧ ∃ p : Regrown, w'' = grow (redrawn w p.d) p.os :=
  Calls.regrown_of (sHashOf s _ hs)
theorem inS_any (x a b : Int) (w : World) (d : Nat) (os : Array Obj) :
    Calls Tryz.prog 62 #[.int .i64 x, .int .i64 a, .int .i64 b] (grow (redrawn w d) os) fun e w'' => e = .returned (.bool (inB x a b)) ∧ ∃ p : Regrown, w'' = grow (redrawn w p.d) p.os :=
  Calls.regrown_of ((in_any x a b _).mono fun e w' h => ⟨h.1, by rw [← h.2]; exact Below.refl _ _⟩)
theorem lsS_any (e : En) (h k : Int) (w : World) (d : Nat) (os : Array Obj) :
    Calls Tryz.prog 108 #[.agg #[.int .i64 e.hash, .int .i64 e.index, .string e.name, .int .i64 e.id], .int .i64 h, .int .i64 k] (grow (redrawn w d) os) fun x w'' => x = .returned (.bool (lessB e h k)) ∧ ∃ p : Regrown, w'' = grow (redrawn w p.d) p.os :=
  Calls.regrown_of (l5Less_any e h k _)
theorem alS_any (a b : ByteArray) (ha : a.size ≤ 1048576) (hb : b.size ≤ 1048576) (w : World) (d : Nat) (os : Array Obj) :
    Calls Tryz.prog 109 #[.string a, .string b] (grow (redrawn w d) os) fun e w'' => e = .returned (.bool (alikeB a b)) ∧ ∃ p : Regrown, w'' = grow (redrawn w p.d) p.os :=
  Calls.regrown_of (sAlike a b _ ha hb)

theorem new_cells (w : World) (h i : Int) (s : ByteArray) (d : Int) : CellsE (w.alloc (.cells #[.int .i64 h, .int .i64 i, .string s, .int .i64 d] 77)) w.heap.size 0 ⟨h, i, s, d⟩ := by
  refine ⟨?_, ?_, ?_, ?_⟩ <;> rw [World.cell?_alloc_mark] <;> rfl
theorem entB_in (e : En) : entB e = ((nameL e.name).isSome && decide (e.hash = hashN e.name) && inB e.index 0 12 && inB e.id 1 100000) := rfl

/-- what a right row has at each place -/
theorem dirB_at {d : List En} (h : dirB d = true) {k : Nat} (hk : k < d.length) : entB d[k]! = true ∧ (k = 0 ∨ lessB d[k - 1]! d[k]!.hash d[k]!.index = true) ∧ (∀ t, t < k → alikeB d[t]!.name d[k]!.name = false) :=
  ((right_take hk).1 (right_part (dirB_iff.1 h).toRightP (k + 1))).2

set_option maxRecDepth 100000 in
set_option maxHeartbeats 2000000 in
theorem sDirOk (v : Value) (d : List En) (w : World) (hv : EntsAt w v d) (hd : Shorts d) (hl : d.length ≤ 1048576) :
    Calls Tryz.prog 90 #[v] w fun e w' => e = .returned (.bool (dirB d)) ∧ Below w.heap.size w w' := by
  obtain ⟨a, ca, rfl, -, hva⟩ := hv
  have HAT : Hid (dirB d = true → ∀ k, k < d.length → entB d[k]! = true ∧ (k = 0 ∨ lessB d[k - 1]! d[k]!.hash d[k]!.index = true) ∧ (∀ t, t < k → alikeB d[t]!.name d[k]!.name = false)) := fun h k hk => dirB_at h hk
  have HLN : Hid (dirB d = true → d.length ≤ 12) := fun h => (dirB_iff.1 h).len
  have HTR : Hid (d.length ≤ 12 → RightP (d.take d.length) → dirB d = true) := fun h1 h2 => by
    rw [List.take_length] at h2; exact dirB_iff.2 ⟨h2, h1⟩
  have HST : Hid (∀ k, k < d.length → RightP (d.take k) → entB d[k]! = true → (k = 0 ∨ lessB d[k - 1]! d[k]!.hash d[k]!.index = true) → (∀ t, t < k → alikeB d[t]!.name d[k]!.name = false) → RightP (d.take (k + 1))) := fun k hk h1 h2 h3 h4 => (right_take hk).2 ⟨h1, h2, h3, h4⟩
  generalize dirB d = r at HAT HLN HTR ⊢
  have hS := fun i (hi : i < d.length) => hd.at hi
  obtain ⟨n, HL⟩ : ∃ n, Hid (n = d.length) := ⟨_, rfl⟩
  rw [← HL.out] at hva hl HAT HLN HTR HST hS ⊢
  clear hd
  by_cases hn : n ≤ 12
  · have hn' : ¬ (12 < (n : Int)) := by omega
    go_enter Tryz.func90, Tryz.ntmps90
    go_wp2
    go_loopw [3] (fun i wr => ∃ k : Nat, k ≤ n ∧ i = .int .i64 k ∧ Hid (RightP (d.take k)) ∧ Below w.heap.size w wr) (fun i _ => n - (intOf i).toNat)
    case atStart => exact ⟨0, Nat.zero_le _, rfl, by show RightP _; rw [List.take_zero]; exact RightP.nil, Below.refl _ _⟩
    case round =>
      obtain ⟨k, hk, rfl, HRT, hbel⟩ := hrel
      by_cases hlt : k < n
      · obtain ⟨b1, o1, rfl, hb1, hc1⟩ := hva k hlt
        have hc1 := hc1.below hb1 hbel
        /- ways -/
        obtain ⟨m, HM⟩ : ∃ m, Hid (m = k - 1) := ⟨_, rfl⟩
        obtain ⟨b3, o3, e3, hb3, hc3⟩ := hva m (by have := HM.out; omega)
        cases e3
        have hc3 := hc3.below hb1 hbel
        have hnm := hS k hlt
        have HF : Hid (¬ (entB d[k]! = true ∧ (k = 0 ∨ lessB d[m]! d[k]!.hash d[k]!.index = true)) → r = false) := fun h => by
          cases hr : r
          · rfl
          · have := HAT.out hr k hlt
            rw [← HM.out] at this
            exact absurd ⟨this.1, this.2.1⟩ h
        have HA : Hid (∀ j, j < k → alikeB d[j]!.name d[k]!.name = true → r = false) := fun j hj h => by
          cases hr : r
          · rfl
          · have := (HAT.out hr k hlt).2.2 j hj
            rw [h] at this; cases this
        have HG : Hid ((entB d[k]! = true ∧ (k = 0 ∨ lessB d[m]! d[k]!.hash d[k]!.index = true)) → (∀ t, t < k → alikeB d[t]!.name d[k]!.name = false) → RightP (d.take (k + 1))) := fun h h4 => HST.out k hlt HRT.out h.1 (by rw [← HM.out]; exact h.2) h4
        rw [entB_in] at HF HG
        generalize d[k]! = x at hc1 HF HA HG hnm
        generalize d[m]! = y at hc3 HF HG
        obtain ⟨hh, ix, nm, id⟩ := x
        obtain ⟨y0, y1, y2, y3⟩ := y
        have c0 := hc1.c0
        have c1 := hc1.c1
        have c2 := hc1.c2
        have c3 := hc1.c3
        dsimp only at c0 c1 c2 c3 HF HA HG hnm
        have hb5 := below_lit wr (.cells #[.int .i64 hh, .int .i64 ix, .string nm, .int .i64 id] 77)
        have hc5 := hc3.below (Nat.lt_of_lt_of_le hb1 hbel.size) hb5
        have hcg := new_cells wr hh ix nm id
        have hg5 : wr.heap.size < (wr.alloc (.cells #[.int .i64 hh, .int .i64 ix, .string nm, .int .i64 id] 77)).heap.size := by simp
        have hq0 := hcg.c0
        have hq1 := hcg.c1
        have hq2 := hcg.c2
        have hq3 := hcg.c3
        dsimp only [Nat.zero_add] at hq0 hq1 hq2 hq3
        have hbel5 := hbel.trans (hb5.mono hbel.size)
        obtain ⟨w5, HW5⟩ : ∃ w5, Hid (w5 = wr.alloc (.cells #[.int .i64 hh, .int .i64 ix, .string nm, .int .i64 id] 77)) := ⟨_, rfl⟩
        rw [← HW5.out] at hbel5 hq0 hq1 hq2 hq3 hc5 hg5
        have q0 := cell_regrown hq0
        have q1 := cell_regrown hq1
        have q2 := cell_regrown hq2
        have q3 := cell_regrown hq3
        have p0 := cell_regrown hc5.c0
        have p1 := cell_regrown hc5.c1
        have p2 := cell_regrown hc5.c2
        have p3 := cell_regrown hc5.c3
        have hNM := fun dd os => nmS_any nm hnm w5 dd os
        have hHS := fun dd os => hsS_any nm hnm w5 dd os
        have hIX := fun dd os => inS_any ix 0 12 w5 dd os
        have hID := fun dd os => inS_any id 1 100000 w5 dd os
        have hLS := fun dd os => lsS_any ⟨y0, y1, y2, y3⟩ hh ix w5 dd os
        dsimp only at p0 p1 p2 p3 hLS
        generalize (nameL nm).isSome = pN at hNM HF HG
        generalize hashN nm = hN at hHS HF HG
        generalize inB ix 0 12 = bI at hIX HF HG
        generalize inB id 1 100000 = bD at hID HF HG
        generalize lessB ⟨y0, y1, y2, y3⟩ hh ix = bL at hLS HF HG
        have zm : 0 < k → IntKind.i64.wrap ((k : Int) - 1) = (m : Int) := fun h => by rw [IntKind.wrap_i64, HM.out]; omega
        have hkn : (k : Int) < (n : Int) := by omega
        have jm : (m : Int) < (n : Int) := by have := HM.out; omega
        have jm0 : (0 : Int) ≤ (m : Int) := by omega
        clear hc1 hc3 hc5 hcg hb5
        cases pN
        · clear zm
          have hr : r = false := HF.out (by simp)
          subst hr
          clear HF HA HG HAT HST HTR HLN hva
          go_wp2
          rw [← HW5.out]
          refine wp_region_quiet_below (by kernel_rfl) (by kernel_rfl) ?_
          repeat (go_big_quiet_step (first | with_reducible exact hNM _ _ | with_reducible exact hHS _ _ | with_reducible exact hIX _ _ | with_reducible exact hID _ _ | with_reducible exact hLS _ _))
          refine wpQuiet_nil ?_
          rintro w' ⟨⟨dq, osq⟩, rfl⟩
          have hbq := below_regrown w5 dq osq
          generalize grow (redrawn w5 dq) osq = w6 at hbq ⊢
          have hbel6 : Below w.heap.size w w6 := hbel5.trans (hbq.mono hbel5.size)
          go_wp2
          go_ret
          exact ⟨rfl, hbel6⟩
        · by_cases hne : hh = hN
          · have n1 : (hh != hN) = false := by simp [hne]
            cases bI
            · clear zm hne
              have hr : r = false := HF.out (by simp)
              subst hr
              clear HF HA HG HAT HST HTR HLN hva
              go_wp2
              rw [← HW5.out]
              refine wp_region_quiet_below (by kernel_rfl) (by kernel_rfl) ?_
              repeat (go_big_quiet_step (first | with_reducible exact hNM _ _ | with_reducible exact hHS _ _ | with_reducible exact hIX _ _ | with_reducible exact hID _ _ | with_reducible exact hLS _ _))
              refine wpQuiet_nil ?_
              rintro w' ⟨⟨dq, osq⟩, rfl⟩
              have hbq := below_regrown w5 dq osq
              generalize grow (redrawn w5 dq) osq = w6 at hbq ⊢
              have hbel6 : Below w.heap.size w w6 := hbel5.trans (hbq.mono hbel5.size)
              go_wp2
              go_ret
              exact ⟨rfl, hbel6⟩
            · cases bD
              · clear zm hne
                have hr : r = false := HF.out (by simp)
                subst hr
                clear HF HA HG HAT HST HTR HLN hva
                go_wp2
                rw [← HW5.out]
                refine wp_region_quiet_below (by kernel_rfl) (by kernel_rfl) ?_
                repeat (go_big_quiet_step (first | with_reducible exact hNM _ _ | with_reducible exact hHS _ _ | with_reducible exact hIX _ _ | with_reducible exact hID _ _ | with_reducible exact hLS _ _))
                refine wpQuiet_nil ?_
                rintro w' ⟨⟨dq, osq⟩, rfl⟩
                have hbq := below_regrown w5 dq osq
                generalize grow (redrawn w5 dq) osq = w6 at hbq ⊢
                have hbel6 : Below w.heap.size w w6 := hbel5.trans (hbq.mono hbel5.size)
                go_wp2
                go_ret
                exact ⟨rfl, hbel6⟩
              · by_cases hk0 : k = 0
                · clear zm
                  have HOK : Hid ((∀ t, t < k → alikeB d[t]!.name nm = false) → RightP (d.take (k + 1))) := HG.out ⟨by simp [hne], .inl hk0⟩
                  clear HF HG HAT HST HTR HLN hne
                  have hd0 : decide (0 < k) = false := decide_eq_false (by omega)
                  clear hk0
                  go_wp2
                  rw [← HW5.out]
                  refine wp_region_quiet_below (by kernel_rfl) (by kernel_rfl) ?_
                  repeat (go_big_quiet_step (first | with_reducible exact hNM _ _ | with_reducible exact hHS _ _ | with_reducible exact hIX _ _ | with_reducible exact hID _ _ | with_reducible exact hLS _ _))
                  refine wpQuiet_nil ?_
                  rintro w' ⟨⟨dq, osq⟩, rfl⟩
                  have hbq := below_regrown w5 dq osq
                  generalize grow (redrawn w5 dq) osq = w6 at hbq ⊢
                  have hbel6 : Below w.heap.size w w6 := hbel5.trans (hbq.mono hbel5.size)
                  have hg6 := hbq.size
                  have ge6 := (hbq.cell (p := ⟨wr.heap.size, 2, none⟩) hg5).trans hq2
                  clear p0 p1 p2 p3 q0 q1 q2 q3 hNM hHS hIX hID hLS
                  generalize wr.heap.size = g at ge6 hg5 ⊢
                  go_wp2
                  go_loopw [5] (fun jv wr2 => ∃ j : Nat, j ≤ k ∧ jv = .int .i64 j ∧ Hid (∀ t, t < j → alikeB d[t]!.name nm = false) ∧ Below w6.heap.size w6 wr2) (fun jv _ => k - (intOf jv).toNat)
                  case atStart => exact ⟨0, Nat.zero_le _, rfl, fun t ht => by omega, Below.refl _ _⟩
                  case round =>
                    obtain ⟨j, hj, rfl, HNE, hbel2⟩ := hrel
                    by_cases hjk : j < k
                    · obtain ⟨b2, o2, e2, hb2, hc2⟩ := hva j (by omega)
                      cases e2
                      have hbel7 : Below w.heap.size w wr := hbel6.trans (hbel2.mono hbel6.size)
                      have s2 := cell_regrown ((hbel7.cell (p := ⟨b1, o1 + j * 4 + 2, none⟩) hb1).trans hc2.c2)
                      have e2 := cell_regrown ((hbel2.cell (p := ⟨g, 2, none⟩) (Nat.lt_of_lt_of_le hg5 hg6)).trans ge6)
                      have hAL := fun dd os => alS_any d[j]!.name nm (hS j (by omega)) hnm wr dd os
                      have HBAD : Hid (alikeB d[j]!.name nm = true → r = false) := HA.out j hjk
                      have HGO : Hid (alikeB d[j]!.name nm = false → ∀ t, t < j + 1 → alikeB d[t]!.name nm = false) := fun h t ht => by
                        by_cases e : t = j
                        · rw [e]; exact h
                        · exact HNE.out t (by omega)
                      generalize alikeB d[j]!.name nm = q at hAL HBAD HGO
                      generalize d[j]!.name = nj at s2 hAL
                      have hjn : (j : Int) < (n : Int) := by omega
                      have hj0 : (0 : Int) ≤ (j : Int) := by omega
                      clear hc2 HA
                      cases q
                      · have HGO' : Hid _ := HGO.out rfl
                        clear HGO HBAD
                        go_wp2
                        refine wp_region_quiet_below (by kernel_rfl) (by kernel_rfl) ?_
                        repeat (go_big_quiet_step (exact hAL _ _))
                        refine wpQuiet_nil ?_
                        rintro w' ⟨⟨dq2, osq2⟩, rfl⟩
                        have hbq2 := below_regrown wr dq2 osq2
                        generalize grow (redrawn wr dq2) osq2 = w8 at hbq2 ⊢
                        go_wp2
                        go_roundw
                        case rel => exact ⟨j + 1, by omega, by go_num, HGO'.out, hbel2.trans (hbq2.mono hbel2.size)⟩
                        case measure => simp [intOf]; omega
                      · have hr := HBAD.out rfl
                        clear HGO HBAD HOK
                        subst hr
                        go_wp2
                        refine wp_region_quiet_below (by kernel_rfl) (by kernel_rfl) ?_
                        repeat (go_big_quiet_step (exact hAL _ _))
                        refine wpQuiet_nil ?_
                        rintro w' ⟨⟨dq2, osq2⟩, rfl⟩
                        have hbq2 := below_regrown wr dq2 osq2
                        generalize grow (redrawn wr dq2) osq2 = w8 at hbq2 ⊢
                        go_wp2
                        go_ret
                        exact ⟨rfl, hbel7.trans (hbq2.mono hbel7.size)⟩
                    · obtain rfl : j = k := by omega
                      have HN2 : Hid _ := HOK.out HNE.out
                      go_wp2
                      go_roundw
                      case rel => exact ⟨j + 1, by omega, by go_num, HN2.out, hbel6.trans (hbel2.mono hbel6.size)⟩
                      case measure => simp [intOf]; omega
                · have zk := zm (by omega)
                  have hd1 : decide (0 < k) = true := decide_eq_true (by omega)
                  clear zm
                  cases bL
                  · have hr : r = false := HF.out (by rintro ⟨-, h | h⟩; exact hk0 h; cases h)
                    subst hr
                    clear HF HA HG HAT HST HTR HLN hva hne hk0
                    go_wp2
                    rw [← HW5.out]
                    refine wp_region_quiet_below (by kernel_rfl) (by kernel_rfl) ?_
                    repeat (go_big_quiet_step (first | with_reducible exact hNM _ _ | with_reducible exact hHS _ _ | with_reducible exact hIX _ _ | with_reducible exact hID _ _ | with_reducible exact hLS _ _))
                    refine wpQuiet_nil ?_
                    rintro w' ⟨⟨dq, osq⟩, rfl⟩
                    have hbq := below_regrown w5 dq osq
                    generalize grow (redrawn w5 dq) osq = w6 at hbq ⊢
                    have hbel6 : Below w.heap.size w w6 := hbel5.trans (hbq.mono hbel5.size)
                    go_wp2
                    go_ret
                    exact ⟨rfl, hbel6⟩
                  · skip
                    have HOK : Hid ((∀ t, t < k → alikeB d[t]!.name nm = false) → RightP (d.take (k + 1))) := HG.out ⟨by simp [hne], .inr rfl⟩
                    clear HF HG HAT HST HTR HLN hne
                    clear hk0
                    go_wp2
                    rw [← HW5.out]
                    refine wp_region_quiet_below (by kernel_rfl) (by kernel_rfl) ?_
                    repeat (go_big_quiet_step (first | with_reducible exact hNM _ _ | with_reducible exact hHS _ _ | with_reducible exact hIX _ _ | with_reducible exact hID _ _ | with_reducible exact hLS _ _))
                    refine wpQuiet_nil ?_
                    rintro w' ⟨⟨dq, osq⟩, rfl⟩
                    have hbq := below_regrown w5 dq osq
                    generalize grow (redrawn w5 dq) osq = w6 at hbq ⊢
                    have hbel6 : Below w.heap.size w w6 := hbel5.trans (hbq.mono hbel5.size)
                    have hg6 := hbq.size
                    have ge6 := (hbq.cell (p := ⟨wr.heap.size, 2, none⟩) hg5).trans hq2
                    clear p0 p1 p2 p3 q0 q1 q2 q3 hNM hHS hIX hID hLS
                    generalize wr.heap.size = g at ge6 hg5 ⊢
                    go_wp2
                    go_loopw [5] (fun jv wr2 => ∃ j : Nat, j ≤ k ∧ jv = .int .i64 j ∧ Hid (∀ t, t < j → alikeB d[t]!.name nm = false) ∧ Below w6.heap.size w6 wr2) (fun jv _ => k - (intOf jv).toNat)
                    case atStart => exact ⟨0, Nat.zero_le _, rfl, fun t ht => by omega, Below.refl _ _⟩
                    case round =>
                      obtain ⟨j, hj, rfl, HNE, hbel2⟩ := hrel
                      by_cases hjk : j < k
                      · obtain ⟨b2, o2, e2, hb2, hc2⟩ := hva j (by omega)
                        cases e2
                        have hbel7 : Below w.heap.size w wr := hbel6.trans (hbel2.mono hbel6.size)
                        have s2 := cell_regrown ((hbel7.cell (p := ⟨b1, o1 + j * 4 + 2, none⟩) hb1).trans hc2.c2)
                        have e2 := cell_regrown ((hbel2.cell (p := ⟨g, 2, none⟩) (Nat.lt_of_lt_of_le hg5 hg6)).trans ge6)
                        have hAL := fun dd os => alS_any d[j]!.name nm (hS j (by omega)) hnm wr dd os
                        have HBAD : Hid (alikeB d[j]!.name nm = true → r = false) := HA.out j hjk
                        have HGO : Hid (alikeB d[j]!.name nm = false → ∀ t, t < j + 1 → alikeB d[t]!.name nm = false) := fun h t ht => by
                          by_cases e : t = j
                          · rw [e]; exact h
                          · exact HNE.out t (by omega)
                        generalize alikeB d[j]!.name nm = q at hAL HBAD HGO
                        generalize d[j]!.name = nj at s2 hAL
                        have hjn : (j : Int) < (n : Int) := by omega
                        have hj0 : (0 : Int) ≤ (j : Int) := by omega
                        clear hc2 HA
                        cases q
                        · have HGO' : Hid _ := HGO.out rfl
                          clear HGO HBAD
                          go_wp2
                          refine wp_region_quiet_below (by kernel_rfl) (by kernel_rfl) ?_
                          repeat (go_big_quiet_step (exact hAL _ _))
                          refine wpQuiet_nil ?_
                          rintro w' ⟨⟨dq2, osq2⟩, rfl⟩
                          have hbq2 := below_regrown wr dq2 osq2
                          generalize grow (redrawn wr dq2) osq2 = w8 at hbq2 ⊢
                          go_wp2
                          go_roundw
                          case rel => exact ⟨j + 1, by omega, by go_num, HGO'.out, hbel2.trans (hbq2.mono hbel2.size)⟩
                          case measure => simp [intOf]; omega
                        · have hr := HBAD.out rfl
                          clear HGO HBAD HOK
                          subst hr
                          go_wp2
                          refine wp_region_quiet_below (by kernel_rfl) (by kernel_rfl) ?_
                          repeat (go_big_quiet_step (exact hAL _ _))
                          refine wpQuiet_nil ?_
                          rintro w' ⟨⟨dq2, osq2⟩, rfl⟩
                          have hbq2 := below_regrown wr dq2 osq2
                          generalize grow (redrawn wr dq2) osq2 = w8 at hbq2 ⊢
                          go_wp2
                          go_ret
                          exact ⟨rfl, hbel7.trans (hbq2.mono hbel7.size)⟩
                      · obtain rfl : j = k := by omega
                        have HN2 : Hid _ := HOK.out HNE.out
                        go_wp2
                        go_roundw
                        case rel => exact ⟨j + 1, by omega, by go_num, HN2.out, hbel6.trans (hbel2.mono hbel6.size)⟩
                        case measure => simp [intOf]; omega
          · have n1 : (hh != hN) = true := by simp [hne]
            have hr : r = false := HF.out (by simp [hne])
            subst hr
            clear HF HA HG HAT HST HTR HLN hva hne zm
            go_wp2
            rw [← HW5.out]
            refine wp_region_quiet_below (by kernel_rfl) (by kernel_rfl) ?_
            repeat (go_big_quiet_step (first | with_reducible exact hNM _ _ | with_reducible exact hHS _ _ | with_reducible exact hIX _ _ | with_reducible exact hID _ _ | with_reducible exact hLS _ _))
            refine wpQuiet_nil ?_
            rintro w' ⟨⟨dq, osq⟩, rfl⟩
            have hbq := below_regrown w5 dq osq
            generalize grow (redrawn w5 dq) osq = w6 at hbq ⊢
            have hbel6 : Below w.heap.size w w6 := hbel5.trans (hbq.mono hbel5.size)
            go_wp2
            go_ret
            exact ⟨rfl, hbel6⟩
      · obtain rfl : k = n := by omega
        have hr := HTR.out hn HRT.out
        go_wp2
        go_ret
        exact ⟨by rw [hr]; rfl, hbel⟩
  · have hr : r = false := by
      cases h : r
      · rfl
      · exact absurd (HLN.out h) hn
    subst hr
    have hn' : 12 < (n : Int) := by omega
    go_enter Tryz.func90, Tryz.ntmps90
    go_wp2
    go_ret
    exact ⟨rfl, Below.refl _ _⟩
end

section
open Go.RowKit

/-- an entry's block written anew -/
theorem put_cells (w : World) (g : Nat) (T : TypeId) (a0 a1 a2 a3 x0 x1 x2 x3 : Value) (h : w.heap[g]? = some (.cells #[a0, a1, a2, a3] T (0, 0))) :
    ((((w.setCell ⟨g, 0, none⟩ x0).setCell ⟨g, 1, none⟩ x1).setCell ⟨g, 2, none⟩ x2).setCell ⟨g, 3, none⟩ x3).heap[g]? = some (.cells #[x0, x1, x2, x3] T (0, 0)) := by
  have h1 := Go.heap_setCell_same w g 0 _ _ x0 h
  have h2 := Go.heap_setCell_same _ g 1 _ _ x1 h1
  have h3 := Go.heap_setCell_same _ g 2 _ _ x2 h2
  exact Go.heap_setCell_same _ g 3 _ _ x3 h3


/-- a block that holds an entry: its cells, and that they may be written -/
theorem block_cells {w : World} {g : Nat} {T : TypeId} {a0 a1 a2 a3 : Value} (h : w.heap[g]? = some (.cells #[a0, a1, a2, a3] T (0, 0))) :
    ((w.cell? ⟨g, 0, none⟩ = some a0 ∧ w.cell? ⟨g, 1, none⟩ = some a1) ∧ w.cell? ⟨g, 2, none⟩ = some a2 ∧ w.cell? ⟨g, 3, none⟩ = some a3) ∧ (w.frozen? ⟨g, 0, none⟩ = false ∧ w.frozen? ⟨g, 1, none⟩ = false) ∧ w.frozen? ⟨g, 2, none⟩ = false ∧ w.frozen? ⟨g, 3, none⟩ = false := by
  refine ⟨⟨⟨?_, ?_⟩, ?_, ?_⟩, ⟨?_, ?_⟩, ?_, ?_⟩
  · rw [cell_of_row w g 0 _ _ (0, 0) h]; rfl
  · rw [cell_of_row w g 1 _ _ (0, 0) h]; rfl
  · rw [cell_of_row w g 2 _ _ (0, 0) h]; rfl
  · rw [cell_of_row w g 3 _ _ (0, 0) h]; rfl
  · exact frozen_of_row w g 0 _ _ h
  · exact frozen_of_row w g 1 _ _ h
  · exact frozen_of_row w g 2 _ _ h
  · exact frozen_of_row w g 3 _ _ h
end

section
open Go.RowKit
end

end Go.Proofs.YtpijjinoeghgoaaGreatDoor
