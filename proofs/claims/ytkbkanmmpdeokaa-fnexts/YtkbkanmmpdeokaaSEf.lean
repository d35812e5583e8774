/- Extents, specification's side: CutAt, BlocksOf. -/
import Derived.Test.YtkbkanmmpdeokaaRows
import Derived.Test.YtkbkanmmpdeokaaSEe
import Derived.Test.YtkbkanmmpdeokaaApH
namespace Go.Proofs.Ytkbkanmmpdeokaa
open Go.RowKit Go.Sort

noncomputable def cutN (l : List Ex) (n : Int) : List Ex := open Classical in if ExR l then extsN (cutM l n) else []
noncomputable def goneE (l : List Ex) (n : Int) : List Int := open Classical in if ExR l then goneN l n else []
noncomputable def blocksN (l : List Ex) : List Int := open Classical in if ExR l then blocksE l else []
/-- the map and what has gone when the first k file blocks are looked at -/
def cutK (l : List Ex) (n : Int) (k : Nat) : List Int := (List.range 12).map fun j : Nat => if j < k ∧ n ≤ (j : Int) then -1 else (exM l)[j]!
def goneK (l : List Ex) (n : Int) (k : Nat) : List Int := ((List.range k).filter fun j : Nat => decide (n ≤ (j : Int)) && decide (0 ≤ (exM l)[j]!)).map fun j : Nat => (exM l)[j]!
theorem cutK_len (l : List Ex) (n : Int) (k : Nat) : (cutK l n k).length = 12 := by simp [cutK]
theorem cutK_get (l : List Ex) (n : Int) (k j : Nat) (h : j < 12) : (cutK l n k)[j]! = if j < k ∧ n ≤ (j : Int) then -1 else (exM l)[j]! := by
  rw [getElem!_pos _ j (by rw [cutK_len]; exact h)]
  simp [cutK]
theorem cutK_zero (l : List Ex) (n : Int) : cutK l n 0 = exM l := map_ext _ _ (cutK_len ..) (exM_len l) fun j hj => by rw [cutK_get _ _ _ _ hj, if_neg (by omega)]
theorem cutK_all (l : List Ex) (n : Int) : cutK l n 12 = cutM l n := map_ext _ _ (cutK_len ..) (cutM_len ..) fun j hj => by
  rw [cutK_get _ _ _ _ hj, cutM_get _ _ _ hj]
  by_cases e : n ≤ (j : Int)
  · rw [if_pos ⟨hj, e⟩, if_pos e]
  · rw [if_neg (fun h => e h.2), if_neg e]
theorem cutK_at (l : List Ex) (n : Int) (k : Nat) (h : k < 12) : (cutK l n k).getD k 0 = (exM l)[k]! := by
  have e := cutK_get l n k k h
  rw [if_neg (by omega)] at e
  rw [← e, getElem!_pos _ k (by rw [cutK_len]; exact h)]
  simp [List.getD, cutK_len, h]
theorem goneK_step (l : List Ex) (n : Int) (k : Nat) : goneK l n (k + 1) = goneK l n k ++ (if n ≤ (k : Int) ∧ 0 ≤ (exM l)[k]! then [(exM l)[k]!] else []) := by
  unfold goneK
  rw [List.range_succ, List.filter_append, List.map_append]
  congr 1
  by_cases e : n ≤ (k : Int) ∧ 0 ≤ (exM l)[k]!
  · rw [if_pos e, List.filter_cons_of_pos (by rw [Bool.and_eq_true]; exact ⟨decide_eq_true e.1, decide_eq_true e.2⟩)]
    rfl
  · rw [if_neg e, List.filter_cons_of_neg (by rw [Bool.and_eq_true]; exact fun h => e ⟨of_decide_eq_true h.1, of_decide_eq_true h.2⟩)]
    rfl
theorem goneK_len (l : List Ex) (n : Int) (k : Nat) : (goneK l n k).length ≤ k := by
  unfold goneK
  rw [List.length_map]
  exact Nat.le_trans (List.length_filter_le _ _) (by simp)
theorem goneK_all {l : List Ex} (h : ExR l) (n : Int) : goneK l n 12 = goneN l n := (gone_is h n).symm
theorem cutK_go (l : List Ex) (n : Int) (k : Nat) (h : k < 12) (hn : n ≤ (k : Int)) : (cutK l n k).set k (-1) = cutK l n (k + 1) :=
  map_ext _ _ (by rw [List.length_set, cutK_len]) (cutK_len ..) fun j hj => by
    rw [set_get _ _ _ _ (by rw [cutK_len]; exact h), cutK_get _ _ _ _ hj, cutK_get _ _ _ _ hj]
    by_cases e : j = k
    · subst e; rw [if_pos rfl, if_pos ⟨by omega, hn⟩]
    · rw [if_neg e]
      by_cases e2 : j < k ∧ n ≤ (j : Int)
      · rw [if_pos e2, if_pos ⟨by omega, e2.2⟩]
      · rw [if_neg e2, if_neg (fun h => e2 ⟨by omega, h.2⟩)]
theorem cutK_stay {l : List Ex} (hl : ExR l) (n : Int) (k : Nat) (h : k < 12) (hn : ¬ (n ≤ (k : Int) ∧ 0 ≤ (exM l)[k]!)) : cutK l n (k + 1) = cutK l n k :=
  map_ext _ _ (cutK_len ..) (cutK_len ..) fun j hj => by
    rw [cutK_get _ _ _ _ hj, cutK_get _ _ _ _ hj]
    by_cases e : j = k
    · subst e
      rw [if_neg (show ¬ (j < j ∧ n ≤ (j : Int)) by omega)]
      by_cases e2 : n ≤ (j : Int)
      · rw [if_pos ⟨by omega, e2⟩]
        rcases exM_neg hl j h with h0 | h0
        · exact absurd ⟨e2, h0⟩ hn
        · exact h0.symm
      · rw [if_neg (fun h => e2 h.2)]
    · by_cases e2 : j < k ∧ n ≤ (j : Int)
      · rw [if_pos e2, if_pos ⟨by omega, e2.2⟩]
      · rw [if_neg e2, if_neg (fun h => e2 ⟨by omega, h.2⟩)]

def SaysCt (w : World) (L : List Ex) (G : List Int) (e : Ending) (w' : World) : Prop := ∃ x0 x1, e = .returned (.tuple #[x0, x1]) ∧ ExRow w' w.heap.size x0 L ∧ IntRow w' w.heap.size x1 G ∧ Below w.heap.size w w'

set_option maxRecDepth 100000 in
set_option maxHeartbeats 4000000 in
theorem sCutAt (v : Value) (l : List Ex) (n : Int) (w : World) (hl : l.length ≤ 1048576) (hv : ExsAt w v l) :
    Calls Try.prog 26 #[v, .int .i64 n] w fun e w' => SaysCt w (cutN l n) (goneE l n) e w' := by
  have B0 := below_lit w (.cells #[] 3)
  have R0 : IntRow (w.alloc (.cells #[] 3)) w.heap.size (.slice (some ⟨w.heap.size, 0, none⟩) 0 0) [] := lit_at w #[] [] 0 rfl rfl (by omega)
  have HK := sExtsOk v l _ hl (hv.below B0)
  by_cases h : ExR l
  · rw [okE_yes h] at HK
    have HM := fun w' b => l16Map_any v l w' h (hv.below b)
    have hml := exM_len l
    have HST : Hid (∀ k : Nat, k < 12 → (n ≤ (k : Int) → (cutK l n k).set k (-1) = cutK l n (k + 1)) ∧ ((n ≤ (k : Int) ∧ 0 ≤ (exM l)[k]!) → goneK l n (k + 1) = goneK l n k ++ [(exM l)[k]!]) ∧ (¬ (n ≤ (k : Int) ∧ 0 ≤ (exM l)[k]!) → cutK l n (k + 1) = cutK l n k ∧ goneK l n (k + 1) = goneK l n k)) := fun k hk => ⟨cutK_go l n k hk, fun e => by rw [goneK_step, if_pos e], fun e => ⟨cutK_stay h n k hk e, by rw [goneK_step, if_neg e, List.append_nil]⟩⟩
    have HAT : Hid (∀ k : Nat, k < 12 → (cutK l n k).getD k 0 = (exM l)[k]!) := fun k hk => cutK_at l n k hk
    have HCL : Hid (∀ k, (cutK l n k).length = 12) := fun k => cutK_len l n k
    have HGL : Hid (∀ k, (goneK l n k).length ≤ k) := fun k => goneK_len l n k
    have HC0 : Hid (exM l = cutK l n 0) := (cutK_zero l n).symm
    have HE1 : Hid (cutN l n = extsN (cutK l n 12)) := by show _ = _; unfold cutN; rw [if_pos h, cutK_all]
    have HE2 : Hid (goneE l n = goneK l n 12) := by show _ = _; unfold goneE; rw [if_pos h, goneK_all h]
    have HEX := fun u w' => l16Exts_any u (cutK l n 12) w' (cutK_len l n 12) (fun k => by
      rw [cutK_all]
      by_cases hk : k < 12
      · rw [cutM_get _ _ _ hk]
        by_cases e : n ≤ (k : Int)
        · rw [if_pos e]; decide
        · rw [if_neg e]; exact exM_lt h k
      · have : (cutM l n)[k]! = default := getElem!_neg _ _ (by rw [cutM_len]; exact hk)
        rw [this]; decide)
    generalize cutN l n = L at HE1 ⊢
    generalize goneE l n = G at HE2 ⊢
    clear h
    go_enter Try.func26, Try.ntmps26
    go_wp2_with (first | (go_at_call 13; refine HK.mono ?_; rintro e w1 ⟨rfl, b1⟩) | (go_at_call 41; refine (HM _ (B0.trans (b1.mono B0.size))).mono ?_; rintro e w2 ⟨u, rfl, r2, b2⟩; obtain ⟨g, cap, rfl, hg, -, -, -⟩ := own12 r2 hml (show 0 < 12 by omega) 0))
    have B1 := B0.trans (b1.mono B0.size)
    have B2 := B1.trans (b2.mono B1.size)
    have R2 : IntRow w2 w.heap.size (.slice (some ⟨w.heap.size, 0, none⟩) 0 0) (goneK l n 0) := (R0.below b1).below b2
    rw [HC0.out] at r2
    have hgw : w.heap.size < g := by
      have := b1.size
      have h1 : (w.alloc (.cells #[] 3)).heap.size = w.heap.size + 1 := by simp
      omega
    clear HK HM R0 hml HC0
    go_loopw [6, 8] (fun gv iv wr => ∃ k : Nat, k ≤ 12 ∧ iv = .int .i64 k ∧ IntRow wr w.heap.size gv (goneK l n k) ∧ Hid (∀ j, gv.ownBlock = some j → j ≠ g) ∧ IntRow wr w1.heap.size (.slice (some ⟨g, 0, none⟩) 12 cap) (cutK l n k) ∧ Below w.heap.size w wr) (fun _ iv _ => 12 - (intOf iv).toNat)
    case atStart => exact ⟨0, Nat.zero_le _, rfl, R2, fun j hj => by (simp [Value.ownBlock] at hj; omega), r2, B2⟩
    case round =>
      clear R2 r2
      obtain ⟨k, hk, rfl, hgr, HNB, hmr, hbel⟩ := hrel
      by_cases hlt : k < 12
      · have hltz : (k : Int) < 12 := by omega
        obtain ⟨ga, gc, hgv, -⟩ := IntRow.at hgr
        generalize (goneK l n k).length = gn at hgv
        subst hgv
        obtain ⟨g', cap', e, -, hcl, hfz, hst⟩ := own12 hmr (HCL.out k) hlt (-1)
        cases e
        obtain ⟨K1, K2, K3⟩ := HST.out k hlt
        have H1 : Hid _ := K1
        have H2 : Hid _ := K2
        have H3 : Hid _ := K3
        clear K1 K2 K3
        rw [HAT.out k hlt] at hcl
        have hgl := HGL.out k
        have HCK := HCL.out k
        generalize (exM l)[k]! = x at *
        clear HST HAT HGL
        by_cases hn : n ≤ (k : Int)
        · by_cases hx : 0 ≤ x
          · have H1 := H1.out hn
            have H2 : Hid _ := H2.out ⟨hn, hx⟩
            have HMA := World.ownsRow.alloc hmr (.cells #[.int .i64 x] 3)
            have hgs : g < (wr.alloc (.cells #[.int .i64 x] 3)).heap.size := (World.ownsRow.lt HMA g rfl).2
            have HBA := hbel.alloc hbel.size (.cells #[.int .i64 x] 3)
            have KEY : Hid (∀ v8 w8, IntRow w8 w.heap.size v8 (goneK l n k ++ [x]) → (wr.alloc (.cells #[.int .i64 x] 3)).grownBy w8 (Value.slice ga gn gc).ownBlock → (∀ j, v8.ownBlock = some j → (Value.slice ga gn gc).ownBlock = some j ∨ (wr.alloc (.cells #[.int .i64 x] 3)).heap.size ≤ j) →
                ∃ x8, w8.cell? ⟨g, k, none⟩ = some x8 ∧ w8.frozen? ⟨g, k, none⟩ = false ∧ Hid (IntRow (w8.setCell ⟨g, k, none⟩ (.int .i64 (-1))) w.heap.size v8 (goneK l n (k + 1))) ∧ Hid (∀ j, v8.ownBlock = some j → j ≠ g) ∧ Hid (IntRow (w8.setCell ⟨g, k, none⟩ (.int .i64 (-1))) w1.heap.size (.slice (some ⟨g, 0, none⟩) 12 cap) (cutK l n (k + 1))) ∧ Hid (Below w.heap.size w (w8.setCell ⟨g, k, none⟩ (.int .i64 (-1))))) := fun v8 w8 row8 hg8 hnb8 => by
              have HM8 := World.ownsRow.kept HMA hg8 (.inr fun e => HNB.out g e.symm rfl)
              have hbel8 : Below w.heap.size w w8 := HBA.grown hg8 HBA.size (fun k hk => (World.ownsRow.lt hgr k hk).1)
              have HNB8 : ∀ j, v8.ownBlock = some j → j ≠ g := fun j hj => by
                rcases hnb8 j hj with h | h
                · exact HNB.out j h
                · omega
              obtain ⟨g9, cap9, e9, -, hx8, hfz8, hst8⟩ := own12 HM8 HCK hlt (-1)
              cases e9
              refine ⟨_, hx8, hfz8, ?_, HNB8, ?_, hbel8.setCell (Nat.le_of_lt hgw) _⟩
              · have := World.ownsRow.kept row8 (gbi_set w8 g k (.int .i64 (-1))) (by
                  cases e : v8.ownBlock with
                  | none => exact .inl rfl
                  | some j => exact .inr fun e2 => HNB8 j e (by cases e2; rfl))
                show IntRow _ _ _ _
                rw [H2.out]; exact this
              · show IntRow _ _ _ _
                rw [← H1]; exact hst8
            clear H3 hst H1 H2 HMA HNB hgs
            go_wp2_with (at_builtin; refine append_intH (wr.alloc (.cells #[.int .i64 x] 3)) rfl (.tmp 33) (.tmp 38) rfl w.heap.size _ wr.heap.size 1 (goneK l n k) x (by omega) (World.ownsRow.alloc hgr _) (cell_one_int _ _ 0 _ rfl) rfl rfl HBA.size ?_; intro v8 w8 row8 hg8 hnb8; obtain ⟨x8, hx8, hfz8, ROW9, HNB8, hst9, hbel9⟩ := KEY.out v8 w8 row8 hg8 hnb8; clear row8 hg8 hnb8)
            go_roundw
            case rel => exact ⟨k + 1, by omega, by go_num, ROW9.out, HNB8.out, hst9.out, hbel9.out⟩
            case measure => simp [intOf]; omega
          · obtain ⟨E1, E2⟩ := H3.out fun h => hx h.2
            rw [← E1] at hmr
            rw [← E2] at hgr
            clear H1 H2 H3 hst E1 E2
            go_wp2
            go_roundw
            case rel => exact ⟨k + 1, by omega, by go_num, hgr, HNB.out, hmr, hbel⟩
            case measure => simp [intOf]; omega
        · obtain ⟨E1, E2⟩ := H3.out fun h => hn h.1
          rw [← E1] at hmr
          rw [← E2] at hgr
          clear H1 H2 H3 hst E1 E2
          go_wp2
          go_roundw
          case rel => exact ⟨k + 1, by omega, by go_num, hgr, HNB.out, hmr, hbel⟩
          case measure => simp [intOf]; omega
      · obtain rfl : k = 12 := by omega
        have HML := HCL.out 12
        clear HST HAT HCL HGL
        rw [← HE2.out] at hgr
        go_wp2_with (go_at_call 44; refine (HEX _ _ (IntRow.at hmr)).mono ?_; rintro e w9 ⟨v9, rfl, row9, b9⟩)
        exact bodyPost_ret (v := .tuple #[v9, u6]) (by simp [results, Try.results26, go_sem]) rfl ⟨_, _, rfl, by rw [HE1.out]; exact row9.mono hbel.size, hgr.below b9, hbel.trans (b9.mono hbel.size)⟩
  · rw [okE_no h] at HK
    have e1 : cutN l n = [] := by unfold cutN; rw [if_neg h]
    have e2 : goneE l n = [] := by unfold goneE; rw [if_neg h]
    rw [e1, e2]
    go_enter Try.func26, Try.ntmps26
    go_wp2_with (go_at_call 13; refine HK.mono ?_; rintro e w1 ⟨rfl, b1⟩)
    have B1 := B0.trans (b1.mono B0.size)
    have R1 := (lit_Exs w1).mono B1.size
    have B2 := B1.trans ((below_lit w1 (.cells #[] 58)).mono B1.size)
    exact bodyPost_ret (v := .tuple #[.slice (some ⟨w1.heap.size, 0, none⟩) 0 0, .slice (some ⟨w.heap.size, 0, none⟩) 0 0]) (by simp [results, Try.results26, go_sem]) rfl ⟨_, _, rfl, R1, (R0.below b1).below (below_lit w1 _), B2⟩
end Go.Proofs.Ytkbkanmmpdeokaa
