/- Signs put together: impl.pairTable's walk, and the source that keeps its map. -/
import Derived.Test.YtkgnlamlmnhleaaRows
import Derived.Test.YtkgnlamlmnhleaaIPu
namespace Go.Proofs.Ytkgnlamlmnhleaa
open Go.RowKit Go.ChangeMaps Go.MapKept

set_option maxRecDepth 100000 in
set_option maxHeartbeats 2000000 in
theorem pairTable_any (w : World) :
    Calls Try.prog 47 #[] w fun e w' => e = .returned (.map (some w.heap.size)) ∧ (∃ L, PairsIs w.heap.size L w' ∧ AllPairs L) ∧ Below w.heap.size w w' := by
  have hMM := fun W => run_makeMap (P := Try.prog) 44 W
  have HP0 := PairsIs.made w
  have hb0 := below_lit w (.map #[] 0)
  go_enter Try.func47, Try.ntmps47
  go_wp2_with fail
  refine (partTable_any _).mono ?_
  rintro e w1 ⟨rfl, ⟨LT, hM, hL⟩, hb1⟩
  rw [hs_alloc] at hM hb1 ⊢
  go_wp2_with (at_range; refine wpList_tab_range _ rfl _ rfl rfl hM hL ?_; intro w2 cnt0 hT2 hb2 hs2)
  try go_frame
  have hs1 := hb1.size
  rw [hs_alloc] at hs1
  have B1 : Below w.heap.size w w1 := hb0.trans (hb1.mono (Nat.le_succ _))
  have HP1 : PairsIs w.heap.size [] w1 := HP0.kept (hb1.block _ (by omega))
  have HP2 : PairsIs w.heap.size [] w2 := HP1.kept (hb2.block _ (by omega))
  have B2 : Below w.heap.size w w2 := B1.trans (hb2.mono B1.size)
  have hr1 : w.heap.size + 1 < w1.heap.size := hM.lt
  obtain ⟨r, HRR⟩ : ∃ r, Hid (r = w1.heap.size) := ⟨_, rfl⟩
  rw [← HRR.out] at hT2 hr1 ⊢
  clear hMM HP0 hb0 hM hL hb1 hb2 hs2 hs1 B1 HP1
  go_loopw [2, 3] (fun _ _ wr => ∃ (V L : List (Int × Int × Int)) (cnt : Nat), Hid (TabLoop (w.heap.size + 1) r V cnt wr) ∧ Hid (PairsIs w.heap.size L wr) ∧ Hid (∀ x, x ∈ L ↔ (x ∈ V ∧ x.2.2 ≠ 0)) ∧ Hid (∀ x ∈ V, x ∈ pTab) ∧ Below w.heap.size w wr) (fun _ _ wr => wr.rangeLeft (w.heap.size + 1) r)
  case atStart => exact ⟨[], [], cnt0, hT2, HP2, fun x => by simp, fun x hx => by simp at hx, B2⟩
  case round =>
    obtain ⟨V, L, cnt, HT, HP, HL, HV, hbel⟩ := hrel
    have hT := HT.out
    have hmeas := hT.left_eq
    go_wp2_with (first | (at_next; refine wpList_tab_next _ rfl _ rfl rfl hT ?_ ?_) | go_in)
    · intro hc0 hall
      have HALL : ∀ x, x ∈ pTab → x ∈ V := fun x hx => by obtain ⟨s, l, m⟩ := x; exact hall.out s l m hx
      have HA : Hid (∃ L, PairsIs w.heap.size L wr ∧ AllPairs L) := ⟨L, HP.out, fun x => by rw [HL.out x]; exact ⟨fun h => ⟨HV.out x h.1, h.2⟩, fun h => ⟨HALL x h.1, h.2⟩⟩⟩
      clear hall HALL
      go_wp2
      go_ret
      exact ⟨rfl, HA.out, hbel⟩
    · intro s l m w1 cnt1 hx hnv hT1 hlt hg1 hz1 hen
      have hlts := hT1.out.lt
      have bw1 : Below w.heap.size w w1 := hbel.grown hg1 hbel.size (fun q hq => by injection hq with hq; omega)
      have hP1 : PairsIs w.heap.size L w1 := HP.out.kept (hg1.block _ HP.out.lt (fun e => by injection e with e; omega))
      have ba := (Below.refl w1.heap.size w1).alloc (Nat.le_refl _) (.cells #[.int .i64 s] 78)
      have bb := ba.alloc ba.size (.cells #[.int .i64 l, .int .i64 m] 80)
      have hV1 : Hid (∀ x ∈ (s, l, m) :: V, x ∈ pTab) := fun x h => by
        rcases List.mem_cons.1 h with rfl | h
        · exact hx.out
        · exact HV.out x h
      by_cases hm : m = 0
      · subst hm
        have hmb : ((0 : Int) != 0) = false := rfl
        have HT2 : Hid (TabLoop (w.heap.size + 1) r ((s, l, 0) :: V) cnt1 ((w1.alloc (.cells #[.int .i64 s] 78)).alloc (.cells #[.int .i64 l, .int .i64 0] 80))) := hT1.out.kept (bb.block _ hlts.1) (bb.block _ hlts.2.1)
        have HP2 : Hid (PairsIs w.heap.size L ((w1.alloc (.cells #[.int .i64 s] 78)).alloc (.cells #[.int .i64 l, .int .i64 0] 80))) := hP1.kept (bb.block _ hP1.lt)
        have HL2 : Hid (∀ x, x ∈ L ↔ (x ∈ (s, l, 0) :: V ∧ x.2.2 ≠ 0)) := fun x => by
          rw [HL.out x, List.mem_cons]
          exact ⟨fun h => ⟨.inr h.1, h.2⟩, fun h => ⟨h.1.resolve_left (fun e => h.2 (by rw [e])), h.2⟩⟩
        have HB2 : Hid (Below w.heap.size w ((w1.alloc (.cells #[.int .i64 s] 78)).alloc (.cells #[.int .i64 l, .int .i64 0] 80))) := bw1.trans (bb.mono bw1.size)
        have hl2 := HT2.out.left_eq
        clear hT hT1 hP1 bw1 ba bb HP HT HL HV hbel hg1
        go_wp2
        go_roundw
        case rel => exact ⟨_, _, _, HT2, HP2, HL2, hV1, HB2.out⟩
        case measure => rw [hl2, hmeas]; exact hlt
      · have hmb : (m != 0) = true := by simp [hm]
        have hn : ∀ y ∈ L, y.2 ≠ (s, l, m).2 := fun y hy e => by
          have h1 := (HL.out y).1 hy
          have := ptab_uniq y (HV.out y h1.1) (s, l, m) hx.out e
          exact hnv.out (by rw [← Prod.ext this e]; exact h1.1)
        have hP2 : PairsIs w.heap.size L ((w1.alloc (.cells #[.int .i64 s] 78)).alloc (.cells #[.int .i64 l, .int .i64 m] 80)) := hP1.kept (bb.block _ hP1.lt)
        have hT2 : TabLoop (w.heap.size + 1) r ((s, l, m) :: V) cnt1 ((w1.alloc (.cells #[.int .i64 s] 78)).alloc (.cells #[.int .i64 l, .int .i64 m] 80)) := hT1.out.kept (bb.block _ hlts.1) (bb.block _ hlts.2.1)
        have hB2 : Below w.heap.size w ((w1.alloc (.cells #[.int .i64 s] 78)).alloc (.cells #[.int .i64 l, .int .i64 m] 80)) := bw1.trans (bb.mono bw1.size)
        obtain ⟨w3, hrun, HP3, hg3, hz3⟩ := hP2.insert (s, l, m) hn
        have hl2 := hT2.lt
        have HP3 : Hid (PairsIs w.heap.size (L ++ [(s, l, m)]) w3) := HP3
        have HT3 : Hid (TabLoop (w.heap.size + 1) r ((s, l, m) :: V) cnt1 w3) := hT2.kept (hg3.block _ hl2.1 (fun e => by injection e with e; omega)) (hg3.block _ hl2.2.1 (fun e => by injection e with e; omega))
        have HL3 : Hid (∀ x, x ∈ L ++ [(s, l, m)] ↔ (x ∈ (s, l, m) :: V ∧ x.2.2 ≠ 0)) := fun x => by
          simp only [List.mem_append, HL.out x, List.mem_cons, List.not_mem_nil, or_false]
          exact ⟨fun h => h.elim (fun h => ⟨.inr h.1, h.2⟩) (fun h => ⟨.inl h, by rw [h]; exact hm⟩), fun h => h.1.elim .inr (fun h1 => .inl ⟨h1, h.2⟩)⟩
        have HB3 : Hid (Below w.heap.size w w3) := hB2.grown hg3 hB2.size (fun q hq => by injection hq with hq; omega)
        have hl3 := HT3.out.left_eq
        have hrun2 : (Instr.mapUpdate 44 (.map (some w.heap.size)) (.agg #[.int .i64 l, .int .i64 m]) (.int .i64 s)).run Try.prog ((w1.alloc (.cells #[.int .i64 s] 78)).alloc (.cells #[.int .i64 l, .int .i64 m] 80)) = .ok () w3 := hrun
        clear hT hT1 hP1 bw1 ba bb HP HT HL HV hbel hg1 hn hP2 hT2 hB2 hrun hg3 hz3 hl2
        go_wp2
        go_roundw
        case rel => exact ⟨_, _, _, HT3, HP3, HL3, hV1, HB3.out⟩
        case measure => rw [hl3, hmeas]; exact hlt
end Go.Proofs.Ytkgnlamlmnhleaa
