/- Extents, specification's side: BlockAt, PutBlock. -/
import Derived.Test.YtkbkanmmpdeokaaRows
import Derived.Test.YtkbkanmmpdeokaaSEc
import Derived.Test.YtkbkanmmpdeokaaSEd
namespace Go.Proofs.Ytkbkanmmpdeokaa
open Go.RowKit Go.Sort

noncomputable def blockN (l : List Ex) (i : Int) : Int := open Classical in if ExR l ∧ 0 ≤ i ∧ i < 12 then (exM l)[i.toNat]! else -1
noncomputable def putN (l : List Ex) (i b : Int) : List Ex := open Classical in if ExR l then (if putOk l i b then extsN (putM l i b) else l) else []
noncomputable def putB (l : List Ex) (i b : Int) : Bool := open Classical in decide (ExR l ∧ putOk l i b)
theorem putN_yes {l : List Ex} (h : ExR l) {i b : Int} (hp : putOk l i b) : putN l i b = extsN (putM l i b) ∧ putB l i b = true := by
  unfold putN putB; rw [if_pos h, if_pos hp]; exact ⟨rfl, by simp [h, hp]⟩
theorem putN_no {l : List Ex} (h : ExR l) {i b : Int} (hp : ¬ putOk l i b) : putN l i b = l ∧ putB l i b = false := by
  unfold putN putB; rw [if_pos h, if_neg hp]; exact ⟨rfl, by simp [hp]⟩
theorem putN_bad {l : List Ex} (h : ¬ ExR l) (i b : Int) : putN l i b = [] ∧ putB l i b = false := by
  unfold putN putB; rw [if_neg h]; exact ⟨rfl, by simp [h]⟩
theorem exM_getD (l : List Ex) (k : Nat) (h : k < 12) : (exM l).getD k 0 = (exM l)[k]! := by
  rw [getElem!_pos _ k (by rw [exM_len]; exact h)]
  simp [List.getD, exM_len, h]
/-- what must be so for a block to be put, as it is asked -/
theorem putOk_iff {l : List Ex} (h : ExR l) (i : Nat) (hi : i < 12) (b : Int) : putOk l i b ↔ (exM l)[i]! < 0 ∧ (0 ≤ b ∧ b ≤ 23) ∧ (exM l).contains b = false := by
  unfold putOk
  constructor
  · rintro ⟨-, h2, h3, h4⟩
    refine ⟨by rw [exM_none hi h2]; decide, by omega, ?_⟩
    rw [Bool.eq_false_iff]
    intro hc
    obtain ⟨j, hj⟩ := (exM_mem h b h3.1).1 (List.contains_iff_mem.1 hc)
    exact h4 j hj
  · rintro ⟨h2, h3, h4⟩
    refine ⟨by omega, fun c hc => ?_, by omega, fun j hj => ?_⟩
    · have := exM_some h.g hi hc
      have := (h.bd hc).2.2.1
      omega
    · rw [List.contains_iff_mem.2 ((exM_mem h b h3.1).2 ⟨j, hj⟩)] at h4
      cases h4

set_option maxRecDepth 100000 in
set_option maxHeartbeats 1000000 in
theorem sBlockAt (v : Value) (l : List Ex) (i : Int) (w : World) (hl : l.length ≤ 1048576) (hv : ExsAt w v l) :
    Calls Try.prog 15 #[v, .int .i64 i] w fun e w' => e = .returned (.int .i64 (blockN l i)) ∧ Below w.heap.size w w' := by
  have HK := sExtsOk v l w hl hv
  by_cases h : ExR l
  · rw [okE_yes h] at HK
    have HM := fun w' b => l16Map_any v l w' h (hv.below b)
    by_cases h0 : i < 0
    · have HB : Hid (blockN l i = -1) := by show _ = _; unfold blockN; rw [if_neg (by omega)]
      generalize blockN l i = r at HB ⊢
      go_enter Try.func15, Try.ntmps15
      go_wp2_with (go_at_call 13; refine HK.mono ?_; rintro e w1 ⟨rfl, b1⟩)
      go_ret
      exact ⟨ret_int HB.out.symm, b1⟩
    · by_cases h1 : 12 ≤ i
      · have HB : Hid (blockN l i = -1) := by show _ = _; unfold blockN; rw [if_neg (by omega)]
        generalize blockN l i = r at HB ⊢
        go_enter Try.func15, Try.ntmps15
        go_wp2_with (go_at_call 13; refine HK.mono ?_; rintro e w1 ⟨rfl, b1⟩)
        go_ret
        exact ⟨ret_int HB.out.symm, b1⟩
      · obtain ⟨k, rfl⟩ := Int.eq_ofNat_of_zero_le (show 0 ≤ i by omega)
        have hk : k < 12 := by omega
        have HB : Hid (blockN l k = (exM l).getD k 0) := by show _ = _; unfold blockN; rw [if_pos ⟨h, by omega, by omega⟩, exM_getD l k hk]; rfl
        generalize blockN l k = r at HB ⊢
        have hml := exM_len l
        generalize exM l = m at *
        go_enter Try.func15, Try.ntmps15
        go_wp2_with (first | (go_at_call 13; refine HK.mono ?_; rintro e w1 ⟨rfl, b1⟩) | (go_at_call 41; refine (HM _ b1).mono ?_; rintro e w2 ⟨u, rfl, r2, b2⟩; have b3 := b1.trans (b2.mono b1.size); obtain ⟨ma, mc, rfl, hmc⟩ := r2.at; obtain ⟨mb, mo, rfl, hmb, hcl⟩ := hmc k (by omega); rw [hml]; clear hmc HM HK r2; generalize m.getD k 0 = x at hcl HB))
        go_ret
        exact ⟨ret_int HB.out.symm, b3⟩
  · rw [okE_no h] at HK
    have HB : Hid (blockN l i = -1) := by show _ = _; unfold blockN; rw [if_neg (fun hh => h hh.1)]
    generalize blockN l i = r at HB ⊢
    go_enter Try.func15, Try.ntmps15
    go_wp2_with (go_at_call 13; refine HK.mono ?_; rintro e w1 ⟨rfl, b1⟩)
    go_ret
    exact ⟨ret_int HB.out.symm, b1⟩

/-- a map in a row of the call's own: a place of it read and written -/
theorem own12 {w : World} {base : Nat} {u : Value} {m : List Int} (r : IntRow w base u m) (hm : m.length = 12) {k : Nat} (hk : k < 12) (b : Int) :
    ∃ g cap, u = .slice (some ⟨g, 0, none⟩) 12 cap ∧ base ≤ g ∧ w.cell? ⟨g, k, none⟩ = some (.int .i64 (m.getD k 0)) ∧ w.frozen? ⟨g, k, none⟩ = false ∧ IntRow (w.setCell ⟨g, k, none⟩ (.int .i64 b)) base (.slice (some ⟨g, 0, none⟩) 12 cap) (m.set k b) := by
  have hl : (intsV m).length = 12 := by rw [intsV_length, hm]
  have r' : w.ownsRow base 3 1 u 12 (intsV m) := by have := r; unfold IntRow at this; rwa [hm] at this
  clear r
  rcases r'.2 with ⟨_, h0⟩ | ⟨g, cap, cur, rfl, hg, hh, hnc, hcp, hcs, htake⟩
  · omega
  · have hc := (World.ownsRow.cellAt r' k (by omega)).trans (intsV_get m k (by omega))
    have hf := World.ownsRow.frozenAt r' k
    have hs := (World.ownsRow.stored r' k (.int .i64 b)).1
    refine ⟨g, cap, rfl, hg, hc, hf, ?_⟩
    unfold IntRow
    have e : intsV (m.set k b) = (intsV m).set k (.int .i64 b) := by unfold intsV; rw [List.map_set]
    rw [List.length_set, hm, e]
    exact hs

def SaysPt (w : World) (L : List Ex) (r : Bool) (e : Ending) (w' : World) : Prop := ∃ u, e = .returned (.tuple #[u, .bool r]) ∧ ExRow w' w.heap.size u L ∧ Below w.heap.size w w'

set_option maxRecDepth 100000 in
set_option maxHeartbeats 4000000 in
theorem sPutBlock (v : Value) (l : List Ex) (i b : Int) (w : World) (hl : l.length ≤ 1048576) (hv : ExsAt w v l) :
    Calls Try.prog 12 #[v, .int .i64 i, .int .i64 b] w fun e w' => SaysPt w (putN l i b) (putB l i b) e w' := by
  have HK := sExtsOk v l w hl hv
  by_cases h : ExR l
  · rw [okE_yes h] at HK
    have HM := fun w' b => l16Map_any v l w' h (hv.below b)
    have hml := exM_len l
    have hlen := h.len
    have HNO : Hid (¬ putOk l i b → putN l i b = l ∧ putB l i b = false) := putN_no h
    have HRET : Hid (∀ w1 u w2, Below w.heap.size w w1 → putN l i b = l ∧ putB l i b = false → ExRow w2 w1.heap.size u l → Below w1.heap.size w1 w2 → SaysPt w (putN l i b) (putB l i b) (.returned (.tuple #[u, .bool false])) w2) := fun w1 u w2 b1 e r2 b2 => ⟨u, by rw [e.2], by rw [e.1]; exact r2.mono b1.size, b1.trans (b2.mono b1.size)⟩
    by_cases h0 : 0 ≤ i ∧ i < 12
    · obtain ⟨k, rfl⟩ := Int.eq_ofNat_of_zero_le h0.1
      have hk : k < 12 := by omega
      have HOK : Hid (putOk l k b ↔ (exM l)[k]! < 0 ∧ (0 ≤ b ∧ b ≤ 23) ∧ (exM l).contains b = false) := putOk_iff h k hk b
      rw [← exM_getD l k hk] at HOK
      have HYES : Hid (putOk l k b → putN l k b = extsN ((exM l).set k b) ∧ putB l k b = true) := fun hp => by
        obtain ⟨e1, e2⟩ := putN_yes h hp
        exact ⟨by rw [e1]; unfold putM; rw [show ((k : Int)).toNat = k by omega], e2⟩
      have HLT : Hid (putOk l k b → ∀ j : Nat, ((exM l).set k b)[j]! < 24) := fun hp j => by
        rw [set_get _ _ _ _ (by rw [exM_len]; exact hk)]
        by_cases e : j = k
        · rw [if_pos e]; have := hp.2.2.1; omega
        · rw [if_neg e]; exact exM_lt h j
      generalize putOk l k b = OK at *
      generalize putN l k b = L at *
      generalize putB l k b = R at *
      generalize exM l = m at *
      have HHAS := fun u w' => l16Has_any u m b w' (by omega)
      have HEX := fun u w' => l16Exts_any u (m.set k b) w' (by rw [List.length_set]; exact hml)
      generalize m.contains b = hb at *
      by_cases hx : 0 ≤ m.getD k 0
      · have NO : Hid (¬ OK) := fun h => by have := (HOK.out.1 h).1; omega
        have HN : Hid _ := HNO.out NO.out
        clear HOK HYES HLT HEX HNO NO
        go_enter Try.func12, Try.ntmps12
        go_wp2_with (first | (go_at_call 13; refine HK.mono ?_; rintro e w1 ⟨rfl, b1⟩) | (go_at_call 41; refine (HM _ b1).mono ?_; rintro e w2 ⟨u, rfl, r2, b2⟩; have B2 := b1.trans (b2.mono b1.size); have hat := r2.at; obtain ⟨g, cap, rfl, hg, hcl, hfz, hst⟩ := own12 r2 hml hk b; have HIN := in_any b 0 23 w2; have HHS := HHAS _ w2 hat; have HVV := hv.below (B2.trans ((below_lit w2 (.cells #[] 58)).mono B2.size)); clear hat r2 HM HK; generalize m.getD k 0 = x at *) | (go_at_call 42; refine HIN.mono ?_; rintro e w' ⟨rfl, e2⟩; rw [← e2]; clear e2 w') | (go_at_call 43; refine HHS.mono ?_; rintro e w' ⟨rfl, e2⟩; rw [e2]; clear e2 w') | (at_builtin; refine append_Exs _ rfl (.tmp 40) (.tmp 41) rfl w2.heap.size _ _ [] l (by simp; omega) (lit_Exs w2) HVV rfl rfl (below_lit w2 _).size ?_; intro v9 w9 row9 b9))
        exact bodyPost_ret (v := .tuple #[v9, .bool false]) (by simp [results, Try.results12, go_sem]) rfl (HRET.out w2 v9 w9 B2 HN.out row9 ((below_lit w2 _).trans b9))
      · by_cases hi : inB b 0 23 = true
        · by_cases hh : hb = true
          · have NO : Hid (¬ OK) := fun h => by have := (HOK.out.1 h).2.2; rw [hh] at this; cases this
            have HN : Hid _ := HNO.out NO.out
            subst hh
            clear HOK HYES HLT HEX HNO NO
            go_enter Try.func12, Try.ntmps12
            go_wp2_with (first | (go_at_call 13; refine HK.mono ?_; rintro e w1 ⟨rfl, b1⟩) | (go_at_call 41; refine (HM _ b1).mono ?_; rintro e w2 ⟨u, rfl, r2, b2⟩; have B2 := b1.trans (b2.mono b1.size); have hat := r2.at; obtain ⟨g, cap, rfl, hg, hcl, hfz, hst⟩ := own12 r2 hml hk b; have HIN := in_any b 0 23 w2; have HHS := HHAS _ w2 hat; have HVV := hv.below (B2.trans ((below_lit w2 (.cells #[] 58)).mono B2.size)); clear hat r2 HM HK; generalize m.getD k 0 = x at *) | (go_at_call 42; refine HIN.mono ?_; rintro e w' ⟨rfl, e2⟩; rw [← e2]; clear e2 w') | (go_at_call 43; refine HHS.mono ?_; rintro e w' ⟨rfl, e2⟩; rw [e2]; clear e2 w') | (at_builtin; refine append_Exs _ rfl (.tmp 40) (.tmp 41) rfl w2.heap.size _ _ [] l (by simp; omega) (lit_Exs w2) HVV rfl rfl (below_lit w2 _).size ?_; intro v9 w9 row9 b9))
            exact bodyPost_ret (v := .tuple #[v9, .bool false]) (by simp [results, Try.results12, go_sem]) rfl (HRET.out w2 v9 w9 B2 HN.out row9 ((below_lit w2 _).trans b9))
          · have hh : hb = false := by simpa using hh
            have YES : Hid OK := HOK.out.2 ⟨by omega, by simpa [inB] using hi, hh⟩
            subst hh
            obtain ⟨e1, e2⟩ := HYES.out YES.out
            rw [e1, e2]
            have HLT : Hid _ := HLT.out YES.out
            clear HOK HYES HNO HRET e1 e2
            go_enter Try.func12, Try.ntmps12
            go_wp2_with (first | (go_at_call 13; refine HK.mono ?_; rintro e w1 ⟨rfl, b1⟩) | (go_at_call 41; refine (HM _ b1).mono ?_; rintro e w2 ⟨u, rfl, r2, b2⟩; have B2 := b1.trans (b2.mono b1.size); have hat := r2.at; obtain ⟨g, cap, rfl, hg, hcl, hfz, hst⟩ := own12 r2 hml hk b; have HIN := in_any b 0 23 w2; have HHS := HHAS _ w2 hat; have HVV := hv.below (B2.trans ((below_lit w2 (.cells #[] 58)).mono B2.size)); clear hat r2 HM HK; generalize m.getD k 0 = x at *) | (go_at_call 42; refine HIN.mono ?_; rintro e w' ⟨rfl, e2⟩; rw [← e2]; clear e2 w') | (go_at_call 43; refine HHS.mono ?_; rintro e w' ⟨rfl, e2⟩; rw [e2]; clear e2 w') | (go_at_call 44; have B3 : Below w.heap.size w (w2.setCell ⟨g, k, none⟩ (.int .i64 b)) := B2.setCell (Nat.le_trans b1.size hg) _; refine (HEX _ _ HLT.out (IntRow.at hst)).mono ?_; rintro e w9 ⟨v9, rfl, row9, b9⟩))
            exact bodyPost_ret (v := .tuple #[v9, .bool true]) (by simp [results, Try.results12, go_sem]) rfl ⟨v9, rfl, row9.mono B3.size, B3.trans (b9.mono B3.size)⟩
        · have NO : Hid (¬ OK) := fun h => hi (by have := (HOK.out.1 h).2.1; simp [inB]; exact this)
          have HN : Hid _ := HNO.out NO.out
          have hi : inB b 0 23 = false := by simpa using hi
          clear HOK HYES HLT HEX HNO NO
          go_enter Try.func12, Try.ntmps12
          go_wp2_with (first | (go_at_call 13; refine HK.mono ?_; rintro e w1 ⟨rfl, b1⟩) | (go_at_call 41; refine (HM _ b1).mono ?_; rintro e w2 ⟨u, rfl, r2, b2⟩; have B2 := b1.trans (b2.mono b1.size); have hat := r2.at; obtain ⟨g, cap, rfl, hg, hcl, hfz, hst⟩ := own12 r2 hml hk b; have HIN := in_any b 0 23 w2; have HHS := HHAS _ w2 hat; have HVV := hv.below (B2.trans ((below_lit w2 (.cells #[] 58)).mono B2.size)); clear hat r2 HM HK; generalize m.getD k 0 = x at *) | (go_at_call 42; refine HIN.mono ?_; rintro e w' ⟨rfl, e2⟩; rw [← e2]; clear e2 w') | (go_at_call 43; refine HHS.mono ?_; rintro e w' ⟨rfl, e2⟩; rw [e2]; clear e2 w') | (at_builtin; refine append_Exs _ rfl (.tmp 40) (.tmp 41) rfl w2.heap.size _ _ [] l (by simp; omega) (lit_Exs w2) HVV rfl rfl (below_lit w2 _).size ?_; intro v9 w9 row9 b9))
          exact bodyPost_ret (v := .tuple #[v9, .bool false]) (by simp [results, Try.results12, go_sem]) rfl (HRET.out w2 v9 w9 B2 HN.out row9 ((below_lit w2 _).trans b9))
    · have HN : Hid _ := HNO.out fun hp => h0 hp.1
      have HVB := fun (w2 : World) (B2 : Below w.heap.size w w2) => hv.below (B2.trans ((below_lit w2 (.cells #[] 58)).mono B2.size))
      by_cases h1 : i < 0
      · go_enter Try.func12, Try.ntmps12
        go_wp2_with (first | (go_at_call 13; refine HK.mono ?_; rintro e w1 ⟨rfl, b1⟩) | (go_at_call 41; refine (HM _ b1).mono ?_; rintro e w2 ⟨u, rfl, r2, b2⟩; have B2 := b1.trans (b2.mono b1.size); obtain ⟨g, cap, rfl, -, -, -, -⟩ := own12 r2 hml (show 0 < 12 by omega) 0) | (at_builtin; refine append_Exs _ rfl (.tmp 40) (.tmp 41) rfl w2.heap.size _ _ [] l (by simp; omega) (lit_Exs w2) (HVB w2 B2) rfl rfl (below_lit w2 _).size ?_; intro v9 w9 row9 b9))
        exact bodyPost_ret (v := .tuple #[v9, .bool false]) (by simp [results, Try.results12, go_sem]) rfl (HRET.out w2 v9 w9 B2 HN.out row9 ((below_lit w2 _).trans b9))
      · have h2 : 12 ≤ i := by omega
        go_enter Try.func12, Try.ntmps12
        go_wp2_with (first | (go_at_call 13; refine HK.mono ?_; rintro e w1 ⟨rfl, b1⟩) | (go_at_call 41; refine (HM _ b1).mono ?_; rintro e w2 ⟨u, rfl, r2, b2⟩; have B2 := b1.trans (b2.mono b1.size); obtain ⟨g, cap, rfl, -, -, -, -⟩ := own12 r2 hml (show 0 < 12 by omega) 0) | (at_builtin; refine append_Exs _ rfl (.tmp 40) (.tmp 41) rfl w2.heap.size _ _ [] l (by simp; omega) (lit_Exs w2) (HVB w2 B2) rfl rfl (below_lit w2 _).size ?_; intro v9 w9 row9 b9))
        exact bodyPost_ret (v := .tuple #[v9, .bool false]) (by simp [results, Try.results12, go_sem]) rfl (HRET.out w2 v9 w9 B2 HN.out row9 ((below_lit w2 _).trans b9))
  · rw [okE_no h] at HK
    obtain ⟨e1, e2⟩ := putN_bad h i b
    rw [e1, e2]
    go_enter Try.func12, Try.ntmps12
    go_wp2_with (go_at_call 13; refine HK.mono ?_; rintro e w1 ⟨rfl, b1⟩)
    have R1 := (lit_Exs w1).mono b1.size
    have B1 := b1.trans ((below_lit w1 (.cells #[] 58)).mono b1.size)
    exact bodyPost_ret (v := .tuple #[.slice (some ⟨w1.heap.size, 0, none⟩) 0 0, .bool false]) (by simp [results, Try.results12, go_sem]) rfl ⟨_, rfl, R1, B1⟩
end Go.Proofs.Ytkbkanmmpdeokaa
