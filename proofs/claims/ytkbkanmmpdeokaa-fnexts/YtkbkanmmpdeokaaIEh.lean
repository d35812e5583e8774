/- Extents, program's side: PutBlock. -/
import Derived.Test.YtkbkanmmpdeokaaRows
import Derived.Test.YtkbkanmmpdeokaaIEg
namespace Go.Proofs.Ytkbkanmmpdeokaa
open Go.RowKit Go.Sort

theorem blockN_none {l : List Ex} (h : ExR l) {i : Int} (h0 : 0 ≤ i) (h1 : i < 12) : blockN l i = -1 ↔ ∀ c, ¬ ExAt l i c := by
  unfold blockN
  rw [if_pos ⟨h, h0, h1⟩]
  have hi : ((i.toNat : Nat) : Int) = i := by omega
  constructor
  · intro e c hc
    rw [← hi] at hc
    have := exM_some h.g (by omega) hc
    rw [e] at this
    have := (h.bd hc).2.2.1
    omega
  · intro hn
    exact exM_none (by omega) fun c hc => hn c (by rwa [hi] at hc)
theorem put_iff {l : List Ex} (h : ExR l) (i b : Int) : putOk l i b ↔ (inB b 0 23 = true ∧ (fN (usedN l)).testBit b.toNat = false) ∧ inB i 0 11 = true ∧ blockN l i = -1 := by
  unfold putOk
  constructor
  · rintro ⟨⟨h1, h2⟩, h3, ⟨h4, h5⟩, h6⟩
    refine ⟨⟨inB_mk h4 (by omega), ?_⟩, inB_mk h1 (by omega), (blockN_none h h1 h2).2 h3⟩
    rw [fN_bit]
    cases e : (usedN l)[b.toNat]! with
    | false => rfl
    | true =>
      obtain ⟨j, hj⟩ := (usedN_iff l b.toNat (by omega)).1 e
      rw [show ((b.toNat : Nat) : Int) = b by omega] at hj
      exact absurd hj (h6 j)
  · rintro ⟨⟨h1, h2⟩, h3, h4⟩
    obtain ⟨b0, b1⟩ := inB_le h1
    obtain ⟨i0, i1⟩ := inB_le h3
    refine ⟨⟨i0, by omega⟩, (blockN_none h i0 (by omega)).1 h4, ⟨b0, by omega⟩, fun j hj => ?_⟩
    rw [fN_bit] at h2
    have := (usedN_iff l b.toNat (by omega)).2 ⟨j, by rw [show ((b.toNat : Nat) : Int) = b by omega]; exact hj⟩
    rw [h2] at this
    cases this

set_option maxRecDepth 100000 in
set_option maxHeartbeats 2000000 in
theorem iPutBlock (v : Value) (l : List Ex) (i b : Int) (w : World) (hl : l.length ≤ 1048576) (hv : ExsAt w v l) :
    Calls Try.prog 11 #[v, .int .i64 i, .int .i64 b] w fun e w' => SaysPt w (putN l i b) (putB l i b) e w' := by
  have HT := iTakenBy v l w hl hv
  by_cases h : ExR l
  · have ht : tkN l = fN (usedN l) := by unfold tkN; rw [if_pos (okE_yes h)]
    rw [okE_yes h, ht] at HT
    have h12 := h.len
    have HB := fun w' (hb : Below w.heap.size w w') => iBlockAt v l i w' hl (hv.below hb)
    have HC := fun w' (hb : Below w.heap.size w w') => cloneEx_any v l w' (hv.below hb) hl
    have HP : Hid (putOk l i b → ∀ w' (hb : Below w.heap.size w w'), Calls Try.prog 37 #[v, .agg #[.int .i64 i, .int .i64 b, .int .i64 1], .func (.func 38) #[] #[], .func (.func 39) #[] #[], .func (.func 40) #[] #[]] w'
        fun e w'' => ∃ u, e = .returned u ∧ ExRow w'' w'.heap.size u (putN l i b) ∧ Below w'.heap.size w' w'') := fun hp w' hb => by
      rw [putN_join h hp]
      exact iPutInOrder v l ⟨i, b, 1⟩ w' h12 (hv.below hb) (insN_in h hp)
    have HNO : Hid (¬ putOk l i b → putN l i b = l ∧ putB l i b = false) := putN_no h
    have HYES : Hid (putOk l i b → putB l i b = true) := fun hp => (putN_yes h hp).2
    have HI := put_iff h i b
    have hf24 := fN_lt24 (usedN_len l)
    have HH := fun w' (hb : inB b 0 23 = true) => iHas (fN (usedN l)) b.toNat (by omega) (by have := inB_le hb; omega) w'
    have hbn : inB b 0 23 = true → ((b.toNat : Nat) : Int) = b := fun hb => by have := inB_le hb; omega
    have I1 := fun w' => btw_any b 0 23 w'
    have I2 := fun w' => btw_any i 0 11 w'
    generalize putOk l i b = P at *
    generalize putN l i b = L at *
    generalize putB l i b = r at *
    generalize inB b 0 23 = x1 at *
    generalize (fN (usedN l)).testBit b.toNat = x2 at *
    generalize inB i 0 11 = x3 at *
    generalize blockN l i = q at *
    generalize fN (usedN l) = f at *
    have HRET : Hid (∀ w1 u w2, ¬ P → Below w.heap.size w w1 → ExRow w2 w1.heap.size u l → Below w1.heap.size w1 w2 → SaysPt w L r (.returned (.tuple #[u, .bool false])) w2) := fun w1 u w2 hp b1 r2 b2 => by
      obtain ⟨e1, e2⟩ := HNO.out hp
      exact ⟨u, by rw [e2], by rw [e1]; exact r2.mono b1.size, b1.trans (b2.mono b1.size)⟩
    clear HNO
    cases x1 with
    | false =>
      have NO : Hid (¬ P) := fun hp => by have := (HI.1 hp).1.1; cases this
      clear HI HH hbn HP
      go_enter Try.func11, Try.ntmps11
      go_wp2_with (first | (go_at_call 33; refine HT.mono ?_; rintro e w1 ⟨rfl, b1⟩) | (go_at_call 34; refine (I1 _).mono ?_; rintro e w2 ⟨rfl, rfl⟩) | (go_at_call 36; refine (HC _ b1).mono ?_; rintro e w9 ⟨u, rfl, r9, b9⟩))
      exact bodyPost_ret (v := .tuple #[u, .bool false]) (by simp [results, Try.results11, go_sem]) rfl (HRET.out _ _ _ NO.out b1 r9 b9)
    | true =>
      have hbe := hbn rfl
      have HF := fun w' => HH w' rfl
      rw [hbe] at HF
      clear HH hbn hbe
      cases x2 with
      | true =>
        have NO : Hid (¬ P) := fun hp => by have := (HI.1 hp).1.2; cases this
        clear HI HP
        go_enter Try.func11, Try.ntmps11
        go_wp2_with (first | (go_at_call 33; refine HT.mono ?_; rintro e w1 ⟨rfl, b1⟩) | (go_at_call 34; refine (I1 _).mono ?_; rintro e w2 ⟨rfl, rfl⟩) | (go_at_call 35; refine (HF _).mono ?_; rintro e w2 ⟨rfl, rfl⟩) | (go_at_call 36; refine (HC _ b1).mono ?_; rintro e w9 ⟨u, rfl, r9, b9⟩))
        exact bodyPost_ret (v := .tuple #[u, .bool false]) (by simp [results, Try.results11, go_sem]) rfl (HRET.out _ _ _ NO.out b1 r9 b9)
      | false =>
        cases x3 with
        | false =>
          have NO : Hid (¬ P) := fun hp => by have := (HI.1 hp).2.1; cases this
          clear HI HP
          go_enter Try.func11, Try.ntmps11
          go_wp2_with (first | (go_at_call 33; refine HT.mono ?_; rintro e w1 ⟨rfl, b1⟩) | (go_at_call 34; first | (with_reducible refine (I1 _).mono ?_; rintro e w2 ⟨rfl, rfl⟩) | (with_reducible refine (I2 _).mono ?_; rintro e w2 ⟨rfl, rfl⟩)) | (go_at_call 35; refine (HF _).mono ?_; rintro e w2 ⟨rfl, rfl⟩) | (go_at_call 36; refine (HC _ b1).mono ?_; rintro e w9 ⟨u, rfl, r9, b9⟩))
          exact bodyPost_ret (v := .tuple #[u, .bool false]) (by simp [results, Try.results11, go_sem]) rfl (HRET.out _ _ _ NO.out b1 r9 b9)
        | true =>
          by_cases hq : q = -1
          · have hqb : (q != -1) = false := by rw [hq]; rfl
            have hp : P := HI.2 ⟨⟨rfl, rfl⟩, rfl, hq⟩
            have HPP := HP.out hp
            have hr := HYES.out hp
            have HR : Hid (r = true) := hr
            clear HI HP HC HRET hr hq
            go_enter Try.func11, Try.ntmps11
            go_wp2_with (first | (go_at_call 33; refine HT.mono ?_; rintro e w1 ⟨rfl, b1⟩) | (go_at_call 34; first | (with_reducible refine (I1 _).mono ?_; rintro e w2 ⟨rfl, rfl⟩) | (with_reducible refine (I2 _).mono ?_; rintro e w2 ⟨rfl, rfl⟩)) | (go_at_call 35; refine (HF _).mono ?_; rintro e w2 ⟨rfl, rfl⟩) | (go_at_call 14; refine (HB _ b1).mono ?_; rintro e w3 ⟨rfl, b3⟩; have B3 := b1.trans (b3.mono b1.size)) | (go_at_call 37; refine (HPP _ B3).mono ?_; rintro e w9 ⟨u, rfl, r9, b9⟩))
            exact bodyPost_ret (v := .tuple #[u, .bool true]) (by simp [results, Try.results11, go_sem]) rfl ⟨u, by rw [HR.out], r9.mono B3.size, B3.trans (b9.mono B3.size)⟩
          · have hqb : (q != -1) = true := by rw [bne_iff_ne]; exact hq
            have NO : Hid (¬ P) := fun hp => hq (HI.1 hp).2.2
            clear HI HP hq
            go_enter Try.func11, Try.ntmps11
            go_wp2_with (first | (go_at_call 33; refine HT.mono ?_; rintro e w1 ⟨rfl, b1⟩) | (go_at_call 34; first | (with_reducible refine (I1 _).mono ?_; rintro e w2 ⟨rfl, rfl⟩) | (with_reducible refine (I2 _).mono ?_; rintro e w2 ⟨rfl, rfl⟩)) | (go_at_call 35; refine (HF _).mono ?_; rintro e w2 ⟨rfl, rfl⟩) | (go_at_call 14; refine (HB _ b1).mono ?_; rintro e w3 ⟨rfl, b3⟩; have B3 := b1.trans (b3.mono b1.size)) | (go_at_call 36; refine (HC _ B3).mono ?_; rintro e w9 ⟨u, rfl, r9, b9⟩))
            exact bodyPost_ret (v := .tuple #[u, .bool false]) (by simp [results, Try.results11, go_sem]) rfl (HRET.out _ _ _ NO.out B3 r9 b9)
  · have HN : Hid (putN l i b = [] ∧ putB l i b = false) := putN_bad h i b
    rw [okE_no h] at HT
    generalize tkN l = f at HT
    generalize putN l i b = L at HN ⊢
    generalize putB l i b = r at HN ⊢
    go_enter Try.func11, Try.ntmps11
    go_wp2_with (go_at_call 33; refine HT.mono ?_; rintro e w1 ⟨rfl, b1⟩)
    exact bodyPost_ret (v := .tuple #[.slice none 0 0, .bool false]) (by simp [results, Try.results11, go_sem]) rfl ⟨_, by rw [HN.out.2], by rw [HN.out.1]; exact World.ownsRow_nil _ _ _ _, b1⟩
end Go.Proofs.Ytkbkanmmpdeokaa
