/- Machines: laws.markFs, heldFs of a new machine. -/
import Derived.Test.YtchcdgkpaipkgaaGreatDoorRows
import Derived.Test.YtchcdgkpaipkgaaGreatDoorFsN
namespace Go.Proofs.YtchcdgkpaipkgaaGreatDoor
open Go.RowKit Go.Sort

theorem own_tight {w : World} {base q : Nat} {T : TypeId} {k n : Nat} {v : Value} {xs : List Value} (h : w.ownsRow base T k v n xs) (hq : v.ownBlock = some q) : w.ownsRow q T k v n xs := by
  refine ⟨h.1, ?_⟩
  rcases h.2 with ⟨e, _⟩ | ⟨g, cap, cur, e, hb, hh, r⟩
  · rw [e] at hq; cases hq
  · rw [e] at hq
    have hg : g = q := by simpa [Value.ownBlock] using hq
    subst hg
    exact .inr ⟨g, cap, cur, e, Nat.le_refl _, hh, r⟩
theorem ino_tight {w : World} {N g : Nat} (h : InoRow w N (.slice (some ⟨g, 0, none⟩) 1 1) [(rootI, .slice none 0 0)]) : InoRow w g (.slice (some ⟨g, 0, none⟩) 1 1) [(rootI, .slice none 0 0)] :=
  ⟨own_tight h.row rfl, fun t ht => by
    obtain rfl : t = 0 := by simpa using ht
    exact ⟨rfl, .inl ⟨rfl, rfl⟩⟩, h.apart⟩
theorem dev_tight {w : World} {N qa ca : Nat} {L : List ByteArray} (h : DevRow w N (.slice (some ⟨qa, 0, none⟩) 18 ca) (.slice none 0 0) ⟨L, []⟩) : DevRow w qa (.slice (some ⟨qa, 0, none⟩) 18 ca) (.slice none 0 0) ⟨L, []⟩ := ⟨own_tight h.t rfl, ⟨rfl, .inl ⟨rfl, rfl⟩⟩, h.ap⟩
theorem ino_keep {w w' : World} {N g : Nat} {l : List (Ino × Value)} (h : InoRow w N (.slice (some ⟨g, 0, none⟩) 1 1) l) (he : ∀ t, t < l.length → l[t]!.2.ownBlock = none) (hb : w'.heap[g]? = w.heap[g]?) : InoRow w' N (.slice (some ⟨g, 0, none⟩) 1 1) l :=
  ⟨own_same h.row (fun q hq => by cases hq; exact hb), fun t ht => own_same (h.ents t ht) (fun q hq => by rw [he t ht] at hq; cases hq), h.apart⟩
theorem mk_ents : ∀ t, t < (marksI 1 [(rootI, Value.slice none 0 0)]).length → (marksI 1 [(rootI, Value.slice none 0 0)])[t]!.2.ownBlock = none := fun t ht => by
  have h1 : (marksI 1 [(rootI, Value.slice none 0 0)]).length = 1 := rfl
  obtain rfl : t = 0 := by omega
  rfl
/-- all stands but three blocks -/
structure But3 (x y z : Nat) (w w' : World) : Prop where
  os : w'.os = w.os
  tape : w'.tape = w.tape
  output : w'.output = w.output
  size : w.heap.size ≤ w'.heap.size
  blk : ∀ k, k < w.heap.size → k ≠ x → k ≠ y → k ≠ z → w'.heap[k]? = w.heap[k]?
theorem But3.trans {x y z : Nat} {a b c : World} (h : But3 x y z a b) (k : But3 x y z b c) : But3 x y z a c :=
  ⟨k.os.trans h.os, k.tape.trans h.tape, k.output.trans h.output, Nat.le_trans h.size k.size, fun j hj h1 h2 h3 => (k.blk j (Nat.lt_of_lt_of_le hj h.size) h1 h2 h3).trans (h.blk j hj h1 h2 h3)⟩
theorem But3.mid {x y z B T : Nat} {w w' : World} (m : MidB B T w w') (h : ∀ k, k ≠ x → k ≠ y → k ≠ z → k < B ∨ T ≤ k) : But3 x y z w w' := ⟨m.os, m.tape, m.output, m.size, fun k hk h1 h2 h3 => m.block k hk (h k h1 h2 h3)⟩
theorem But3.of_below {x y z : Nat} {w w' : World} (b : Below w.heap.size w w') : But3 x y z w w' := ⟨b.os, b.tape, b.output, b.size, fun k hk _ _ _ => b.block k hk⟩
theorem But3.below {x y z B : Nat} {w w' : World} (h : But3 x y z w w') (hB : B ≤ w.heap.size) (hx : B ≤ x) (hy : B ≤ y) (hz : B ≤ z) : Below B w w' := ⟨h.os, h.tape, h.output, h.size, fun k hk => h.blk k (Nat.lt_of_lt_of_le hk hB) (by omega) (by omega) (by omega)⟩
/-- a new machine that is marked -/
structure NfMark (w : World) (g qb cb qa ca : Nat) : Prop where
  i : InosAt w (.slice (some ⟨g, 0, none⟩) 1 1) ((marksI 1 [(rootI, .slice none 0 0)]).map (·.1))
  t : TxtsAt w (.slice (some ⟨qb, 0, none⟩) 17 cb) (marksT 5 17)
  v : TxtsAt w (.slice (some ⟨qa, 0, none⟩) 18 ca) (marksT 22 18)
theorem NfMark.below {w w' : World} {g qb cb qa ca : Nat} (h : NfMark w g qb cb qa ca) (b : Below w.heap.size w w') : NfMark w' g qb cb qa ca := ⟨h.i.below b, h.t.below b, h.v.below b⟩
theorem wrs_nil (w : World) (k : Nat) : WrsAt w (.slice none 0 0) (marksW k 0) := ⟨none, 0, rfl, fun _ => rfl, fun t ht => by simp [marksW] at ht⟩

set_option maxRecDepth 100000 in
set_option maxHeartbeats 2000000 in
theorem heldFs_new (g qb cb qa ca : Nat) (w : World) (h : NfMark w g qb cb qa ca) :
    Calls Tryz.prog 8 #[.agg (fsC g (some ⟨qb, 0, none⟩) cb (some ⟨qa, 0, none⟩) ca none 0), .int .i64 1] w fun e w' => e = .returned (.int .i64 40) ∧ Below w.heap.size w w' := by
  have HM : Hid (∀ W, Below w.heap.size w W → Calls Tryz.prog 24 #[.agg #[.int .i64 2, .slice (some ⟨g, 0, none⟩) 1 1], .int .i64 1] W fun e w'' => e = .returned (.int .i64 5) ∧ Below W.heap.size W w'') := fun W b => heldVol_marks 2 _ [(rootI, .slice none 0 0)] 1 W (h.i.below b) (by decide) (by decide) (by rw [show [(rootI, Value.slice none 0 0)].length = 1 from rfl, num_root]; decide) short_root
  have HG : Hid (∀ W, Calls Tryz.prog 24 #[.agg #[.int .i64 0, .slice none 0 0], .int .i64 5] W fun e w'' => e = .returned (.int .i64 5) ∧ Below W.heap.size W w'') := fun W => heldVol_marks 0 (.slice none 0 0) [] 5 W (nilV_row W 0).at (by decide) (by decide) (by decide) (fun t ht => by simp at ht)
  have HT : Hid (∀ W, Below w.heap.size w W → Calls Tryz.prog 25 #[.slice (some ⟨qb, 0, none⟩) 17 cb, .int .i64 5] W fun e w'' => e = .returned (.int .i64 22) ∧ Below W.heap.size W w'') := fun W b => heldStringS_marks _ 17 5 W (by decide) (by decide) (by decide) (h.t.below b)
  have HD : Hid (∀ W, Below w.heap.size w W → Calls Tryz.prog 26 #[.agg #[.slice (some ⟨qa, 0, none⟩) 18 ca, .slice none 0 0], .int .i64 22] W fun e w'' => e = .returned (.int .i64 40) ∧ Below W.heap.size W w'') := fun W b => heldDev_marks _ _ 18 0 22 W (by decide) (by decide) (by decide) (by decide) (h.v.below b) (wrs_nil W 40)
  clear h
  unfold fsC
  have B0 := below_lit w (.cells #[.bool true, .int .i64 2, .slice (some ⟨g, 0, none⟩) 1 1, .int .i64 0, .slice none 0 0, .slice (some ⟨qb, 0, none⟩) 17 cb, .int .i64 0, .int .i64 0, .slice (some ⟨qa, 0, none⟩) 18 ca, .slice none 0 0, .slice none 0 0, .int .i64 0, .int .i64 0] 31)
  have o1 := (MapKept.heap_alloc w (.cells #[.bool true, .int .i64 2, .slice (some ⟨g, 0, none⟩) 1 1, .int .i64 0, .slice none 0 0, .slice (some ⟨qb, 0, none⟩) 17 cb, .int .i64 0, .int .i64 0, .slice (some ⟨qa, 0, none⟩) 18 ca, .slice none 0 0, .slice none 0 0, .int .i64 0, .int .i64 0] 31)).1
  generalize HW0 : w.alloc (.cells #[.bool true, .int .i64 2, .slice (some ⟨g, 0, none⟩) 1 1, .int .i64 0, .slice none 0 0, .slice (some ⟨qb, 0, none⟩) 17 cb, .int .i64 0, .int .i64 0, .slice (some ⟨qa, 0, none⟩) 18 ca, .slice none 0 0, .slice none 0 0, .int .i64 0, .int .i64 0] 31) = W0 at B0 o1
  have HW0 : Hid _ := HW0
  have HB : Hid (∀ W, Below W0.heap.size W0 W → Below w.heap.size w W) := fun W b => B0.trans (b.mono B0.size)
  have HC1 : Hid (∀ W, Below W0.heap.size W0 W → _) := fun W b => cells13 ((b.block _ (lt_of_block o1)).trans o1)
  clear o1 B0
  go_enter Tryz.func8, Tryz.ntmps8
  go_upto_region 1 with fail
  try rw [HW0.out]
  obtain ⟨⟨⟨a0, a1, a2⟩, a3, a4, a5⟩, ⟨a6, a7, a8⟩, ⟨a9, a10⟩, a11, a12⟩ := HC1.out W0 (Below.refl _ _)
  go_wp2_with fail
  refine (HM.out _ (HB.out _ (Below.refl _ _))).mono ?_
  rintro e w1 ⟨rfl, D1⟩
  clear a0 a1 a2 a3 a4 a5 a6 a7 a8 a9 a10 a11 a12
  obtain ⟨⟨⟨a0, a1, a2⟩, a3, a4, a5⟩, ⟨a6, a7, a8⟩, ⟨a9, a10⟩, a11, a12⟩ := HC1.out w1 D1
  go_wp2_with fail
  refine (HG.out w1).mono ?_
  rintro e w2 ⟨rfl, d2⟩
  have D2 := D1.trans (d2.mono D1.size)
  clear a0 a1 a2 a3 a4 a5 a6 a7 a8 a9 a10 a11 a12
  obtain ⟨⟨⟨a0, a1, a2⟩, a3, a4, a5⟩, ⟨a6, a7, a8⟩, ⟨a9, a10⟩, a11, a12⟩ := HC1.out w2 D2
  go_wp2_with fail
  refine (HT.out _ (HB.out _ D2)).mono ?_
  rintro e w3 ⟨rfl, d3⟩
  have D3 := D2.trans (d3.mono D2.size)
  clear a0 a1 a2 a3 a4 a5 a6 a7 a8 a9 a10 a11 a12
  obtain ⟨⟨⟨a0, a1, a2⟩, a3, a4, a5⟩, ⟨a6, a7, a8⟩, ⟨a9, a10⟩, a11, a12⟩ := HC1.out w3 D3
  go_wp2_with fail
  refine (HD.out _ (HB.out _ D3)).mono ?_
  rintro e w4 ⟨rfl, d4⟩
  have D4 := D3.trans (d4.mono D3.size)
  clear a0 a1 a2 a3 a4 a5 a6 a7 a8 a9 a10 a11 a12
  obtain ⟨⟨⟨a0, a1, a2⟩, a3, a4, a5⟩, ⟨a6, a7, a8⟩, ⟨a9, a10⟩, a11, a12⟩ := HC1.out w4 D4
  go_wp2_with fail
  refine (heldCallS_nil 40 w4).mono ?_
  rintro e w5 ⟨rfl, d5⟩
  have D5 := D4.trans (d5.mono D4.size)
  go_wp2
  go_ret
  exact ⟨rfl, HB.out _ D5⟩

set_option maxRecDepth 100000 in
set_option maxHeartbeats 2000000 in
theorem markFs_new (g qb cb qa ca N : Nat) (w : World) (h : NfRow w N g (some ⟨qb, 0, none⟩) cb (some ⟨qa, 0, none⟩) ca none 0) (h1 : g ≠ qb) (h2 : g ≠ qa) (h3 : qb ≠ qa) :
    Calls Tryz.prog 7 #[.agg (fsC g (some ⟨qb, 0, none⟩) cb (some ⟨qa, 0, none⟩) ca none 0), .int .i64 1] w fun e w' => e = .returned (.int .i64 40) ∧ NfMark w' g qb cb qa ca ∧ But3 g qb qa w w' := by
  have lg : g < w.heap.size := (World.ownsRow.lt h.i.row g rfl).2
  have lb : qb < w.heap.size := (World.ownsRow.lt h.t qb rfl).2
  have la : qa < w.heap.size := (World.ownsRow.lt h.v.t qa rfl).2
  have HM : Hid (∀ W, Below w.heap.size w W → Calls Tryz.prog 20 #[.agg #[.int .i64 2, .slice (some ⟨g, 0, none⟩) 1 1], .int .i64 1] W fun e w'' => e = .returned (.int .i64 5) ∧ InoRow w'' g (.slice (some ⟨g, 0, none⟩) 1 1) (marksI 1 [(rootI, .slice none 0 0)]) ∧ MidB g (g + 1) W w'') := fun W b => markVol_any 2 _ [(rootI, .slice none 0 0)] 1 g (g + 1) W (ino_tight (h.i.below b)) (fun q hq => by cases hq; first | omega | (dsimp only; omega)) (root_top _) (by decide) (by rw [show [(rootI, Value.slice none 0 0)].length = 1 from rfl, num_root]; decide) short_root
  have HG : Hid (∀ W, Calls Tryz.prog 20 #[.agg #[.int .i64 0, .slice none 0 0], .int .i64 5] W fun e w'' => e = .returned (.int .i64 5) ∧ MidB 0 0 W w'') := fun W => (markVol_any 0 (.slice none 0 0) [] 5 0 0 W (nilV_row W 0) (fun q hq => by cases hq) (fun t q ht => by simp at ht) (by decide) (by decide) (fun t ht => by simp at ht)).mono fun e w'' hh => ⟨hh.1, hh.2.2⟩
  have HT : Hid (∀ W, TxtRow W N (.slice (some ⟨qb, 0, none⟩) 17 cb) (blocksN newVo) → Calls Tryz.prog 21 #[.slice (some ⟨qb, 0, none⟩) 17 cb, .int .i64 5] W fun e w'' => e = .returned (.int .i64 22) ∧ TxtRow w'' N (.slice (some ⟨qb, 0, none⟩) 17 cb) (marksT 5 17) ∧ MidB qb (qb + 1) W w'') := fun W hr => by
    have := markStringS_any _ (blocksN newVo) 5 N W hr (by rw [blocksN_len]; decide) (by decide) (by decide)
    rw [blocksN_len] at this
    exact this.mono fun e w'' hh => ⟨hh.1, hh.2.1, MidB.of_grown hh.2.2 (fun q hq => by cases hq; first | omega | (dsimp only; omega))⟩
  have HD : Hid (∀ W, DevRow W N (.slice (some ⟨qa, 0, none⟩) 18 ca) (.slice none 0 0) ⟨formatN, []⟩ → Calls Tryz.prog 22 #[.agg #[.slice (some ⟨qa, 0, none⟩) 18 ca, .slice none 0 0], .int .i64 22] W fun e w'' => e = .returned (.int .i64 40) ∧ TxtRow w'' qa (.slice (some ⟨qa, 0, none⟩) 18 ca) (marksT 22 18) ∧ MidB qa (qa + 1) W w'') := fun W hr => by
    have := markDev_any _ _ ⟨formatN, []⟩ 22 qa (qa + 1) W (dev_tight hr) (fun q hq => by cases hq; first | omega | (dsimp only; omega)) (fun q hq => by cases hq) (by show formatN.length ≤ _; rw [formatN_len]; decide) (by decide) (by decide) (by decide)
    dsimp only at this
    rw [formatN_len] at this
    exact this.mono fun e w'' hh => ⟨hh.1, hh.2.1.t, hh.2.2⟩
  unfold fsC
  have B0 := below_lit w (.cells #[.bool true, .int .i64 2, .slice (some ⟨g, 0, none⟩) 1 1, .int .i64 0, .slice none 0 0, .slice (some ⟨qb, 0, none⟩) 17 cb, .int .i64 0, .int .i64 0, .slice (some ⟨qa, 0, none⟩) 18 ca, .slice none 0 0, .slice none 0 0, .int .i64 0, .int .i64 0] 31)
  have o1 := (MapKept.heap_alloc w (.cells #[.bool true, .int .i64 2, .slice (some ⟨g, 0, none⟩) 1 1, .int .i64 0, .slice none 0 0, .slice (some ⟨qb, 0, none⟩) 17 cb, .int .i64 0, .int .i64 0, .slice (some ⟨qa, 0, none⟩) 18 ca, .slice none 0 0, .slice none 0 0, .int .i64 0, .int .i64 0] 31)).1
  generalize HW0 : w.alloc (.cells #[.bool true, .int .i64 2, .slice (some ⟨g, 0, none⟩) 1 1, .int .i64 0, .slice none 0 0, .slice (some ⟨qb, 0, none⟩) 17 cb, .int .i64 0, .int .i64 0, .slice (some ⟨qa, 0, none⟩) 18 ca, .slice none 0 0, .slice none 0 0, .int .i64 0, .int .i64 0] 31) = W0 at B0 o1
  have HW0 : Hid _ := HW0
  have HN0 : Hid (NfRow W0 N g (some ⟨qb, 0, none⟩) cb (some ⟨qa, 0, none⟩) ca none 0) := h.below B0
  have F0 : Hid (But3 g qb qa w W0) := But3.of_below B0
  have HC : Hid (∀ W, But3 g qb qa W0 W → _) := fun W b => cells13 ((b.blk _ (lt_of_block o1) (by omega) (by omega) (by omega)).trans o1)
  have HB0 : Hid (Below w.heap.size w W0) := B0
  clear o1 B0 h lg lb la
  go_enter Tryz.func7, Tryz.ntmps7
  go_upto_region 1 with fail
  try rw [HW0.out]
  obtain ⟨⟨⟨a0, a1, a2⟩, a3, a4, a5⟩, ⟨a6, a7, a8⟩, ⟨a9, a10⟩, a11, a12⟩ := HC.out W0 (But3.of_below (Below.refl _ _))
  go_wp2_with fail
  refine (HM.out _ HB0.out).mono ?_
  rintro e w1 ⟨rfl, i1, m1⟩
  have F1 : But3 g qb qa W0 w1 := But3.mid m1 (fun k k1 _ _ => by omega)
  have t1 : TxtRow w1 N _ _ := own_same HN0.out.t fun q hq => m1.block q (World.ownsRow.lt HN0.out.t q hq).2 (by cases hq; first | omega | (dsimp only; omega))
  have v1 := HN0.out.v.mid m1 (fun q hq => by cases hq; first | omega | (dsimp only; omega)) (fun q hq => by cases hq)
  clear a0 a1 a2 a3 a4 a5 a6 a7 a8 a9 a10 a11 a12 m1
  obtain ⟨⟨⟨a0, a1, a2⟩, a3, a4, a5⟩, ⟨a6, a7, a8⟩, ⟨a9, a10⟩, a11, a12⟩ := HC.out w1 F1
  go_wp2_with fail
  refine (HG.out w1).mono ?_
  rintro e w2 ⟨rfl, m2⟩
  have F2 := F1.trans (But3.mid m2 (fun k _ _ _ => .inr (Nat.zero_le _)))
  have b2 : Below w1.heap.size w1 w2 := ⟨m2.os, m2.tape, m2.output, m2.size, fun k hk => m2.block k hk (.inr (Nat.zero_le _))⟩
  have i2 := i1.below b2
  have t2 := own_below t1 b2
  have v2 := v1.below b2
  clear a0 a1 a2 a3 a4 a5 a6 a7 a8 a9 a10 a11 a12 m2 i1 t1 v1 F1
  obtain ⟨⟨⟨a0, a1, a2⟩, a3, a4, a5⟩, ⟨a6, a7, a8⟩, ⟨a9, a10⟩, a11, a12⟩ := HC.out w2 F2
  go_wp2_with fail
  refine (HT.out _ t2).mono ?_
  rintro e w3 ⟨rfl, t3, m3⟩
  have F3 := F2.trans (But3.mid m3 (fun k _ k1 _ => by omega))
  have i3 := ino_keep i2 mk_ents (m3.block g (World.ownsRow.lt i2.row g rfl).2 (by omega))
  have v3 := v2.mid m3 (fun q hq => by cases hq; first | omega | (dsimp only; omega)) (fun q hq => by cases hq)
  clear a0 a1 a2 a3 a4 a5 a6 a7 a8 a9 a10 a11 a12 m3 i2 t2 v2 F2
  obtain ⟨⟨⟨a0, a1, a2⟩, a3, a4, a5⟩, ⟨a6, a7, a8⟩, ⟨a9, a10⟩, a11, a12⟩ := HC.out w3 F3
  go_wp2_with fail
  refine (HD.out _ v3).mono ?_
  rintro e w4 ⟨rfl, v4, m4⟩
  have F4 := F3.trans (But3.mid m4 (fun k _ _ k1 => by omega))
  have i4 := ino_keep i3 mk_ents (m4.block g (World.ownsRow.lt i3.row g rfl).2 (by omega))
  have t4 : TxtRow w4 N _ _ := own_same t3 fun q hq => m4.block q (World.ownsRow.lt t3 q hq).2 (by cases hq; first | omega | (dsimp only; omega))
  clear a0 a1 a2 a3 a4 a5 a6 a7 a8 a9 a10 a11 a12 m4 i3 t3 v3 F3
  obtain ⟨⟨⟨a0, a1, a2⟩, a3, a4, a5⟩, ⟨a6, a7, a8⟩, ⟨a9, a10⟩, a11, a12⟩ := HC.out w4 F4
  go_wp2_with fail
  refine (markCallS_nil 40 w4).mono ?_
  rintro e w5 ⟨rfl, d5⟩
  have N5 : NfMark w5 g qb cb qa ca := NfMark.below ⟨i4.at, t4.at, v4.at⟩ d5
  have F5 := F0.out.trans (F4.trans (But3.of_below d5))
  go_wp2
  go_ret
  exact ⟨rfl, N5, F5⟩

end Go.Proofs.YtchcdgkpaipkgaaGreatDoor
