/- Rows of texts and of writes that lie in a range of blocks, while others are written. Journals: laws.FnExactMount: the walk. -/
import Derived.Test.YtpijjinoeghgoaaGreatDoorRows
import Derived.Test.YtpijjinoeghgoaaGreatDoorPf
import Derived.Test.YtpijjinoeghgoaaGreatDoorQe
import Derived.Test.YtpijjinoeghgoaaGreatDoorMnS
import Derived.Test.YtpijjinoeghgoaaGreatDoorMnJ
namespace Go.Proofs.YtpijjinoeghgoaaGreatDoor

section
open Go.RowKit Go.Sort


structure WrIn (lo hi : Nat) (v : Value) (l : List Wr) (W : World) : Prop where
  r : WrRow W lo v l
  t : ∀ q, v.ownBlock = some q → q < hi
theorem own_keep {w w' : World} {base size n : Nat} {e : TypeId} {v : Value} {xs : List Value} {r : Option Nat} (h : w.ownsRow base e size v n xs) (g : w.grownBy w' r) (hne : ∀ q, v.ownBlock = some q → r ≠ some q) : w'.ownsRow base e size v n xs :=
  ⟨h.1, by
    rcases h.2 with h0 | ⟨b, cap, cur, e, hb, hh, r⟩
    · exact .inl h0
    · exact .inr ⟨b, cap, cur, e, hb, (g.block b (lt_of_block hh) (fun e2 => hne b (by rw [e]; rfl) e2.symm)).trans hh, r⟩⟩

theorem WrIn.new {w W : World} {v : Value} {l : List Wr} (h : WrRow W w.heap.size v l) : WrIn w.heap.size W.heap.size v l W := ⟨h, fun q hq => (World.ownsRow.lt h q hq).2⟩

theorem WrIn.below {lo hi : Nat} {v : Value} {l : List Wr} {W W' : World} (h : WrIn lo hi v l W) (b : Below W.heap.size W W') : WrIn lo hi v l W' := ⟨h.r.below b, h.t⟩

theorem WrIn.lo {lo hi : Nat} {v : Value} {l : List Wr} {W : World} (h : WrIn lo hi v l W) (q : Nat) (hq : v.ownBlock = some q) : lo ≤ q := (World.ownsRow.lt h.r q hq).1

theorem WrIn.gb {lo hi lo' hi' : Nat} {v : Value} {l : List Wr} {W W' : World} {r : Option Nat} (h : WrIn lo hi v l W) (g : W.grownBy W' r) (hr : ∀ q, r = some q → lo' ≤ q ∧ q < hi') (ha : hi ≤ lo' ∨ hi' ≤ lo) : WrIn lo hi v l W' :=
  ⟨own_keep h.r g (fun q hq e => by have := hr q e; have := h.t q hq; have := h.lo q hq; omega), h.t⟩


theorem eqWrs_same (u v : Value) (l : List Wr) (w : World) (hl : l.length ≤ 1048577) (hu : WrsAt w u l) (hv : WrsAt w v l) :
    Calls Tryz.prog 9 #[u, v] w fun r w' => r = .returned (.bool true) ∧ Below w.heap.size w w' := by
  have := eqWrS_any u v l l w (by omega) hu hv
  rwa [decide_eq_true rfl] at this
end

section
open Go.RowKit Go.Sort

theorem InoRow.lowB {w : World} {base base' : Nat} {v : Value} {l : List (Ino × Value)} (h : InoRow w base v l) (hb : base' ≤ base) : InoRow w base' v l :=
  ⟨⟨h.row.1, by
    rcases h.row.2 with h0 | ⟨g, cap, cur, e, hg, r⟩
    · exact .inl h0
    · exact .inr ⟨g, cap, cur, e, Nat.le_trans hb hg, r⟩⟩, fun t ht => EntRow.mono (h.ents t ht) hb, h.apart⟩
theorem WrIn.mid {lo hi B T : Nat} {v : Value} {l : List Wr} {W W' : World} (h : WrIn lo hi v l W) (m : MidB B T W W') (ha : hi ≤ B ∨ T ≤ lo) : WrIn lo hi v l W' :=
  ⟨⟨h.r.1, by
    rcases h.r.2 with h0 | ⟨g, cap, cur, e, hg, hh, r⟩
    · exact .inl h0
    · exact .inr ⟨g, cap, cur, e, hg, (m.block g (lt_of_block hh) (by have := h.t g (by rw [e]; rfl); omega)).trans hh, r⟩⟩, h.t⟩

/-- what is answered -/
def ansM (o : Option (Vo × Tx)) : Vo × Tx × Int := match o with
  | some (v, t) => (v, t, 0)
  | none => (⟨0, []⟩, ⟨0, []⟩, 1)
theorem saysM_one {o : Option (Vo × Tx)} {w w' : World} {e : Ending} (h : SaysM o w e w') : ∃ u M s B, e = .returned (.tuple #[.agg #[.int .i64 (ansM o).1.next, u], s, .int .i64 (ansM o).2.1.seq, .int .i64 (ansM o).2.2]) ∧ M.map (fun p : Ino × Value => p.1) = (ansM o).1.ins ∧ InoRow w' B u M ∧ WrIn w.heap.size B s (ansM o).2.1.outs w' ∧ (w.heap.size ≤ B ∧ B ≤ w'.heap.size) ∧ Below w.heap.size w w' := by
  rcases h with ⟨v, t, u, M, s, B, rfl, rfl, h1, h2, h3, ⟨h4, h5⟩, h6⟩ | ⟨rfl, s, rfl, h3, h6⟩
  · have hz := h6.size
    by_cases hB : B ≤ w'.heap.size
    · exact ⟨u, M, s, B, rfl, h1, h2, ⟨h3, h5⟩, ⟨h4, hB⟩, h6⟩
    · exact ⟨u, M, s, w'.heap.size, rfl, h1, h2.lowB (by omega), ⟨h3, fun q hq => (World.ownsRow.lt h3 q hq).2⟩, ⟨hz, Nat.le_refl _⟩, h6⟩
  · exact ⟨.slice none 0 0, [], s, w'.heap.size, rfl, rfl, ⟨⟨rfl, .inl ⟨rfl, rfl⟩⟩, fun t ht => by simp at ht, List.Pairwise.nil⟩, ⟨h3, fun q hq => (World.ownsRow.lt h3 q hq).2⟩, ⟨h6.size, Nat.le_refl _⟩, h6⟩
theorem ansM_small (L : List ByteArray) : (ansM (mountN L)).1.ins.length ≤ 16 ∧ (∀ y ∈ (ansM (mountN L)).1.ins, y.ents.length ≤ 12) ∧ (ansM (mountN L)).2.1.outs.length ≤ 17 := by
  cases h : mountN L with
  | none => simp [ansM]
  | some vt =>
    obtain ⟨v, t⟩ := vt
    unfold mountN at h
    split at h
    · cases hj : jourN L[17]! with
      | none => rw [hj] at h; cases h
      | some t' =>
        rw [hj] at h
        simp only [Option.bind_some] at h
        cases hr : readN (homeN t'.outs (L.take 17)) with
        | none => rw [hr] at h; cases h
        | some v' =>
          rw [hr] at h
          cases h
          have hR := (readN_is hr).1
          exact ⟨hR.len, fun y hy => (right_small hR hy).len, (jour_ok hj).1⟩
    · cases h

/-- what the law holds between its calls -/
structure MtSt (w : World) (p r : Nat) (nx : Int) (u3 u5 : Value) (B3 B5 : Nat) (M3 M5 : List (Ino × Value)) (a3 b3 a5 : Nat) (s3 s5 : Value) (D3 D5 : List Wr) (wk : World) : Prop where
  v : RbSt w p r nx u3 u5 B3 B5 M3 M5 wk
  x : WrIn a3 b3 s3 D3 wk
  y : WrIn a5 B5 s5 D5 wk
theorem MtSt.below {w : World} {p r : Nat} {nx : Int} {u3 u5 : Value} {B3 B5 : Nat} {M3 M5 : List (Ino × Value)} {a3 b3 a5 : Nat} {s3 s5 : Value} {D3 D5 : List Wr} {wk wk' : World} (h : MtSt w p r nx u3 u5 B3 B5 M3 M5 a3 b3 a5 s3 s5 D3 D5 wk) (b : Below wk.heap.size wk wk') : MtSt w p r nx u3 u5 B3 B5 M3 M5 a3 b3 a5 s3 s5 D3 D5 wk' :=
  ⟨h.v.below b, h.x.below b, h.y.below b⟩

set_option maxRecDepth 100000 in
set_option maxHeartbeats 4000000 in
theorem wMount (HPQ : ParseOk) (v : Value) (L : List ByteArray) (T : TypeId) (xe : Value) (w : World) (hT : Tabs w) (hC : CrcTab w) (hE : ErrV w T xe) (hv : TxtsAt w v L) (hl : L.length ≤ 9223372036854775807) (hh : ∀ t, t < L.length → L[t]!.size ≤ 9223372036854775807) :
    Calls Tryz.prog 3 #[v] w fun e w' => e = .returned (.bool true) ∧ Below w.heap.size w w' := by
  have HZ := szStringS_at v L w hv hl hh
  have HTO : L.length ≤ 1048576 → ∀ w', Below w.heap.size w w' → _ := fun h w' b => toStringS_any v L w' h (hv.below b)
  have HS : (∀ t, t < L.length → L[t]!.size ≤ 1048576) → ∀ u base w', TxtRow w' base u L → _ := fun hs u base w' h => (sMount HPQ u L base w' hs h).mono fun e w'' h => saysM_one h
  have HI : (∀ t, t < L.length → L[t]!.size ≤ 1048576) → ∀ u base w', Below w.heap.size w w' → TxtRow w' base u L → _ := fun hs u base w' b h => (iMount u L base T xe w' (hT.below b) (hC.below b) (hE.below b) hs h).mono fun e w'' h => saysM_one h
  obtain ⟨h16, h12, h17⟩ := ansM_small L
  have hsum := sum_small (ansM (mountN L)).1.ins h12
  generalize ansM (mountN L) = x at *
  obtain ⟨x, tt, cd⟩ := x
  dsimp only at *
  have HEQ := fun u1 u2 w' h1 h2 => eqVol_same u1 u2 x w' (by omega) (fun y hy => by have := h12 y hy; omega) h1 h2
  obtain ⟨sq, D⟩ := tt
  dsimp only at *
  have HED := fun u1 u2 w' h1 h2 => eqWrs_same u1 u2 D w' (by omega) h1 h2
  have HES : ∀ w' u1 u2, TxtsAt w' u1 L → TxtsAt w' u2 L → Calls Tryz.prog 10 #[u1, u2] w' fun e w'' => e = .returned (.bool true) ∧ Below w'.heap.size w' w'' := fun w' u1 u2 h1 h2 => by
    have := eqStringS_any u1 u2 L L w' hl h1 h2
    rwa [decide_eq_true rfl] at this
  obtain ⟨a, ca, hva⟩ : ∃ a ca, v = .slice a L.length ca := by obtain ⟨a, ca, e, -, -⟩ := hv; exact ⟨a, ca, e⟩
  obtain ⟨nx, ins⟩ := x
  dsimp only at *
  subst hva
  go_enter Tryz.func3, Tryz.ntmps3
  go_wp2_with fail
  refine HZ.mono ?_
  rintro e w1 ⟨q, rfl, ⟨hq0, hq1⟩, HQ, b1⟩
  by_cases hq : q < 0
  · go_wp2
    go_ret
    exact ⟨rfl, b1⟩
  · obtain ⟨hlen, hsz⟩ := HQ.out (by omega)
    have HTO := HTO hlen
    have HS := HS hsz
    have HI := HI hsz
    clear HQ HZ hsz hh
    go_wp2_with fail
    refine (HTO w1 b1).mono ?_
    rintro e w2 ⟨u2, rfl, r2, b2⟩
    have B2 := b1.trans (b2.mono b1.size)
    go_wp2_with fail
    refine (HS u2 _ w2 r2).mono ?_
    rintro e w3 ⟨u3, M3, s3, Q3, rfl, hM3, i3, j3, ⟨hQ3, hR3⟩, b3⟩
    have B3 := B2.trans (b3.mono B2.size)
    obtain ⟨a3, c3, hu3, -, -⟩ := i3.at
    rw [hM3] at hu3
    subst hu3
    have BX3 := below_lit w3 (.cells #[.int .i64 nx, .slice a3 ins.length c3] 26)
    have S3 : (w3.alloc (.cells #[.int .i64 nx, .slice a3 ins.length c3] 26)).heap.size = w3.heap.size + 1 := by simp
    have hP3 := (MapKept.heap_alloc w3 (.cells #[.int .i64 nx, .slice a3 ins.length c3] 26)).1
    have BX3' := B3.trans (BX3.mono B3.size)
    have i3' := i3.below BX3
    have j3' := j3.below BX3
    have hTO3 := HTO _ BX3'
    rw [S3] at hTO3
    go_wp2_with fail
    refine hTO3.mono ?_
    rintro e w4 ⟨u4, rfl, r4, b4⟩
    have hP4 := (b4.block w3.heap.size (by omega)).trans hP3
    have B4 := BX3'.trans (b4.mono (by have := B3.size; omega))
    have i4 := i3'.below (by rw [S3]; exact b4)
    have j4 := j3'.below (by rw [S3]; exact b4)
    have hs34 := b4.size
    rw [S3] at hs34
    go_wp2_with fail
    refine (HI u4 (w3.heap.size + 1) w4 B4 r4).mono ?_
    rintro e w5 ⟨u5, M5, s5, Q5, rfl, hM5, i5, j5, ⟨hQ5, hR5'⟩, b5⟩
    have B5 := B4.trans (b5.mono B4.size)
    obtain ⟨a5, c5, hu5, -, -⟩ := i5.at
    rw [hM5] at hu5
    subst hu5
    have hs45 := b5.size
    have BX5 := below_lit w5 (.cells #[.int .i64 nx, .slice a5 ins.length c5] 26)
    have S5 : (w5.alloc (.cells #[.int .i64 nx, .slice a5 ins.length c5] 26)).heap.size = w5.heap.size + 1 := by simp
    have hR5 := (MapKept.heap_alloc w5 (.cells #[.int .i64 nx, .slice a5 ins.length c5] 26)).1
    have b45 := b5.trans (BX5.mono hs45)
    have hP5 := (b45.block w3.heap.size (by omega)).trans hP4
    have BX5' := B5.trans (BX5.mono B5.size)
    have i45 := i4.below b45
    have j45 := j4.below b45
    have i5' := i5.below BX5
    have j5' := j5.below BX5
    have r45 := r4.below b45
    have vat3 : VolAt (w5.alloc (.cells #[.int .i64 nx, .slice a5 ins.length c5] 26)) (.agg #[.int .i64 nx, .slice a3 ins.length c3]) ⟨nx, ins⟩ := ⟨_, rfl, by have h := i45.at; rwa [hM3] at h⟩
    have vat5 : VolAt (w5.alloc (.cells #[.int .i64 nx, .slice a5 ins.length c5] 26)) (.agg #[.int .i64 nx, .slice a5 ins.length c5]) ⟨nx, ins⟩ := ⟨_, rfl, by have h := i5'.at; rwa [hM5] at h⟩
    have hEQ5 := HEQ _ _ _ vat5 vat3
    rw [S5] at hEQ5
    have p0 := Joins.cell_of_block hP5 0
    have p1 := Joins.cell_of_block hP5 1
    dsimp at p0 p1
    go_wp2_with fail
    refine hEQ5.mono ?_
    rintro e w6 ⟨rfl, b6⟩
    have b6' : Below (w5.alloc (.cells #[.int .i64 nx, .slice a5 ins.length c5] 26)).heap.size (w5.alloc (.cells #[.int .i64 nx, .slice a5 ins.length c5] 26)) w6 := by rw [S5]; exact b6
    have st5 : MtSt w w3.heap.size w5.heap.size nx (.slice a3 ins.length c3) (.slice a5 ins.length c5) Q3 Q5 M3 M5 w2.heap.size Q3 w4.heap.size s3 s5 D D _ := ⟨⟨BX5', hP5, hR5, i45, i5'⟩, j45, j5'⟩
    have st6 := st5.below b6'
    have r6 := r45.below b6'
    have hu3 : (∀ q, (Value.slice a3 ins.length c3).ownBlock = some q → q < w3.heap.size) ∧ ∀ t, t < M3.length → ∀ q, M3[t]!.2.ownBlock = some q → q < w3.heap.size := ⟨fun q hq => (World.ownsRow.lt i3.row q hq).2, fun t ht q hq => ((i3.ents t ht).blk q hq).2⟩
    have hu5 : (∀ q, (Value.slice a5 ins.length c5).ownBlock = some q → Q5 ≤ q ∧ q < w5.heap.size) ∧ ∀ t, t < M5.length → ∀ q, M5[t]!.2.ownBlock = some q → Q5 ≤ q ∧ q < w5.heap.size := ⟨fun q hq => World.ownsRow.lt i5.row q hq, fun t ht q hq => (i5.ents t ht).blk q hq⟩
    have hw3 := B3.size
    clear st5 b6' b6 hEQ5 vat3 vat5 i45 j45 i5' j5' r45 p0 p1 hP5 hR5 BX5' BX5 b45 i4 i3' j4 j3' j3 j5 hP4 hP3 hTO3 BX3 BX3' B4 B5 B2 B3
    go_wp2_with fail
    refine (HED _ _ w6 st6.y.r.at st6.x.r.at).mono ?_
    rintro e w6b ⟨rfl, b6b⟩
    have st6 := st6.below b6b
    have r6 := r6.below b6b
    clear b6b
    have hTO6 := HTO w6b st6.v.bel
    go_wp2_with fail
    refine hTO6.mono ?_
    rintro e w7 ⟨u7, rfl, r7, b7⟩
    have st7 := st6.below b7
    have rr7 := r6.below b7
    go_wp2_with fail
    refine (HES w7 u4 u7 rr7.at r7.at).mono ?_
    rintro e w8 ⟨rfl, b8⟩
    have st8 := st7.below b8
    have rr8 := rr7.below b8
    have hs8 : w5.heap.size < w8.heap.size := lt_of_block st8.v.hr
    clear hTO6 st6 st7 r6 rr7 r7 b7 b8
    go_wp2_with fail
    refine (markStringS_any u4 L 1 (w3.heap.size + 1) w8 rr8 (by omega) (by decide) (by decide)).mono ?_
    rintro e w9 ⟨rfl, -, k9⟩
    have m9 : MidB (w3.heap.size + 1) w4.heap.size w8 w9 := MidB.of_grown k9 (fun q hq => r4.blk q hq)
    have st9 : MtSt w w3.heap.size w5.heap.size nx (.slice a3 ins.length c3) (.slice a5 ins.length c5) Q3 Q5 M3 M5 w2.heap.size Q3 w4.heap.size s3 s5 D D w9 :=
      ⟨st8.v.mid m9 (by omega) (by omega) (by omega) (by omega) hu3 (st8.v.i5.mid m9 ⟨fun q hq => .inr (by have := (hu5.1 q hq).1; omega), fun t ht q hq => .inr (by have := (hu5.2 t ht q hq).1; omega)⟩), st8.x.mid m9 (by omega), st8.y.mid m9 (by omega)⟩
    obtain ⟨mm, HMM⟩ : ∃ mm : Nat, Hid (mm = 1 + L.length) := ⟨_, rfl⟩
    rw [← HMM.out]
    have hmm0 : ¬ ((mm : Int) < 0) := by omega
    obtain ⟨p0, p1, g0, g1⟩ := st9.v.cells
    go_wp2_with fail
    refine (HEQ _ _ w9 (vat_of st9.v.i5 hM5) (vat_of st9.v.i3 hM3)).mono ?_
    rintro e w10a ⟨rfl, b10a⟩
    have st10a := st9.below b10a
    clear st9 b10a st8 rr8 m9 k9 p0 p1 g0 g1
    go_wp2_with fail
    refine (HED _ _ w10a st10a.y.r.at st10a.x.r.at).mono ?_
    rintro e w10 ⟨rfl, b10⟩
    have st10 := st10a.below b10
    clear st10a b10
    have hs10 : w5.heap.size < w10.heap.size := lt_of_block st10.v.hr
    have hnum := numI_all 1 M5
    rw [hM5] at hnum
    have hM5l : M5.length = ins.length := by rw [← hM5, List.length_map]
    have hsh5 : ∀ t, t < M5.length → M5[t]!.1.ents.length ≤ 1048577 := fun t ht => by
      have h1 : M5[t]!.1 ∈ ins := by rw [← hM5, getElem!_pos M5 t ht]; exact List.mem_map.2 ⟨M5[t], List.getElem_mem ht, rfl⟩
      have := h12 _ h1; omega
    have hnm : numI 1 M5 M5.length ≤ 90000000 := by rw [hnum]; omega
    have hnm1 : 1 ≤ numI 1 M5 M5.length := by rw [hnum]; omega
    have hMK := markVol_any nx (.slice a5 ins.length c5) M5 1 Q5 w5.heap.size w10 st10.v.i5 (fun q hq => (hu5.1 q hq).2) (fun t q ht hq => (hu5.2 t ht q hq).2) (by decide) hnm hsh5
    have HH : ∀ w', InosAt w' (.slice a5 ins.length c5) ((marksI 1 M5).map (·.1)) → _ := fun w' h => heldVol_marks nx (.slice a5 ins.length c5) M5 1 w' h (by omega) (by decide) hnm hsh5
    clear hnum hsh5
    generalize numI 1 M5 M5.length = nm at hMK HH hnm hnm1
    generalize marksI 1 M5 = mk5 at hMK HH
    have hnn : ¬ ((nm : Int) < 0) := by omega
    obtain ⟨p0, p1, g0, g1⟩ := st10.v.cells
    go_wp2_with fail
    refine hMK.mono ?_
    rintro e w11a ⟨rfl, r11, m11⟩
    have st11a : MtSt w w3.heap.size w5.heap.size nx (.slice a3 ins.length c3) (.slice a5 ins.length c5) Q3 Q5 M3 mk5 w2.heap.size Q3 w4.heap.size s3 s5 D D w11a :=
      ⟨st10.v.mid m11 (by omega) (by omega) (by omega) (by omega) hu3 r11, st10.x.mid m11 (by omega), st10.y.mid m11 (by omega)⟩
    have hz11 : w5.heap.size < w11a.heap.size := lt_of_block st11a.v.hr
    clear hMK m11 r11 st10 p0 p1 g0 g1
    have HM3 := markWrS_any s5 D nm w4.heap.size w11a st11a.y.r (by omega) (by omega) (by omega)
    have HHG := fun w' h => heldWrS_marks s5 D.length nm w' (by omega) (by omega) (by omega) h
    have HM3 : Calls Tryz.prog 13 #[s5, .int .i64 nm] w11a fun e w' => e = .returned (.int .i64 ((nm + 2 * D.length : Nat) : Int)) ∧ WrRow w' w4.heap.size s5 (marksW nm D.length) ∧ w11a.grownBy w' s5.ownBlock := HM3
    have HHG : ∀ w', WrsAt w' s5 (marksW nm D.length) → Calls Tryz.prog 15 #[s5, .int .i64 nm] w' fun e w'' => e = .returned (.int .i64 ((nm + 2 * D.length : Nat) : Int)) ∧ Below w'.heap.size w' w'' := HHG
    obtain ⟨n2, HN2⟩ : ∃ n2 : Nat, Hid (n2 = nm + 2 * D.length) := ⟨_, rfl⟩
    rw [← HN2.out] at HM3 HHG
    generalize marksW nm D.length = mW at HM3 HHG
    have hn2 : ¬ ((n2 : Int) < 0) := by omega
    go_wp2_with fail
    refine HM3.mono ?_
    rintro e w11 ⟨rfl, r17, g17⟩
    have m17 : MidB w4.heap.size Q5 w11a w11 := MidB.of_grown g17 (fun q hq => ⟨st11a.y.lo q hq, st11a.y.t q hq⟩)
    have i17 : InoRow w11 Q5 (.slice a5 ins.length c5) mk5 := st11a.v.i5.mid m17 ⟨fun q hq => .inr (World.ownsRow.lt st11a.v.i5.row q hq).1, fun t ht q hq => .inr ((st11a.v.i5.ents t ht).blk q hq).1⟩
    have st11 : MtSt w w3.heap.size w5.heap.size nx (.slice a3 ins.length c3) (.slice a5 ins.length c5) Q3 Q5 M3 mk5 w2.heap.size Q3 w4.heap.size s3 s5 D mW w11 :=
      ⟨st11a.v.mid m17 (by omega) (by omega) (by omega) (by omega) hu3 i17, st11a.x.mid m17 (by omega), ⟨r17, st11a.y.t⟩⟩
    clear HM3 g17 r17 m17 i17 st11a
    obtain ⟨p0, p1, g0, g1⟩ := st11.v.cells
    go_wp2_with fail
    refine (HH w11 st11.v.i5.at).mono ?_
    rintro e w12a ⟨rfl, b12⟩
    have st12a := st11.below b12
    clear st11 b12 p0 p1 g0 g1
    go_wp2_with fail
    refine (HHG w12a st12a.y.r.at).mono ?_
    rintro e w12 ⟨rfl, b12⟩
    have st12 := st12a.below b12
    clear st12a b12
    go_wp2_with fail
    refine (HTO w12 st12.v.bel).mono ?_
    rintro e w13 ⟨u13, rfl, r13, b13⟩
    have st13 := st12.below b13
    clear st12 b13
    go_wp2_with fail
    refine (HI u13 w12.heap.size w13 st13.v.bel r13).mono ?_
    rintro e w14 ⟨u14, M14, s14, Q14, rfl, hM14, i14, j14, -, b14⟩
    have st14 := st13.below b14
    clear st13 b14 r13
    obtain ⟨a14, c14, hu14, -, -⟩ := i14.at
    rw [hM14] at hu14
    subst hu14
    have BX14 := below_lit w14 (.cells #[.int .i64 nx, .slice a14 ins.length c14] 26)
    have S14 : (w14.alloc (.cells #[.int .i64 nx, .slice a14 ins.length c14] 26)).heap.size = w14.heap.size + 1 := by simp
    have st14' := st14.below BX14
    have j14' := j14.below BX14
    have hEQ14 := HEQ _ _ _ (vat_of (i14.below BX14) hM14) (vat_of st14'.v.i3 hM3)
    rw [S14] at hEQ14
    obtain ⟨p0, p1, g0, g1⟩ := st14'.v.cells
    clear st14
    go_wp2_with fail
    refine hEQ14.mono ?_
    rintro e w15a ⟨rfl, b15⟩
    have st15a := st14'.below (by rw [S14]; exact b15)
    have j15 := j14'.below (by rw [S14]; exact b15)
    clear st14' hEQ14 b15 p0 p1 g0 g1 j14 j14'
    go_wp2_with fail
    refine (HED _ _ w15a j15.r.at st15a.x.r.at).mono ?_
    rintro e w15 ⟨rfl, b15⟩
    have st15 := st15a.below b15
    obtain ⟨p0, p1, g0, g1⟩ := st15.v.cells
    clear st15a b15
    go_wp2_with fail
    refine (HH w15 st15.v.i5.at).mono ?_
    rintro e w16a ⟨rfl, b16⟩
    have st16a := st15.below b16
    clear st15 b16
    go_wp2_with fail
    refine (HHG w16a st16a.y.r.at).mono ?_
    rintro e w16 ⟨rfl, b16⟩
    have st16 := st16a.below b16
    clear st16a b16
    go_wp2
    go_ret
    exact ⟨rfl, st16.v.bel⟩
end

end Go.Proofs.YtpijjinoeghgoaaGreatDoor
