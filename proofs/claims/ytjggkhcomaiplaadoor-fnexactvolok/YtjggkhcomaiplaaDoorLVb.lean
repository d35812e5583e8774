/- Volumes: laws.szInode, szInodeS, szVol. -/
import Derived.Test.YtjggkhcomaiplaaDoorRows
import Derived.Test.YtjggkhcomaiplaaDoorNa
import Derived.Test.YtjggkhcomaiplaaDoorMq
namespace Go.Proofs.YtjggkhcomaiplaaDoor
open Go.RowKit Go.Sort

/-- what is left behind a row of entries -/
def SzE (l : List En) (r q : Int) : Prop := -1 ≤ q ∧ q ≤ r ∧ (0 ≤ q → (l.length : Int) + q ≤ r ∧ ∀ t, t < l.length → l[t]!.name.size ≤ 1048576)

set_option maxRecDepth 100000 in
set_option maxHeartbeats 1000000 in
theorem szEntS_at (v : Value) (l : List En) (r : Int) (w : World) (hr0 : 0 ≤ r) (hr1 : r ≤ 1048576) (hv : EntsAt w v l) (hl : l.length ≤ 9223372036854775807) (hs : ∀ t, t < l.length → l[t]!.name.size ≤ 9223372036854775807) :
    Calls Tryd.prog 30 #[v, .int .i64 r] w fun e w' => ∃ q : Int, e = .returned (.int .i64 q) ∧ SzE l r q ∧ Below w.heap.size w w' := by
  unfold SzE
  obtain ⟨a, ca, rfl, -, hva⟩ := hv
  obtain ⟨n, HL⟩ : ∃ n, Hid (n = l.length) := ⟨_, rfl⟩
  rw [← HL.out] at hva hl hs ⊢
  have hw : IntKind.i64.wrap (r - (n : Int)) = r - (n : Int) := by rw [IntKind.wrap_i64]; omega
  by_cases hbig : r < n
  · have hc : r - (n : Int) < 0 := by omega
    go_enter Tryd.func30, Tryd.ntmps30
    go_wp2
    go_ret
    exact ⟨-1, rfl, ⟨by omega, by omega, fun h => (by omega)⟩, Below.refl _ _⟩
  · have hc : ¬ (r - (n : Int) < 0) := by omega
    go_enter Tryd.func30, Tryd.ntmps30
    go_wp2
    go_loopw [1, 5] (fun q i wr => ∃ k : Nat, k ≤ n ∧ i = .int .i64 k ∧ ∃ x : Int, q = .int .i64 x ∧ 0 ≤ x ∧ (n : Int) + x ≤ r ∧ Hid (∀ t, t < k → l[t]!.name.size ≤ 1048576) ∧ Below w.heap.size w wr) (fun _ i _ => n - (intOf i).toNat)
    case atStart => exact ⟨0, Nat.zero_le _, rfl, _, rfl, by omega, by omega, fun t ht => by omega, Below.refl _ _⟩
    case round =>
      obtain ⟨k, hk, rfl, x, rfl, hx0, hx1, HS, hbel⟩ := hrel
      by_cases hlt : k < n
      · obtain ⟨b1, o1, rfl, hb1, hc1⟩ := hva k hlt
        have hc1 := hc1.below hb1 hbel
        have HZ := fun w' => szEnt_any l[k]! x w' hx0 (by omega) (hs k hlt)
        have HK : Hid (¬ x < (l[k]!.name.size : Int) → ∀ t, t < k + 1 → l[t]!.name.size ≤ 1048576) := fun h t ht => by
          by_cases e : t = k
          · rw [e]; omega
          · exact HS.out t (by omega)
        generalize l[k]! = y at hc1 HZ HK
        obtain ⟨y0, y1, y2, y3⟩ := y
        have k0 := hc1.c0
        have k1 := hc1.c1
        have k2 := hc1.c2
        have k3 := hc1.c3
        dsimp only at k0 k1 k2 k3 HZ HK
        obtain ⟨z, HZZ⟩ : ∃ z : Int, Hid (z = (y2.size : Int)) := ⟨_, rfl⟩
        rw [← HZZ.out] at HZ HK
        have hz : 0 ≤ z := by have := HZZ.out; omega
        clear hc1 hva
        by_cases hxz : x < z
        · rw [if_pos hxz] at HZ
          clear HK
          go_wp2_with (go_at_call 42; refine (HZ _).mono ?_; rintro e w2 ⟨rfl, b2⟩)
          go_ret
          exact ⟨-1, rfl, ⟨by omega, by omega, fun h => (by omega)⟩, hbel.trans (b2.mono hbel.size)⟩
        · rw [if_neg hxz] at HZ
          have HK' : Hid (∀ t, t < k + 1 → l[t]!.name.size ≤ 1048576) := HK.out hxz
          have hc' : ¬ (x - z < 0) := by omega
          clear HK
          go_wp2_with (go_at_call 42; refine (HZ _).mono ?_; rintro e w2 ⟨rfl, b2⟩)
          go_roundw
          case rel => exact ⟨k + 1, by omega, by go_num, x - z, rfl, by omega, by omega, HK'.out, hbel.trans (b2.mono hbel.size)⟩
          case measure => simp [intOf]; omega
      · obtain rfl : n = k := by omega
        go_wp2
        go_ret
        exact ⟨x, rfl, ⟨by omega, by omega, fun _ => ⟨by omega, HS.out⟩⟩, hbel⟩

/-- what is left behind an inode -/
def SzI (y : Ino) (r q : Int) : Prop := -1 ≤ q ∧ q ≤ r ∧ (0 ≤ q → (y.ents.length : Int) + q ≤ r ∧ y.data.size ≤ 1048576 ∧ ∀ t, t < y.ents.length → y.ents[t]!.name.size ≤ 1048576)
/-- an inode whose texts a machine can hold -/
structure InoHeld (y : Ino) : Prop where
  len : y.ents.length ≤ 9223372036854775807
  names : ∀ t, t < y.ents.length → y.ents[t]!.name.size ≤ 9223372036854775807
  data : y.data.size ≤ 9223372036854775807

set_option maxRecDepth 100000 in
set_option maxHeartbeats 1000000 in
theorem szInode_at (y : Ino) (s : Value) (r : Int) (w : World) (hr0 : 0 ≤ r) (hr1 : r ≤ 1048576) (hs : EntsAt w s y.ents) (hh : InoHeld y) :
    Calls Tryd.prog 20 #[valI y s, .int .i64 r] w fun e w' => ∃ q : Int, e = .returned (.int .i64 q) ∧ SzI y r q ∧ Below w.heap.size w w' := by
  have HE := fun w' (b : Below w.heap.size w w') r (h0 : 0 ≤ r) (h1 : r ≤ 1048576) => szEntS_at s y.ents r w' h0 h1 (hs.below b) hh.len hh.names
  have hd := hh.data
  unfold SzI
  obtain ⟨a2, ca2, rfl, -, -⟩ := hs
  clear hh
  obtain ⟨yi, yk, yl, yd, ye⟩ := y
  unfold valI
  dsimp only at *
  have B0 := below_lit w (.cells #[.int .i64 yi, .int .i64 yk, .int .i64 yl, .string yd, .slice a2 ye.length ca2] 55)
  have hw : IntKind.i64.wrap (r - (yd.size : Int)) = r - (yd.size : Int) := by rw [IntKind.wrap_i64]; omega
  by_cases hbig : r < yd.size
  · have hc : r - (yd.size : Int) < 0 := by omega
    go_enter Tryd.func20, Tryd.ntmps20
    go_wp2
    go_ret
    exact ⟨-1, rfl, ⟨by omega, by omega, fun h => (by omega)⟩, B0⟩
  · have hc : ¬ (r - (yd.size : Int) < 0) := by omega
    have HE := HE _ B0 (r - (yd.size : Int)) (by omega) (by omega)
    go_enter Tryd.func20, Tryd.ntmps20
    go_wp2_with fail
    refine HE.mono ?_
    rintro e w1 ⟨q, rfl, HQ, b1⟩
    obtain ⟨hq0, hq1, HQ⟩ := HQ
    have HQ : Hid _ := HQ
    by_cases hq : q < 0
    · go_wp2
      go_ret
      exact ⟨-1, rfl, ⟨by omega, by omega, fun h => (by omega)⟩, B0.trans (b1.mono B0.size)⟩
    · have HQ2 := HQ.out (by omega)
      go_wp2
      go_ret
      exact ⟨q, rfl, ⟨by omega, by omega, fun _ => ⟨by omega, by omega, HQ2.2⟩⟩, B0.trans (b1.mono B0.size)⟩

set_option maxRecDepth 100000 in
set_option maxHeartbeats 1000000 in
theorem szInodeS_at (v : Value) (l : List Ino) (w : World) (hv : InosAt w v l) (hl : l.length ≤ 9223372036854775807) (hh : ∀ y ∈ l, InoHeld y) :
    Calls Tryd.prog 9 #[v, .int .i64 1048576] w fun e w' => ∃ q : Int, e = .returned (.int .i64 q) ∧ (-1 ≤ q ∧ q ≤ 1048576) ∧ Hid (0 ≤ q → l.length ≤ 1048576 ∧ (l.length + (l.map fun y => y.ents.length).sum ≤ 1048576) ∧ ∀ y ∈ l, y.data.size ≤ 1048576 ∧ ∀ t, t < y.ents.length → y.ents[t]!.name.size ≤ 1048576) ∧ Below w.heap.size w w' := by
  obtain ⟨a, ca, rfl, -, hva⟩ := hv
  have HH : Hid (∀ k, k < l.length → InoHeld l[k]!) := fun k hk => hh _ (by rw [getElem!_pos l k hk]; exact List.getElem_mem hk)
  have HSU : Hid (∀ k, k < l.length → ((l.take (k + 1)).map fun y => y.ents.length).sum = ((l.take k).map fun y => y.ents.length).sum + l[k]!.ents.length) := fun k hk => by
    rw [List.take_succ_eq_append_getElem hk, List.map_append, List.sum_append, getElem!_pos l k hk]; simp
  have HEND : Hid (∀ q : Int, ((l.length : Int) + ((l.take l.length).map fun y => y.ents.length).sum + q ≤ 1048576) → (∀ t, t < l.length → l[t]!.data.size ≤ 1048576 ∧ ∀ s, s < l[t]!.ents.length → l[t]!.ents[s]!.name.size ≤ 1048576) → (0 ≤ q → l.length ≤ 1048576 ∧ (l.length + (l.map fun y => y.ents.length).sum ≤ 1048576) ∧ ∀ y ∈ l, y.data.size ≤ 1048576 ∧ ∀ t, t < y.ents.length → y.ents[t]!.name.size ≤ 1048576)) := fun q h1 h2 h3 => by
    rw [List.take_length] at h1
    refine ⟨by omega, by omega, fun y hy => ?_⟩
    obtain ⟨t, ht, rfl⟩ := List.getElem_of_mem hy
    have := h2 t ht
    rwa [getElem!_pos l t ht] at this
  obtain ⟨n, HL⟩ : ∃ n, Hid (n = l.length) := ⟨_, rfl⟩
  have HG : Hid (∀ q : Int, q < 0 → (0 ≤ q → n ≤ 1048576 ∧ (n + (l.map fun y => y.ents.length).sum ≤ 1048576) ∧ ∀ y ∈ l, y.data.size ≤ 1048576 ∧ ∀ t, t < y.ents.length → y.ents[t]!.name.size ≤ 1048576)) := fun q h h2 => by omega
  rw [← HL.out] at hva hl HH HSU HEND ⊢
  clear hh
  have hw : IntKind.i64.wrap (1048576 - (n : Int)) = 1048576 - (n : Int) := by rw [IntKind.wrap_i64]; omega
  by_cases hbig : 1048576 < n
  · have hc : (1048576 : Int) - (n : Int) < 0 := by omega
    go_enter Tryd.func9, Tryd.ntmps9
    go_wp2
    go_ret
    exact ⟨-1, rfl, ⟨by omega, by omega⟩, HG.out (-1) (by omega), Below.refl _ _⟩
  · have hc : ¬ ((1048576 : Int) - (n : Int) < 0) := by omega
    go_enter Tryd.func9, Tryd.ntmps9
    go_wp2
    go_loopw [1, 5] (fun q i wr => ∃ k : Nat, k ≤ n ∧ i = .int .i64 k ∧ ∃ (x : Int) (sm : Nat), q = .int .i64 x ∧ 0 ≤ x ∧ Hid (sm = ((l.take k).map fun y => y.ents.length).sum) ∧ (n : Int) + sm + x ≤ 1048576 ∧ Hid (∀ t, t < k → l[t]!.data.size ≤ 1048576 ∧ ∀ s, s < l[t]!.ents.length → l[t]!.ents[s]!.name.size ≤ 1048576) ∧ Below w.heap.size w wr) (fun _ i _ => n - (intOf i).toNat)
    case atStart => exact ⟨0, Nat.zero_le _, rfl, _, 0, rfl, by omega, by show 0 = _; simp, by omega, fun t ht => by omega, Below.refl _ _⟩
    case round =>
      obtain ⟨k, hk, rfl, x, sm, rfl, hx0, HSM, hx1, HS, hbel⟩ := hrel
      by_cases hlt : k < n
      · obtain ⟨b1, o1, s1, rfl, hb1, hc1, hen⟩ := hva k hlt
        have hc1 := hc1.below hb1 hbel
        have HZ := szInode_at l[k]! s1 x wr hx0 (by omega) (hen.below hbel) (HH.out k hlt)
        have HSK := HSU.out k hlt
        rw [← HSM.out] at HSK
        have HK : Hid (l[k]!.data.size ≤ 1048576 → (∀ t, t < l[k]!.ents.length → l[k]!.ents[t]!.name.size ≤ 1048576) → ∀ t, t < k + 1 → l[t]!.data.size ≤ 1048576 ∧ ∀ s, s < l[t]!.ents.length → l[t]!.ents[s]!.name.size ≤ 1048576) := fun h1 h2 t ht => by
          by_cases e : t = k
          · rw [e]; exact ⟨h1, h2⟩
          · exact HS.out t (by omega)
        unfold SzI at HZ
        obtain ⟨ea, ec, rfl, -, -⟩ := hen
        have HSK : Hid _ := HSK
        generalize l[k]! = y at hc1 HZ HK HSK
        obtain ⟨yi, yk, yl, yd, ye⟩ := y
        unfold valI at HZ
        dsimp only at hc1 HZ HK HSK
        have k0 := hc1.c0
        have k1 := hc1.c1
        have k2 := hc1.c2
        have k3 := hc1.c3
        have k4 := hc1.c4
        clear hc1 hva
        go_wp2_with fail
        refine HZ.mono ?_
        rintro e w2 ⟨q, rfl, ⟨hq0, hq1, HQ⟩, b2⟩
        have HQ : Hid (0 ≤ q → (ye.length : Int) + q ≤ x ∧ yd.size ≤ 1048576 ∧ ∀ t, t < ye.length → ye[t]!.name.size ≤ 1048576) := HQ
        by_cases hq : q < 0
        · go_wp2
          go_ret
          exact ⟨-1, rfl, ⟨by omega, by omega⟩, HG.out (-1) (by omega), hbel.trans (b2.mono hbel.size)⟩
        · obtain ⟨hq2, hq3, hq4⟩ := HQ.out (by omega)
          have HX : Hid (∀ t, t < k + 1 → l[t]!.data.size ≤ 1048576 ∧ ∀ s, s < l[t]!.ents.length → l[t]!.ents[s]!.name.size ≤ 1048576) := HK.out hq3 hq4
          have HY : Hid (sm + ye.length = ((l.take (k + 1)).map fun y => y.ents.length).sum) := HSK.out.symm
          have hz : (n : Int) + (sm + ye.length : Nat) + q ≤ 1048576 := by omega
          clear hq4
          go_wp2
          go_roundw
          case rel => exact ⟨k + 1, by omega, by go_num, q, sm + ye.length, rfl, by omega, HY, hz, HX, hbel.trans (b2.mono hbel.size)⟩
          case measure => simp [intOf]; omega
      · obtain rfl : n = k := by omega
        have HE := HEND.out x (by rw [← HSM.out]; exact hx1) HS.out
        go_wp2
        go_ret
        exact ⟨x, rfl, ⟨by omega, by omega⟩, HE, hbel⟩

set_option maxRecDepth 100000 in
set_option maxHeartbeats 1000000 in
theorem szVol_at (v : Value) (x : Vo) (w : World) (hv : VolAt w v x) (hl : x.ins.length ≤ 9223372036854775807) (hh : ∀ y ∈ x.ins, InoHeld y) :
    Calls Tryd.prog 4 #[v, .int .i64 1048576] w fun e w' => ∃ q : Int, e = .returned (.int .i64 q) ∧ (-1 ≤ q ∧ q ≤ 1048576) ∧ Hid (0 ≤ q → x.ins.length ≤ 1048576 ∧ (x.ins.length + (x.ins.map fun y => y.ents.length).sum ≤ 1048576) ∧ ∀ y ∈ x.ins, y.data.size ≤ 1048576 ∧ ∀ t, t < y.ents.length → y.ents[t]!.name.size ≤ 1048576) ∧ Below w.heap.size w w' := by
  obtain ⟨u, rfl, hv⟩ := hv
  have HE := szInodeS_at u x.ins _ (hv.below (below_lit w (.cells #[.int .i64 x.next, u] 24))) hl hh
  obtain ⟨nx, l⟩ := x
  obtain ⟨a, ca, rfl, -, -⟩ := hv
  dsimp only at *
  have B0 := below_lit w (.cells #[.int .i64 nx, .slice a l.length ca] 24)
  go_enter Tryd.func4, Tryd.ntmps4
  go_wp2_with fail
  refine HE.mono ?_
  rintro e w1 ⟨q, rfl, ⟨hq0, hq1⟩, HQ, b1⟩
  by_cases hq : q < 0
  · go_wp2
    go_ret
    exact ⟨-1, rfl, ⟨by omega, by omega⟩, fun h => (by omega), B0.trans (b1.mono B0.size)⟩
  · go_wp2
    go_ret
    exact ⟨q, rfl, ⟨by omega, by omega⟩, HQ, B0.trans (b1.mono B0.size)⟩

end Go.Proofs.YtjggkhcomaiplaaDoor
