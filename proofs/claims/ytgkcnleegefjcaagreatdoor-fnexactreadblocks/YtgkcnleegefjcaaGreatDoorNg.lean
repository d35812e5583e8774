/- Volumes: laws.szInode, szInodeS, szVol. Volumes: laws.toInode, toInodeS, toVol. Volumes: laws.toInodeS, toVol. -/
import Derived.Test.YtgkcnleegefjcaaGreatDoorRows
import Derived.Test.YtgkcnleegefjcaaGreatDoorNa
import Derived.Test.YtgkcnleegefjcaaGreatDoorMq
import Derived.Laws.ResultCell
import Derived.Lib.SmallJoins
import Derived.OwnWalk
namespace Go.Proofs.YtgkcnleegefjcaaGreatDoor

section
open Go.RowKit Go.Sort

/-- what is left behind a row of entries -/
def SzE (l : List En) (r q : Int) : Prop := -1 ≤ q ∧ q ≤ r ∧ (0 ≤ q → (l.length : Int) + q ≤ r ∧ ∀ t, t < l.length → l[t]!.name.size ≤ 1048576)

set_option maxRecDepth 100000 in
set_option maxHeartbeats 1000000 in
theorem szEntS_at (v : Value) (l : List En) (r : Int) (w : World) (hr0 : 0 ≤ r) (hr1 : r ≤ 1048576) (hv : EntsAt w v l) (hl : l.length ≤ 9223372036854775807) (hs : ∀ t, t < l.length → l[t]!.name.size ≤ 9223372036854775807) :
    Calls Tryz.prog 171 #[v, .int .i64 r] w fun e w' => ∃ q : Int, e = .returned (.int .i64 q) ∧ SzE l r q ∧ Below w.heap.size w w' := by
  unfold SzE
  obtain ⟨a, ca, rfl, -, hva⟩ := hv
  obtain ⟨n, HL⟩ : ∃ n, Hid (n = l.length) := ⟨_, rfl⟩
  rw [← HL.out] at hva hl hs ⊢
  have hw : IntKind.i64.wrap (r - (n : Int)) = r - (n : Int) := by rw [IntKind.wrap_i64]; omega
  by_cases hbig : r < n
  · have hc : r - (n : Int) < 0 := by omega
    go_enter Tryz.func171, Tryz.ntmps171
    go_wp2
    go_ret
    exact ⟨-1, rfl, ⟨by omega, by omega, fun h => (by omega)⟩, Below.refl _ _⟩
  · have hc : ¬ (r - (n : Int) < 0) := by omega
    go_enter Tryz.func171, Tryz.ntmps171
    go_wp2
    go_loopw [1, 5] (fun q i wr => ∃ k : Nat, k ≤ n ∧ i = .int .i64 k ∧ ∃ x : Int, q = .int .i64 x ∧ 0 ≤ x ∧ (n : Int) + x ≤ r ∧ Hid (∀ t, t < k → l[t]!.name.size ≤ 1048576) ∧ Below w.heap.size w wr) (fun _ i _ => n - (intOf i).toNat)
    case atStart => exact ⟨0, Nat.zero_le _, rfl, _, rfl, by omega, by omega, fun t ht => by omega, Below.refl _ _⟩
    case round =>
      obtain ⟨k, hk, rfl, x, rfl, hx0, hx1, HS, hbel⟩ := hrel
      by_cases hlt : k < n
      · obtain ⟨b1, o1, rfl, hb1, hc1⟩ := hva k hlt
        have hc1 := hc1.below hb1 hbel
        have HZ := fun w' => szEnt_any l[k]! x w' hx0 (by omega) (hs k hlt)
        have HK : Hid (¬ x < (l[k]!.name.size : Int) → ∀ t, t < k + 1 → l[t]!.name.size ≤ 1048576) := fun h t ht => by
          by_cases e : t = k
          · rw [e]; omega
          · exact HS.out t (by omega)
        generalize l[k]! = y at hc1 HZ HK
        obtain ⟨y0, y1, y2, y3⟩ := y
        have k0 := hc1.c0
        have k1 := hc1.c1
        have k2 := hc1.c2
        have k3 := hc1.c3
        dsimp only at k0 k1 k2 k3 HZ HK
        obtain ⟨z, HZZ⟩ : ∃ z : Int, Hid (z = (y2.size : Int)) := ⟨_, rfl⟩
        rw [← HZZ.out] at HZ HK
        have hz : 0 ≤ z := by have := HZZ.out; omega
        clear hc1 hva
        by_cases hxz : x < z
        · rw [if_pos hxz] at HZ
          clear HK
          go_wp2_with (go_at_call 203; refine (HZ _).mono ?_; rintro e w2 ⟨rfl, b2⟩)
          go_ret
          exact ⟨-1, rfl, ⟨by omega, by omega, fun h => (by omega)⟩, hbel.trans (b2.mono hbel.size)⟩
        · rw [if_neg hxz] at HZ
          have HK' : Hid (∀ t, t < k + 1 → l[t]!.name.size ≤ 1048576) := HK.out hxz
          have hc' : ¬ (x - z < 0) := by omega
          clear HK
          go_wp2_with (go_at_call 203; refine (HZ _).mono ?_; rintro e w2 ⟨rfl, b2⟩)
          go_roundw
          case rel => exact ⟨k + 1, by omega, by go_num, x - z, rfl, by omega, by omega, HK'.out, hbel.trans (b2.mono hbel.size)⟩
          case measure => simp [intOf]; omega
      · obtain rfl : n = k := by omega
        go_wp2
        go_ret
        exact ⟨x, rfl, ⟨by omega, by omega, fun _ => ⟨by omega, HS.out⟩⟩, hbel⟩

/-- what is left behind an inode -/
def SzI (y : Ino) (r q : Int) : Prop := -1 ≤ q ∧ q ≤ r ∧ (0 ≤ q → (y.ents.length : Int) + q ≤ r ∧ y.data.size ≤ 1048576 ∧ ∀ t, t < y.ents.length → y.ents[t]!.name.size ≤ 1048576)
/-- an inode whose texts a machine can hold -/
structure InoHeld (y : Ino) : Prop where
  len : y.ents.length ≤ 9223372036854775807
  names : ∀ t, t < y.ents.length → y.ents[t]!.name.size ≤ 9223372036854775807
  data : y.data.size ≤ 9223372036854775807

set_option maxRecDepth 100000 in
set_option maxHeartbeats 1000000 in
theorem szInode_at (y : Ino) (s : Value) (r : Int) (w : World) (hr0 : 0 ≤ r) (hr1 : r ≤ 1048576) (hs : EntsAt w s y.ents) (hh : InoHeld y) :
    Calls Tryz.prog 121 #[valI y s, .int .i64 r] w fun e w' => ∃ q : Int, e = .returned (.int .i64 q) ∧ SzI y r q ∧ Below w.heap.size w w' := by
  have HE := fun w' (b : Below w.heap.size w w') r (h0 : 0 ≤ r) (h1 : r ≤ 1048576) => szEntS_at s y.ents r w' h0 h1 (hs.below b) hh.len hh.names
  have hd := hh.data
  unfold SzI
  obtain ⟨a2, ca2, rfl, -, -⟩ := hs
  clear hh
  obtain ⟨yi, yk, yl, yd, ye⟩ := y
  unfold valI
  dsimp only at *
  have B0 := below_lit w (.cells #[.int .i64 yi, .int .i64 yk, .int .i64 yl, .string yd, .slice a2 ye.length ca2] 153)
  have hw : IntKind.i64.wrap (r - (yd.size : Int)) = r - (yd.size : Int) := by rw [IntKind.wrap_i64]; omega
  by_cases hbig : r < yd.size
  · have hc : r - (yd.size : Int) < 0 := by omega
    go_enter Tryz.func121, Tryz.ntmps121
    go_wp2
    go_ret
    exact ⟨-1, rfl, ⟨by omega, by omega, fun h => (by omega)⟩, B0⟩
  · have hc : ¬ (r - (yd.size : Int) < 0) := by omega
    have HE := HE _ B0 (r - (yd.size : Int)) (by omega) (by omega)
    go_enter Tryz.func121, Tryz.ntmps121
    go_wp2_with fail
    refine HE.mono ?_
    rintro e w1 ⟨q, rfl, HQ, b1⟩
    obtain ⟨hq0, hq1, HQ⟩ := HQ
    have HQ : Hid _ := HQ
    by_cases hq : q < 0
    · go_wp2
      go_ret
      exact ⟨-1, rfl, ⟨by omega, by omega, fun h => (by omega)⟩, B0.trans (b1.mono B0.size)⟩
    · have HQ2 := HQ.out (by omega)
      go_wp2
      go_ret
      exact ⟨q, rfl, ⟨by omega, by omega, fun _ => ⟨by omega, by omega, HQ2.2⟩⟩, B0.trans (b1.mono B0.size)⟩

set_option maxRecDepth 100000 in
set_option maxHeartbeats 1000000 in
theorem szInodeS_at (v : Value) (l : List Ino) (w : World) (hv : InosAt w v l) (hl : l.length ≤ 9223372036854775807) (hh : ∀ y ∈ l, InoHeld y) :
    Calls Tryz.prog 73 #[v, .int .i64 1048576] w fun e w' => ∃ q : Int, e = .returned (.int .i64 q) ∧ (-1 ≤ q ∧ q ≤ 1048576) ∧ Hid (0 ≤ q → l.length ≤ 1048576 ∧ (l.length + (l.map fun y => y.ents.length).sum ≤ 1048576) ∧ ∀ y ∈ l, y.data.size ≤ 1048576 ∧ ∀ t, t < y.ents.length → y.ents[t]!.name.size ≤ 1048576) ∧ Below w.heap.size w w' := by
  obtain ⟨a, ca, rfl, -, hva⟩ := hv
  have HH : Hid (∀ k, k < l.length → InoHeld l[k]!) := fun k hk => hh _ (by rw [getElem!_pos l k hk]; exact List.getElem_mem hk)
  have HSU : Hid (∀ k, k < l.length → ((l.take (k + 1)).map fun y => y.ents.length).sum = ((l.take k).map fun y => y.ents.length).sum + l[k]!.ents.length) := fun k hk => by
    rw [List.take_succ_eq_append_getElem hk, List.map_append, List.sum_append, getElem!_pos l k hk]; simp
  have HEND : Hid (∀ q : Int, ((l.length : Int) + ((l.take l.length).map fun y => y.ents.length).sum + q ≤ 1048576) → (∀ t, t < l.length → l[t]!.data.size ≤ 1048576 ∧ ∀ s, s < l[t]!.ents.length → l[t]!.ents[s]!.name.size ≤ 1048576) → (0 ≤ q → l.length ≤ 1048576 ∧ (l.length + (l.map fun y => y.ents.length).sum ≤ 1048576) ∧ ∀ y ∈ l, y.data.size ≤ 1048576 ∧ ∀ t, t < y.ents.length → y.ents[t]!.name.size ≤ 1048576)) := fun q h1 h2 h3 => by
    rw [List.take_length] at h1
    refine ⟨by omega, by omega, fun y hy => ?_⟩
    obtain ⟨t, ht, rfl⟩ := List.getElem_of_mem hy
    have := h2 t ht
    rwa [getElem!_pos l t ht] at this
  obtain ⟨n, HL⟩ : ∃ n, Hid (n = l.length) := ⟨_, rfl⟩
  have HG : Hid (∀ q : Int, q < 0 → (0 ≤ q → n ≤ 1048576 ∧ (n + (l.map fun y => y.ents.length).sum ≤ 1048576) ∧ ∀ y ∈ l, y.data.size ≤ 1048576 ∧ ∀ t, t < y.ents.length → y.ents[t]!.name.size ≤ 1048576)) := fun q h h2 => by omega
  rw [← HL.out] at hva hl HH HSU HEND ⊢
  clear hh
  have hw : IntKind.i64.wrap (1048576 - (n : Int)) = 1048576 - (n : Int) := by rw [IntKind.wrap_i64]; omega
  by_cases hbig : 1048576 < n
  · have hc : (1048576 : Int) - (n : Int) < 0 := by omega
    go_enter Tryz.func73, Tryz.ntmps73
    go_wp2
    go_ret
    exact ⟨-1, rfl, ⟨by omega, by omega⟩, HG.out (-1) (by omega), Below.refl _ _⟩
  · have hc : ¬ ((1048576 : Int) - (n : Int) < 0) := by omega
    go_enter Tryz.func73, Tryz.ntmps73
    go_wp2
    go_loopw [1, 5] (fun q i wr => ∃ k : Nat, k ≤ n ∧ i = .int .i64 k ∧ ∃ (x : Int) (sm : Nat), q = .int .i64 x ∧ 0 ≤ x ∧ Hid (sm = ((l.take k).map fun y => y.ents.length).sum) ∧ (n : Int) + sm + x ≤ 1048576 ∧ Hid (∀ t, t < k → l[t]!.data.size ≤ 1048576 ∧ ∀ s, s < l[t]!.ents.length → l[t]!.ents[s]!.name.size ≤ 1048576) ∧ Below w.heap.size w wr) (fun _ i _ => n - (intOf i).toNat)
    case atStart => exact ⟨0, Nat.zero_le _, rfl, _, 0, rfl, by omega, by show 0 = _; simp, by omega, fun t ht => by omega, Below.refl _ _⟩
    case round =>
      obtain ⟨k, hk, rfl, x, sm, rfl, hx0, HSM, hx1, HS, hbel⟩ := hrel
      by_cases hlt : k < n
      · obtain ⟨b1, o1, s1, rfl, hb1, hc1, hen⟩ := hva k hlt
        have hc1 := hc1.below hb1 hbel
        have HZ := szInode_at l[k]! s1 x wr hx0 (by omega) (hen.below hbel) (HH.out k hlt)
        have HSK := HSU.out k hlt
        rw [← HSM.out] at HSK
        have HK : Hid (l[k]!.data.size ≤ 1048576 → (∀ t, t < l[k]!.ents.length → l[k]!.ents[t]!.name.size ≤ 1048576) → ∀ t, t < k + 1 → l[t]!.data.size ≤ 1048576 ∧ ∀ s, s < l[t]!.ents.length → l[t]!.ents[s]!.name.size ≤ 1048576) := fun h1 h2 t ht => by
          by_cases e : t = k
          · rw [e]; exact ⟨h1, h2⟩
          · exact HS.out t (by omega)
        unfold SzI at HZ
        obtain ⟨ea, ec, rfl, -, -⟩ := hen
        have HSK : Hid _ := HSK
        generalize l[k]! = y at hc1 HZ HK HSK
        obtain ⟨yi, yk, yl, yd, ye⟩ := y
        unfold valI at HZ
        dsimp only at hc1 HZ HK HSK
        have k0 := hc1.c0
        have k1 := hc1.c1
        have k2 := hc1.c2
        have k3 := hc1.c3
        have k4 := hc1.c4
        clear hc1 hva
        go_wp2_with fail
        refine HZ.mono ?_
        rintro e w2 ⟨q, rfl, ⟨hq0, hq1, HQ⟩, b2⟩
        have HQ : Hid (0 ≤ q → (ye.length : Int) + q ≤ x ∧ yd.size ≤ 1048576 ∧ ∀ t, t < ye.length → ye[t]!.name.size ≤ 1048576) := HQ
        by_cases hq : q < 0
        · go_wp2
          go_ret
          exact ⟨-1, rfl, ⟨by omega, by omega⟩, HG.out (-1) (by omega), hbel.trans (b2.mono hbel.size)⟩
        · obtain ⟨hq2, hq3, hq4⟩ := HQ.out (by omega)
          have HX : Hid (∀ t, t < k + 1 → l[t]!.data.size ≤ 1048576 ∧ ∀ s, s < l[t]!.ents.length → l[t]!.ents[s]!.name.size ≤ 1048576) := HK.out hq3 hq4
          have HY : Hid (sm + ye.length = ((l.take (k + 1)).map fun y => y.ents.length).sum) := HSK.out.symm
          have hz : (n : Int) + (sm + ye.length : Nat) + q ≤ 1048576 := by omega
          clear hq4
          go_wp2
          go_roundw
          case rel => exact ⟨k + 1, by omega, by go_num, q, sm + ye.length, rfl, by omega, HY, hz, HX, hbel.trans (b2.mono hbel.size)⟩
          case measure => simp [intOf]; omega
      · obtain rfl : n = k := by omega
        have HE := HEND.out x (by rw [← HSM.out]; exact hx1) HS.out
        go_wp2
        go_ret
        exact ⟨x, rfl, ⟨by omega, by omega⟩, HE, hbel⟩

set_option maxRecDepth 100000 in
set_option maxHeartbeats 1000000 in
theorem szVol_at (v : Value) (x : Vo) (w : World) (hv : VolAt w v x) (hl : x.ins.length ≤ 9223372036854775807) (hh : ∀ y ∈ x.ins, InoHeld y) :
    Calls Tryz.prog 26 #[v, .int .i64 1048576] w fun e w' => ∃ q : Int, e = .returned (.int .i64 q) ∧ (-1 ≤ q ∧ q ≤ 1048576) ∧ Hid (0 ≤ q → x.ins.length ≤ 1048576 ∧ (x.ins.length + (x.ins.map fun y => y.ents.length).sum ≤ 1048576) ∧ ∀ y ∈ x.ins, y.data.size ≤ 1048576 ∧ ∀ t, t < y.ents.length → y.ents[t]!.name.size ≤ 1048576) ∧ Below w.heap.size w w' := by
  obtain ⟨u, rfl, hv⟩ := hv
  have HE := szInodeS_at u x.ins _ (hv.below (below_lit w (.cells #[.int .i64 x.next, u] 51))) hl hh
  obtain ⟨nx, l⟩ := x
  obtain ⟨a, ca, rfl, -, -⟩ := hv
  dsimp only at *
  have B0 := below_lit w (.cells #[.int .i64 nx, .slice a l.length ca] 51)
  go_enter Tryz.func26, Tryz.ntmps26
  go_wp2_with fail
  refine HE.mono ?_
  rintro e w1 ⟨q, rfl, ⟨hq0, hq1⟩, HQ, b1⟩
  by_cases hq : q < 0
  · go_wp2
    go_ret
    exact ⟨-1, rfl, ⟨by omega, by omega⟩, fun h => (by omega), B0.trans (b1.mono B0.size)⟩
  · go_wp2
    go_ret
    exact ⟨q, rfl, ⟨by omega, by omega⟩, HQ, B0.trans (b1.mono B0.size)⟩
end

section
open Go.RowKit Go.Sort

theorem results_ino {fn : Func} {p : Tmp} (h : fn.results = #[.cell p 78]) (tmps : Array Value) (w : World) (g : Nat) (cs : Array Value) (hc : cs.size = 5)
    (hp : tmps.getD p undef = .pointer (some ⟨g, 0, none⟩)) (hg : w.heap[g]? = some (.cells cs 78 (0, 0))) :
    (results fn tmps).run Tryz.prog w = .ok (.agg cs) w := by
  have hi : (Tryz.prog.info? 78).map (·.size) = some cs.size := by rw [hc]; kernel_rfl
  have hr := run_loadVar_row (P := Tryz.prog) w g 78 78 cs (0, 0) _ hg Tryz.underlying78 rfl hi
  have hp' : tmps[p]?.getD undef = .pointer (some ⟨g, 0, none⟩) := by simpa using hp
  simp [results, h, hp', asAddr, hr]
/-- the five cells of a block written anew -/
theorem put5 {w : World} {g : Nat} {T : TypeId} {a0 a1 a2 a3 a4 : Value} (x0 x1 x2 x3 x4 : Value) (h : w.heap[g]? = some (.cells #[a0, a1, a2, a3, a4] T (0, 0))) :
    (((((w.setCell ⟨g, 0, none⟩ x0).setCell ⟨g, 1, none⟩ x1).setCell ⟨g, 2, none⟩ x2).setCell ⟨g, 3, none⟩ x3).setCell ⟨g, 4, none⟩ x4).heap[g]? = some (.cells #[x0, x1, x2, x3, x4] T (0, 0)) := by
  have h1 := Joins.block_setCell (i := 0) h x0
  have h2 := Joins.block_setCell (i := 1) h1 x1
  have h3 := Joins.block_setCell (i := 2) h2 x2
  have h4 := Joins.block_setCell (i := 3) h3 x3
  exact Joins.block_setCell (i := 4) h4 x4

set_option maxRecDepth 100000 in
set_option maxHeartbeats 1000000 in
theorem toInode_any (y : Ino) (s : Value) (w : World) (hl : y.ents.length ≤ 1048576) (hs : EntsAt w s y.ents) :
    Calls Tryz.prog 122 #[valI y s] w fun e w' => ∃ u, e = .returned (valI y u) ∧ EntRow w' w.heap.size u y.ents ∧ Below w.heap.size w w' := by
  have HE := fun w' (b : Below w.heap.size w w') => toEntS_any s y.ents w' hl (hs.below b)
  obtain ⟨a2, ca2, rfl, -, -⟩ := hs
  obtain ⟨yi, yk, yl, yd, ye⟩ := y
  unfold valI
  dsimp only at *
  have bA := below_lit w (.cells #[.int .i64 yi, .int .i64 yk, .int .i64 yl, .string yd, .slice a2 ye.length ca2] 153)
  have B0 : Below w.heap.size w (((w.alloc (.cells #[.int .i64 yi, .int .i64 yk, .int .i64 yl, .string yd, .slice a2 ye.length ca2] 153)).alloc (.cells #[.int .i64 0, .int .i64 0, .int .i64 0, .string ⟨#[]⟩, .slice none 0 0] 78)).alloc (.cells #[.int .i64 yi, .int .i64 yk, .int .i64 yl, .string yd, .slice none 0 0] 78)) := (bA.alloc (by simp) _).alloc (by simp; omega) _
  have S0 : (((w.alloc (.cells #[.int .i64 yi, .int .i64 yk, .int .i64 yl, .string yd, .slice a2 ye.length ca2] 153)).alloc (.cells #[.int .i64 0, .int .i64 0, .int .i64 0, .string ⟨#[]⟩, .slice none 0 0] 78)).alloc (.cells #[.int .i64 yi, .int .i64 yk, .int .i64 yl, .string yd, .slice none 0 0] 78)).heap.size = w.heap.size + 3 := by simp
  have S1 : (w.alloc (.cells #[.int .i64 yi, .int .i64 yk, .int .i64 yl, .string yd, .slice a2 ye.length ca2] 153)).heap.size = w.heap.size + 1 := by simp
  have S2 : ((w.alloc (.cells #[.int .i64 yi, .int .i64 yk, .int .i64 yl, .string yd, .slice a2 ye.length ca2] 153)).alloc (.cells #[.int .i64 0, .int .i64 0, .int .i64 0, .string ⟨#[]⟩, .slice none 0 0] 78)).heap.size = w.heap.size + 2 := by simp
  have H1 := (MapKept.heap_alloc (w.alloc (.cells #[.int .i64 yi, .int .i64 yk, .int .i64 yl, .string yd, .slice a2 ye.length ca2] 153)) (.cells #[.int .i64 0, .int .i64 0, .int .i64 0, .string ⟨#[]⟩, .slice none 0 0] 78)).1
  have H2 := (MapKept.heap_alloc ((w.alloc (.cells #[.int .i64 yi, .int .i64 yk, .int .i64 yl, .string yd, .slice a2 ye.length ca2] 153)).alloc (.cells #[.int .i64 0, .int .i64 0, .int .i64 0, .string ⟨#[]⟩, .slice none 0 0] 78)) (.cells #[.int .i64 yi, .int .i64 yk, .int .i64 yl, .string yd, .slice none 0 0] 78)).1
  rw [S1] at H1
  rw [S2] at H2
  have H1' := (below_lit _ (.cells #[.int .i64 yi, .int .i64 yk, .int .i64 yl, .string yd, .slice none 0 0] 78)).block (w.heap.size + 1) (by rw [S2]; omega) |>.trans H1
  have HE := HE _ B0
  rw [S0] at HE
  have HW : Hid (∀ w1, Below (w.heap.size + 3) (((w.alloc (.cells #[.int .i64 yi, .int .i64 yk, .int .i64 yl, .string yd, .slice a2 ye.length ca2] 153)).alloc (.cells #[.int .i64 0, .int .i64 0, .int .i64 0, .string ⟨#[]⟩, .slice none 0 0] 78)).alloc (.cells #[.int .i64 yi, .int .i64 yk, .int .i64 yl, .string yd, .slice none 0 0] 78)) w1 →
      w1.heap[w.heap.size + 1]? = some (.cells #[.int .i64 0, .int .i64 0, .int .i64 0, .string ⟨#[]⟩, .slice none 0 0] 78) ∧ w1.heap[w.heap.size + 2]? = some (.cells #[.int .i64 yi, .int .i64 yk, .int .i64 yl, .string yd, .slice none 0 0] 78) ∧ Below w.heap.size w w1) := fun w1 b1 =>
    ⟨(b1.block _ (by omega)).trans H1', (b1.block _ (by omega)).trans H2, B0.trans (b1.mono (by omega))⟩
  clear bA H1 H1' H2 S1 S2
  go_enter Tryz.func122, Tryz.ntmps122
  go_wp2_with (go_at_call 172; refine HE.mono ?_; rintro e w1 ⟨u, rfl, r1, b1⟩; obtain ⟨g1, g2, b1w⟩ := HW.out w1 b1; obtain ⟨ua, uc, rfl, -, -⟩ := r1.at; have d0 := Joins.cell_of_block g2 0; have d1 := Joins.cell_of_block g2 1; have d2 := Joins.cell_of_block g2 2; have d3 := Joins.cell_of_block g2 3; have d4 := Joins.cell_of_block g2 4; have df := fun i => Joins.unfrozen_of_block g2 i; have e0 := Joins.cell_of_block g1 0; have e1 := Joins.cell_of_block g1 1; have e2 := Joins.cell_of_block g1 2; have e3 := Joins.cell_of_block g1 3; have e4 := Joins.cell_of_block g1 4; have ef := fun i => Joins.unfrozen_of_block g1 i)
  have hgg : (((((((w1.setCell ⟨w.heap.size + 1 + 1, 4, none⟩ (.slice ua ye.length uc)).setCell ⟨w.heap.size + 1, 0, none⟩ (.int .i64 yi)).setCell ⟨w.heap.size + 1, 1, none⟩ (.int .i64 yk)).setCell ⟨w.heap.size + 1, 2, none⟩ (.int .i64 yl)).setCell ⟨w.heap.size + 1, 3, none⟩ (.string yd)).setCell ⟨w.heap.size + 1, 4, none⟩ (.slice ua ye.length uc))).heap[w.heap.size + 1]? = some (.cells #[.int .i64 yi, .int .i64 yk, .int .i64 yl, .string yd, .slice ua ye.length uc] 78 (0, 0)) :=
    put5 _ _ _ _ _ ((Below.heap_setCell w1 _ _ (w.heap.size + 1) (by simp)).trans g1)
  refine bodyPost_ret (results_ino Tryz.results122 _ _ (w.heap.size + 1) _ rfl rfl hgg) rfl ⟨.slice ua ye.length uc, rfl, ?_, ?_⟩
  · have q1 := ownsRow_setCell_below r1 (a := ⟨w.heap.size + 1 + 1, 4, none⟩) (by show w.heap.size + 1 + 1 < _; omega) (.slice ua ye.length uc)
    have q2 := ownsRow_setCell_below q1 (a := ⟨w.heap.size + 1, 0, none⟩) (by show w.heap.size + 1 < _; omega) (.int .i64 yi)
    have q3 := ownsRow_setCell_below q2 (a := ⟨w.heap.size + 1, 1, none⟩) (by show w.heap.size + 1 < _; omega) (.int .i64 yk)
    have q4 := ownsRow_setCell_below q3 (a := ⟨w.heap.size + 1, 2, none⟩) (by show w.heap.size + 1 < _; omega) (.int .i64 yl)
    have q5 := ownsRow_setCell_below q4 (a := ⟨w.heap.size + 1, 3, none⟩) (by show w.heap.size + 1 < _; omega) (.string yd)
    have q6 := ownsRow_setCell_below q5 (a := ⟨w.heap.size + 1, 4, none⟩) (by show w.heap.size + 1 < _; omega) (.slice ua ye.length uc)
    exact EntRow.mono q6 (by omega)
  · exact (((((b1w.setCell (by show w.heap.size ≤ w.heap.size + 1 + 1; omega) _).setCell (by show w.heap.size ≤ w.heap.size + 1; omega) _).setCell (by show w.heap.size ≤ w.heap.size + 1; omega) _).setCell (by show w.heap.size ≤ w.heap.size + 1; omega) _).setCell (by show w.heap.size ≤ w.heap.size + 1; omega) _).setCell (by show w.heap.size ≤ w.heap.size + 1; omega) _
end

section
open Go.RowKit Go.Sort

theorem flatI_put5 : ∀ (l : List (Ino × Value)) (t : Nat) (x : Ino) (s : Value), t < l.length → (((((flatI l).set (t * 5) (.int .i64 x.id)).set (t * 5 + 1) (.int .i64 x.kind)).set (t * 5 + 2) (.int .i64 x.links)).set (t * 5 + 3) (.string x.data)).set (t * 5 + 4) s = flatI (l.set t (x, s))
  | [], t, _, _, h => by simp at h
  | e :: l, 0, x, s, _ => by simp [flatI_cons, encI]
  | e :: l, t + 1, x, s, h => by
    have ih := flatI_put5 l t x s (by simpa using h)
    rw [List.set_cons_succ, flatI_cons, flatI_cons, ← ih]
    simp only [encI, List.cons_append, List.nil_append]
    rw [show (t + 1) * 5 = t * 5 + 1 + 1 + 1 + 1 + 1 by omega]
    simp only [List.set_cons_succ]
theorem gbs_set (w : World) (g o : Nat) (u : Value) : w.grownBy (w.setCell ⟨g, o, none⟩ u) (some g) :=
  ⟨rfl, rfl, rfl, by simp [World.setCell], fun k _ hne => Below.heap_setCell w _ _ k (fun e => hne (by rw [e]))⟩
theorem gbs_trans {a b c : World} {r : Option Nat} (h : a.grownBy b r) (k : b.grownBy c r) : a.grownBy c r :=
  ⟨k.os.trans h.os, k.tape.trans h.tape, k.output.trans h.output, Nat.le_trans h.size k.size, fun i hi hne => (k.block i (Nat.lt_of_lt_of_le hi h.size) hne).trans (h.block i hi hne)⟩
/-- one of them written anew, its entries new -/
theorem InoRow.put5 {w w2 : World} {base g n cap b2 : Nat} {l : List (Ino × Value)} (h : InoRow w base (.slice (some ⟨g, 0, none⟩) n cap) l) (hn : n = l.length) {t : Nat} (ht : t < n) (b : Below w.heap.size w w2) (x : Ino) (u : Value) (he : EntRow w2 b2 u x.ents) (hb2 : w.heap.size ≤ b2) :
    InoRow (((((w2.setCell ⟨g, t * 5, none⟩ (.int .i64 x.id)).setCell ⟨g, t * 5 + 1, none⟩ (.int .i64 x.kind)).setCell ⟨g, t * 5 + 2, none⟩ (.int .i64 x.links)).setCell ⟨g, t * 5 + 3, none⟩ (.string x.data)).setCell ⟨g, t * 5 + 4, none⟩ u) base (.slice (some ⟨g, 0, none⟩) n cap) (l.set t (x, u)) := by
  have h0 : w2.ownsRow base 78 5 (.slice (some ⟨g, 0, none⟩) n cap) n (flatI l) := by have := own_below h.row b; rwa [← hn] at this
  have h1 := (h0.stored (t * 5) (.int .i64 x.id)).1
  have h2 := (h1.stored (t * 5 + 1) (.int .i64 x.kind)).1
  have h3 := (h2.stored (t * 5 + 2) (.int .i64 x.links)).1
  have h4 := (h3.stored (t * 5 + 3) (.string x.data)).1
  have h5 := (h4.stored (t * 5 + 4) u).1
  rw [flatI_put5 l t x u (by omega)] at h5
  have hg := gbs_trans (gbs_trans (gbs_trans (gbs_trans (gbs_set w2 g (t * 5) (.int .i64 x.id)) (gbs_set _ g (t * 5 + 1) (.int .i64 x.kind))) (gbs_set _ g (t * 5 + 2) (.int .i64 x.links))) (gbs_set _ g (t * 5 + 3) (.string x.data))) (gbs_set _ g (t * 5 + 4) u)
  have hgl : base ≤ g ∧ g < w.heap.size := by
    have hr := h.row
    rw [← hn] at hr
    rcases hr.2 with ⟨e, _⟩ | ⟨g', c', cur', e, hb', hh', _⟩
    · cases e
    · cases e; exact ⟨hb', lt_of_block hh'⟩
  have hge : ∀ j, j < l.length → EntRow w2 base l[j]!.2 l[j]!.1.ents := fun j hj => (h.ents j hj).below b
  refine ⟨by rw [List.length_set, ← hn]; exact h5, fun j hj => ?_, ?_⟩
  · rw [List.length_set] at hj
    rw [at_set _ _ _ _ hj]
    by_cases e : t = j
    · rw [if_pos e]
      refine (he.mono (by omega)).kept hg ?_
      cases hu : u.ownBlock with
      | none => exact .inl rfl
      | some q => right; have := (he.blk q hu).1; simp; omega
    · rw [if_neg e]
      exact (hge j hj).kept hg (.inr (ent_ino_ne (hge j hj) h0))
  · have hp := h.apart
    rw [List.pairwise_iff_getElem] at hp ⊢
    intro i k hi hk hik
    rw [List.length_set] at hi hk
    rw [List.getElem_set, List.getElem_set]
    by_cases e1 : t = i
    · rw [if_pos e1]
      by_cases e2 : t = k
      · omega
      · rw [if_neg e2]
        have := apart_new' (h.ents k hk) he hb2
        rwa [getElem!_pos l k hk] at this
    · rw [if_neg e1]
      by_cases e2 : t = k
      · rw [if_pos e2]
        have := apart_new (h.ents i hi) he hb2
        rwa [getElem!_pos l i hi] at this
      · rw [if_neg e2]; exact hp i k hi hk hik
theorem flatI_zero (n : Nat) : (madeCells #[.int .i64 0, .int .i64 0, .int .i64 0, .string ⟨#[]⟩, .slice none 0 0] (n * 5)).toList = flatI (List.replicate n (default, .slice none 0 0)) := by
  apply List.ext_getElem?
  intro j
  by_cases hj : j < n * 5
  · have h1 := flatI_at (List.replicate n (default, .slice none 0 0)) (j / 5) (by simp; omega) (j % 5) (by omega)
    have h2 : (List.replicate n ((default, .slice none 0 0) : Ino × Value))[j / 5]! = (default, .slice none 0 0) := by
      rw [getElem!_pos _ _ (by simp; omega)]; simp
    rw [h2, show j / 5 * 5 + j % 5 = j by omega] at h1
    rw [h1]
    simp only [madeCells, Array.toList_map, List.getElem?_map, Array.toList_range, List.getElem?_range hj, Option.map_some]
    have : j % 5 < 5 := by omega
    show some (#[Value.int .i64 0, .int .i64 0, .int .i64 0, .string ⟨#[]⟩, .slice none 0 0][j % 5]!) = _
    generalize j % 5 = s at *
    rcases s with _ | _ | _ | _ | _ | s
    · rfl
    · rfl
    · rfl
    · rfl
    · rfl
    · omega
  · rw [List.getElem?_eq_none (by rw [Array.length_toList, size_madeCells]; omega), List.getElem?_eq_none (by rw [flatI_len]; simp; omega)]
theorem Tryz.infoI : (Tryz.prog.info? 78).map (fun i => (i.zero, i.size, i.bytes)) = some (some (.agg #[.int .i64 0, .int .i64 0, .int .i64 0, .string ⟨#[]⟩, .slice none 0 0]), 5, 64) := by kernel_rfl
theorem zero_row {w : World} {base g n : Nat} (h : w.ownsRow base 78 5 (.slice (some ⟨g, 0, none⟩) n n) n (flatI (List.replicate n (default, .slice none 0 0)))) : InoRow w base (.slice (some ⟨g, 0, none⟩) n n) (List.replicate n (default, .slice none 0 0)) := by
  refine ⟨by simpa using h, fun t ht => ?_, ?_⟩
  · rw [getElem!_pos _ t ht]
    simp only [List.getElem_replicate]
    exact ⟨rfl, .inl ⟨rfl, rfl⟩⟩
  · rw [List.pairwise_replicate]; right; exact .inl rfl
theorem take_set {L : List (Ino × Value)} {l : List Ino} {k : Nat} (hl : L.length = l.length) (hk : k < l.length) (h : (L.map (·.1)).take k = l.take k) (u : Value) : ((L.set k (l[k]!, u)).map (·.1)).take (k + 1) = l.take (k + 1) := by
  rw [List.take_succ_eq_append_getElem hk, ← h, List.map_set, List.take_succ_eq_append_getElem (by simp; omega), List.take_set_of_le (Nat.le_refl _)]
  simp [getElem!_pos l k hk]

set_option maxRecDepth 100000 in
set_option maxHeartbeats 1000000 in
theorem toInodeS_any (v : Value) (l : List Ino) (w : World) (hl : l.length ≤ 1048576) (hsh : ∀ y ∈ l, y.ents.length ≤ 1048576) (hv : InosAt w v l) :
    Calls Tryz.prog 74 #[v] w fun e w' => ∃ u L, e = .returned u ∧ L.map (·.1) = l ∧ InoRow w' w.heap.size u L ∧ Below w.heap.size w w' := by
  obtain ⟨a, ca, rfl, -, hva⟩ := hv
  obtain ⟨n, HN⟩ : ∃ n, Hid (n = l.length) := ⟨_, rfl⟩
  have HTI : Hid (∀ k s w', k < l.length → EntsAt w' s l[k]!.ents → Calls Tryz.prog 122 #[valI l[k]! s] w' fun e w'' => ∃ u, e = .returned (valI l[k]! u) ∧ EntRow w'' w'.heap.size u l[k]!.ents ∧ Below w'.heap.size w' w'') := fun k s w' hk he => toInode_any _ s w' (hsh _ (by rw [getElem!_pos l k hk]; exact List.getElem_mem hk)) he
  rw [← HN.out] at hva hl HTI ⊢
  clear hsh
  obtain ⟨i0, hi, hz0, hz1, hz2⟩ := info_parts Tryz.infoI
  go_enter Tryz.func74, Tryz.ntmps74
  go_wp2_with (at_make; refine wpList_make_full _ rfl _ _ 24 rfl w.heap.size 78 i0 _ 5 Tryz.underlying24 hi hz0 hz1 .i64 .i64 _ _ n rfl rfl rfl rfl (by rw [hz2]; omega) (by unfold maxLen; omega) (Nat.le_refl _) ?_; intro w1 hown1 hgrow1)
  have hown2 : InoRow w1 w.heap.size (.slice (some ⟨w.heap.size, 0, none⟩) n n) (List.replicate n (default, .slice none 0 0)) := zero_row (by rw [← flatI_zero]; simpa [Value.cells] using hown1)
  have hbel2 : Below w.heap.size w w1 := (Below.refl _ _).grown hgrow1 (Nat.le_refl _) (fun _ h => by cases h)
  have hown2 : Hid (InoRow w1 w.heap.size (.slice (some ⟨w.heap.size, 0, none⟩) n n) (List.replicate n (default, .slice none 0 0))) := hown2
  clear hown1 hgrow1
  go_wp2
  go_loopw [4] (fun i wr => ∃ (k : Nat) (L : List (Ino × Value)), k ≤ n ∧ i = .int .i64 k ∧ Hid (n = L.length) ∧ Hid ((L.map (·.1)).take k = l.take k) ∧ Hid (InoRow wr w.heap.size (.slice (some ⟨w.heap.size, 0, none⟩) n n) L) ∧ Below w.heap.size w wr) (fun i _ => n - (intOf i).toNat)
  case atStart => exact ⟨0, _, Nat.zero_le _, rfl, by show n = _; simp, by show _ = _; simp, hown2, hbel2⟩
  case round =>
    obtain ⟨k, L, hk, rfl, HLN, HTK, HROW, hbel⟩ := hrel
    by_cases hlt : k < n
    · obtain ⟨b1, o1, s1, rfl, hb1, hc1, hen⟩ := hva k hlt
      have hc1 := hc1.below hb1 hbel
      have hTI := HTI.out k s1 wr hlt (hen.below hbel)
      have hrw : wr.ownsRow w.heap.size 78 5 (.slice (some ⟨w.heap.size, 0, none⟩) n n) n (flatI L) := by have := HROW.out.row; rwa [← HLN.out] at this
      have HP : Hid (∀ u w2, EntRow w2 wr.heap.size u l[k]!.ents → Below wr.heap.size wr w2 → (∀ j, j < n * 5 → (∃ z, w2.cell? ⟨w.heap.size, j, none⟩ = some z) ∧ w2.frozen? ⟨w.heap.size, j, none⟩ = false) ∧
          InoRow (((((w2.setCell ⟨w.heap.size, k * 5, none⟩ (.int .i64 l[k]!.id)).setCell ⟨w.heap.size, k * 5 + 1, none⟩ (.int .i64 l[k]!.kind)).setCell ⟨w.heap.size, k * 5 + 2, none⟩ (.int .i64 l[k]!.links)).setCell ⟨w.heap.size, k * 5 + 3, none⟩ (.string l[k]!.data)).setCell ⟨w.heap.size, k * 5 + 4, none⟩ u) w.heap.size (.slice (some ⟨w.heap.size, 0, none⟩) n n) (L.set k (l[k]!, u))) := fun u w2 he b2 =>
        ⟨fun j hj => ⟨⟨_, ((own_below hrw b2).cellAt j hj).trans (List.getElem?_eq_getElem (by have := hrw.1; omega))⟩, (own_below hrw b2).frozenAt j⟩, HROW.out.put5 HLN.out hlt b2 l[k]! u he (Nat.le_refl _)⟩
      have HTS : Hid (∀ u, ((L.set k (l[k]!, u)).map (·.1)).take (k + 1) = l.take (k + 1)) := fun u => take_set (by rw [← HLN.out, HN.out]) (by rw [← HN.out]; exact hlt) HTK.out u
      have HLS : Hid (∀ u, n = (L.set k (l[k]!, u)).length) := fun u => by rw [List.length_set]; exact HLN.out
      obtain ⟨ea, ec, rfl, -, -⟩ := hen
      generalize l[k]! = y at hc1 hTI HP HTS HLS
      obtain ⟨yi, yk, yl, yd, ye⟩ := y
      unfold valI at hTI
      dsimp only at hc1 hTI HP HTS HLS
      have k0 := hc1.c0
      have k1 := hc1.c1
      have k2 := hc1.c2
      have k3 := hc1.c3
      have k4 := hc1.c4
      clear hc1 hva hrw
      go_wp2_with (go_at_call 122; refine hTI.mono ?_; rintro e w2 ⟨u, rfl, r2, b2⟩; obtain ⟨hcc, hR2⟩ := HP.out u w2 r2 b2; obtain ⟨ua, uc, rfl, -, -⟩ := r2.at; obtain ⟨⟨z0, d0⟩, f0⟩ := hcc (k * 5) (by omega); obtain ⟨⟨z1, d1⟩, f1⟩ := hcc (k * 5 + 1) (by omega); obtain ⟨⟨z2, d2⟩, f2⟩ := hcc (k * 5 + 2) (by omega); obtain ⟨⟨z3, d3⟩, f3⟩ := hcc (k * 5 + 3) (by omega); obtain ⟨⟨z4, d4⟩, f4⟩ := hcc (k * 5 + 4) (by omega); have HX : Hid _ := hR2; clear hcc hR2)
      go_roundw
      case rel => exact ⟨k + 1, _, by omega, by go_num, HLS.out _, HTS.out _, HX.out, ((((((hbel.trans (b2.mono hbel.size)).setCell (Nat.le_refl _) _).setCell (Nat.le_refl _) _).setCell (Nat.le_refl _) _).setCell (Nat.le_refl _) _).setCell (Nat.le_refl _) _)⟩
      case measure => simp [intOf]; omega
    · obtain rfl : k = n := by omega
      have hR := HROW.out
      have hT : L.map (·.1) = l := by
        have := HTK.out
        rw [List.take_of_length_le (by rw [List.length_map, ← HLN.out]; exact Nat.le_refl _), List.take_of_length_le (by rw [← HN.out]; exact Nat.le_refl _)] at this
        exact this
      go_wp2
      go_ret
      exact ⟨_, L, rfl, hT, hR, hbel⟩

theorem results_vol {fn : Func} {p : Tmp} (h : fn.results = #[.cell p 26]) (tmps : Array Value) (w : World) (g : Nat) (cs : Array Value) (hc : cs.size = 2)
    (hp : tmps.getD p undef = .pointer (some ⟨g, 0, none⟩)) (hg : w.heap[g]? = some (.cells cs 26 (0, 0))) :
    (results fn tmps).run Tryz.prog w = .ok (.agg cs) w := by
  have hi : (Tryz.prog.info? 26).map (·.size) = some cs.size := by rw [hc]; kernel_rfl
  have hr := run_loadVar_row (P := Tryz.prog) w g 26 26 cs (0, 0) _ hg Tryz.underlying26 rfl hi
  have hp' : tmps[p]?.getD undef = .pointer (some ⟨g, 0, none⟩) := by simpa using hp
  simp [results, h, hp', asAddr, hr]
theorem put2 {w : World} {g : Nat} {T : TypeId} {a0 a1 : Value} (x0 x1 : Value) (h : w.heap[g]? = some (.cells #[a0, a1] T (0, 0))) :
    ((w.setCell ⟨g, 0, none⟩ x0).setCell ⟨g, 1, none⟩ x1).heap[g]? = some (.cells #[x0, x1] T (0, 0)) := by
  have h1 := Joins.block_setCell (i := 0) h x0
  exact Joins.block_setCell (i := 1) h1 x1
theorem InoRow.setLow {w : World} {base : Nat} {v : Value} {l : List (Ino × Value)} (h : InoRow w base v l) {g : Nat} (hg : g < base) (o : Nat) (u : Value) : InoRow (w.setCell ⟨g, o, none⟩ u) base v l :=
  ⟨ownsRow_setCell_below h.row hg u, fun t ht => ownsRow_setCell_below (h.ents t ht) hg u, h.apart⟩

set_option maxRecDepth 100000 in
set_option maxHeartbeats 1000000 in
theorem toVol_any (v : Value) (x : Vo) (w : World) (hl : x.ins.length ≤ 1048576) (hsh : ∀ y ∈ x.ins, y.ents.length ≤ 1048576) (hv : VolAt w v x) :
    Calls Tryz.prog 28 #[v] w fun e w' => ∃ u L, e = .returned (.agg #[.int .i64 x.next, u]) ∧ L.map (·.1) = x.ins ∧ InoRow w' w.heap.size u L ∧ Below w.heap.size w w' := by
  obtain ⟨u0, rfl, hv⟩ := hv
  have HE := fun w' (b : Below w.heap.size w w') => toInodeS_any u0 x.ins w' hl hsh (hv.below b)
  obtain ⟨nx, l⟩ := x
  obtain ⟨a, ca, rfl, -, -⟩ := hv
  dsimp only at *
  have bA := below_lit w (.cells #[.int .i64 nx, .slice a l.length ca] 51)
  have B0 : Below w.heap.size w (((w.alloc (.cells #[.int .i64 nx, .slice a l.length ca] 51)).alloc (.cells #[.int .i64 0, .slice none 0 0] 26)).alloc (.cells #[.int .i64 nx, .slice none 0 0] 26)) := (bA.alloc (by simp) _).alloc (by simp; omega) _
  have S0 : (((w.alloc (.cells #[.int .i64 nx, .slice a l.length ca] 51)).alloc (.cells #[.int .i64 0, .slice none 0 0] 26)).alloc (.cells #[.int .i64 nx, .slice none 0 0] 26)).heap.size = w.heap.size + 3 := by simp
  have S1 : (w.alloc (.cells #[.int .i64 nx, .slice a l.length ca] 51)).heap.size = w.heap.size + 1 := by simp
  have S2 : ((w.alloc (.cells #[.int .i64 nx, .slice a l.length ca] 51)).alloc (.cells #[.int .i64 0, .slice none 0 0] 26)).heap.size = w.heap.size + 2 := by simp
  have H1 := (MapKept.heap_alloc (w.alloc (.cells #[.int .i64 nx, .slice a l.length ca] 51)) (.cells #[.int .i64 0, .slice none 0 0] 26)).1
  have H2 := (MapKept.heap_alloc ((w.alloc (.cells #[.int .i64 nx, .slice a l.length ca] 51)).alloc (.cells #[.int .i64 0, .slice none 0 0] 26)) (.cells #[.int .i64 nx, .slice none 0 0] 26)).1
  rw [S1] at H1
  rw [S2] at H2
  have H1' := (below_lit _ (.cells #[.int .i64 nx, .slice none 0 0] 26)).block (w.heap.size + 1) (by rw [S2]; omega) |>.trans H1
  have HE := HE _ B0
  rw [S0] at HE
  have HW : Hid (∀ w1, Below (w.heap.size + 3) (((w.alloc (.cells #[.int .i64 nx, .slice a l.length ca] 51)).alloc (.cells #[.int .i64 0, .slice none 0 0] 26)).alloc (.cells #[.int .i64 nx, .slice none 0 0] 26)) w1 →
      w1.heap[w.heap.size + 1]? = some (.cells #[.int .i64 0, .slice none 0 0] 26) ∧ w1.heap[w.heap.size + 2]? = some (.cells #[.int .i64 nx, .slice none 0 0] 26) ∧ Below w.heap.size w w1) := fun w1 b1 =>
    ⟨(b1.block _ (by omega)).trans H1', (b1.block _ (by omega)).trans H2, B0.trans (b1.mono (by omega))⟩
  clear bA H1 H1' H2 S1 S2
  go_enter Tryz.func28, Tryz.ntmps28
  go_wp2_with (go_at_call 74; refine HE.mono ?_; rintro e w1 ⟨u, L, rfl, hL, r1, b1⟩; obtain ⟨g1, g2, b1w⟩ := HW.out w1 b1; obtain ⟨ua, uc, hu, -, -⟩ := r1.at; rw [hL] at hu; subst hu; have HL : Hid (L.map (·.1) = l) := hL; clear hL; have d0 := Joins.cell_of_block g2 0; have d1 := Joins.cell_of_block g2 1; have df := fun i => Joins.unfrozen_of_block g2 i; have e0 := Joins.cell_of_block g1 0; have e1 := Joins.cell_of_block g1 1; have ef := fun i => Joins.unfrozen_of_block g1 i)
  have hgg := put2 (.int .i64 nx) (.slice ua l.length uc) ((Below.heap_setCell w1 ⟨w.heap.size + 1 + 1, 1, none⟩ (.slice ua l.length uc) (w.heap.size + 1) (by simp)).trans g1)
  refine bodyPost_ret (results_vol Tryz.results28 _ _ (w.heap.size + 1) _ rfl rfl hgg) rfl ⟨.slice ua l.length uc, L, rfl, HL.out, ?_, ?_⟩
  · exact (((r1.setLow (by omega) _ _).setLow (by omega) _ _).setLow (by omega) _ _).mono (by omega)
  · exact ((b1w.setCell (by show w.heap.size ≤ w.heap.size + 1 + 1; omega) _).setCell (by show w.heap.size ≤ w.heap.size + 1; omega) _).setCell (by show w.heap.size ≤ w.heap.size + 1; omega) _
end

end Go.Proofs.YtgkcnleegefjcaaGreatDoor
