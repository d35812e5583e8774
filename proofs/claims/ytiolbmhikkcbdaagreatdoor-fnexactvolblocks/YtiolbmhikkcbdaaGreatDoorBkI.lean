/- Blocks, impl: pieceOf, headText, inodeText. -/
import Derived.Test.YtiolbmhikkcbdaaGreatDoorRows
import Derived.Test.YtiolbmhikkcbdaaGreatDoorBkS
namespace Go.Proofs.YtiolbmhikkcbdaaGreatDoor
open Go.RowKit Go.Sort

theorem iVarT (n : Int) (w : World) : Calls Tryz.prog 111 #[.int .i64 n] w fun e w' => e = .returned (.string (varT n)) ∧ Below w.heap.size w w' := by
  unfold varT
  cases h : inB n 0 562949953421311 with
  | false => exact (iVar_no n w h).mono fun e w' h => ⟨h.1, by rw [← h.2]; exact Below.refl _ _⟩
  | true => exact (iVar_yes n w h).mono fun e w' h => h

theorem iVarT_re (n : Int) (w : World) (dd : Nat) (os : Array Obj) : Calls Tryz.prog 111 #[.int .i64 n] (grow (redrawn w dd) os) fun e w'' => e = .returned (.string (varT n)) ∧ ∃ p : Regrown, w'' = grow (redrawn w p.d) p.os := Calls.regrown_of (iVarT n _)

set_option maxRecDepth 100000 in
set_option maxHeartbeats 1000000 in
theorem iPiece (s : ByteArray) (w : World) (hs : s.size ≤ 1048576) : Calls Tryz.prog 112 #[.string s] w fun e w' => e = .returned (.string (pieceT s)) ∧ Below w.heap.size w w' := by
  unfold pieceT
  have HV := fun w' => iVarT s.size w'
  have hz := varT_size s.size
  generalize varT s.size = t at HV hz
  go_enter Tryz.func112, Tryz.ntmps112
  go_wp2_with (go_at_call 111; refine (HV _).mono ?_; rintro e w1 ⟨rfl, b1⟩)
  go_ret
  exact ⟨rfl, b1⟩

theorem iPiece_re (s : ByteArray) (w : World) (hs : s.size ≤ 1048576) (dd : Nat) (os : Array Obj) : Calls Tryz.prog 112 #[.string s] (grow (redrawn w dd) os) fun e w'' => e = .returned (.string (pieceT s)) ∧ ∃ p : Regrown, w'' = grow (redrawn w p.d) p.os := Calls.regrown_of (iPiece s _ hs)

set_option maxRecDepth 100000 in
set_option maxHeartbeats 1000000 in
theorem iHead (nx : Int) (n : Nat) (a : Option Addr) (ca : Nat) (w : World) : Calls Tryz.prog 61 #[.agg #[.int .i64 nx, .slice a n ca]] w fun e w' => e = .returned (.string ((⟨#[117]⟩ : ByteArray) ++ varT nx ++ varT n)) ∧ Below w.heap.size w w' := by
  obtain ⟨W, HW⟩ : ∃ W, Hid (W = w.alloc (.cells #[.int .i64 nx, .slice a n ca] 26)) := ⟨_, rfl⟩
  have hf : w.alloc (.cells #[.int .i64 nx, .slice a n ca] 26) = W := HW.out.symm
  have B0 : Below w.heap.size w W := by rw [HW.out]; exact below_lit w _
  have g0 := cell_regrown (show W.cell? ⟨w.heap.size, 0, none⟩ = some (.int .i64 nx) by rw [HW.out, World.cell?_alloc_mark]; rfl)
  have g1 := cell_regrown (show W.cell? ⟨w.heap.size, 1, none⟩ = some (.slice a n ca) by rw [HW.out, World.cell?_alloc_mark]; rfl)
  have V1 := fun dd os => iVarT_re nx W dd os
  have V2 := fun dd os => iVarT_re n W dd os
  have z1 := varT_size nx
  have z2 := varT_size n
  generalize varT nx = t1 at *
  generalize varT n = t2 at *
  go_enter Tryz.func61, Tryz.ntmps61
  go_wp2
  refine wp_region_quiet_below (by kernel_rfl) (by kernel_rfl) ?_
  repeat (go_big_quiet_step (first | with_reducible exact V1 _ _ | with_reducible exact V2 _ _))
  refine wpQuiet_nil ?_
  rintro w' ⟨⟨dq, osq⟩, rfl⟩
  have hbq := below_regrown W dq osq
  generalize grow (redrawn W dq) osq = w5 at hbq ⊢
  go_wp2
  go_ret
  exact ⟨rfl, B0.trans (hbq.mono B0.size)⟩

set_option maxRecDepth 100000 in
set_option maxHeartbeats 1000000 in
theorem iInode (y : Ino) (s : Value) (w : World) (hy : InoS y) (hs : EntsAt w s y.ents) :
    Calls Tryz.prog 62 #[valI y s] w fun e w' => e = .returned (.string (inoT y)) ∧ Below w.heap.size w w' := by
  obtain ⟨a, ca, rfl, -, hva⟩ := hs
  have HD := hy.data
  have HL := hy.len
  have HNM : Hid (∀ k, k < y.ents.length → y.ents[k]!.name.size ≤ 24) := fun k hk => hy.names _ (by rw [getElem!_pos _ k hk]; exact List.getElem_mem hk)
  have HST : Hid (∀ k, k < y.ents.length → txI y k ++ (varT y.ents[k]!.index ++ pieceT y.ents[k]!.name ++ varT y.ents[k]!.id) = txI y (k + 1)) := fun k hk => by
    rw [txI_step y k hk]; unfold entT; rfl
  have HZ : Hid (∀ k, (txI y k).size ≤ 600) := fun k => txI_size hy k
  have H0 : Hid ((⟨#[105]⟩ : ByteArray) ++ varT y.id ++ varT y.kind ++ varT y.links ++ pieceT y.data ++ varT y.ents.length = txI y 0) := (txI_zero y).symm
  have HE : Hid (txI y y.ents.length = inoT y) := txI_all y
  generalize txI y = tx at HST HZ H0 HE
  generalize inoT y = r at HE ⊢
  obtain ⟨yi, yk, yl, yd, ye⟩ := y
  unfold valI
  dsimp only at *
  clear hy
  obtain ⟨n, HN⟩ : ∃ n, Hid (n = ye.length) := ⟨_, rfl⟩
  rw [← HN.out] at hva HL HNM HST H0 HE ⊢
  have B0 := below_lit w (.cells #[.int .i64 yi, .int .i64 yk, .int .i64 yl, .string yd, .slice a n ca] 79)
  have S0 : (w.alloc (.cells #[.int .i64 yi, .int .i64 yk, .int .i64 yl, .string yd, .slice a n ca] 79)).heap.size = w.heap.size + 1 := by simp
  obtain ⟨W, HW⟩ : ∃ W, Hid (W = w.alloc (.cells #[.int .i64 yi, .int .i64 yk, .int .i64 yl, .string yd, .slice a n ca] 79)) := ⟨_, rfl⟩
  have c0 : W.cell? ⟨w.heap.size, 0, none⟩ = some (.int .i64 yi) := by rw [HW.out, World.cell?_alloc_mark]; rfl
  have c1 : W.cell? ⟨w.heap.size, 1, none⟩ = some (.int .i64 yk) := by rw [HW.out, World.cell?_alloc_mark]; rfl
  have c2 : W.cell? ⟨w.heap.size, 2, none⟩ = some (.int .i64 yl) := by rw [HW.out, World.cell?_alloc_mark]; rfl
  have c3 : W.cell? ⟨w.heap.size, 3, none⟩ = some (.string yd) := by rw [HW.out, World.cell?_alloc_mark]; rfl
  have c4 : W.cell? ⟨w.heap.size, 4, none⟩ = some (.slice a n ca) := by rw [HW.out, World.cell?_alloc_mark]; rfl
  rw [← HW.out] at B0 S0
  have g0 := cell_regrown c0
  have g1 := cell_regrown c1
  have g2 := cell_regrown c2
  have g3 := cell_regrown c3
  have g4 := cell_regrown c4
  have z1 := varT_size yi
  have z2 := varT_size yk
  have z3 := varT_size yl
  have z4 := pieceT_size yd
  have z5 := varT_size n
  have V1 := fun dd os => iVarT_re yi W dd os
  have V2 := fun dd os => iVarT_re yk W dd os
  have V3 := fun dd os => iVarT_re yl W dd os
  have V4 := fun dd os => iPiece_re yd W (by omega) dd os
  have V5 := fun dd os => iVarT_re n W dd os
  generalize varT yi = t1 at *
  generalize varT yk = t2 at *
  generalize varT yl = t3 at *
  generalize pieceT yd = t4 at *
  generalize varT n = t5 at *
  have hf : w.alloc (.cells #[.int .i64 yi, .int .i64 yk, .int .i64 yl, .string yd, .slice a n ca] 79) = W := HW.out.symm
  go_enter Tryz.func62, Tryz.ntmps62
  go_wp2
  refine wp_region_quiet_below (by kernel_rfl) (by kernel_rfl) ?_
  repeat (go_big_quiet_step (first | with_reducible exact V1 _ _ | with_reducible exact V2 _ _ | with_reducible exact V3 _ _ | with_reducible exact V4 _ _ | with_reducible exact V5 _ _))
  refine wpQuiet_nil ?_
  rintro w' ⟨⟨dq, osq⟩, rfl⟩
  have hbq := below_regrown W dq osq
  have HB0 : Hid (W.heap[w.heap.size]? = some (.cells #[.int .i64 yi, .int .i64 yk, .int .i64 yl, .string yd, .slice a n ca] 79)) := by rw [HW.out]; exact (MapKept.heap_alloc w _).1
  generalize grow (redrawn W dq) osq = w5 at hbq ⊢
  have HB5 : w5.heap[w.heap.size]? = some (.cells #[.int .i64 yi, .int .i64 yk, .int .i64 yl, .string yd, .slice a n ca] 79) := (hbq.block _ (by omega)).trans HB0.out
  have d4 : w5.cell? ⟨w.heap.size, 4, none⟩ = some (.slice a n ca) := Joins.cell_of_block HB5 4
  have b5 : Below w.heap.size w w5 := B0.trans (hbq.mono (by omega))
  rw [H0.out]
  clear V1 V2 V3 V4 V5 g0 g1 g2 g3 g4 c0 c1 c2 c3 c4 hf HB0 HB5 z1 z2 z3 z4 z5 H0
  go_wp2
  go_loopw [3, 30] (fun sv i wr => ∃ k : Nat, k ≤ n ∧ i = .int .i64 k ∧ sv = .string (tx k) ∧ Below w.heap.size w wr) (fun _ i _ => n - (intOf i).toNat)
  case atStart => exact ⟨0, Nat.zero_le _, rfl, rfl, b5⟩
  case round =>
    obtain ⟨k, hk, rfl, rfl, hbel⟩ := hrel
    by_cases hlt : k < n
    · obtain ⟨b1, o1, rfl, hb1, hc1⟩ := hva k hlt
      have hc1 := hc1.below hb1 hbel
      have HS := HST.out k hlt
      have hz := HZ.out k
      have hnm := HNM.out k hlt
      generalize ye[k]! = e at hc1 HS hnm
      obtain ⟨e0, e1, e2, e3⟩ := e
      have k0 := hc1.c0
      have k1 := hc1.c1
      have k2 := hc1.c2
      have k3 := hc1.c3
      dsimp only at k0 k1 k2 k3 HS hnm
      obtain ⟨X, HX⟩ : ∃ X, Hid (X = wr.alloc (.cells #[.int .i64 e0, .int .i64 e1, .string e2, .int .i64 e3] 119)) := ⟨_, rfl⟩
      have hf : wr.alloc (.cells #[.int .i64 e0, .int .i64 e1, .string e2, .int .i64 e3] 119) = X := HX.out.symm
      have f1 := cell_regrown (show X.cell? ⟨wr.heap.size, 1, none⟩ = some (.int .i64 e1) by rw [HX.out, World.cell?_alloc_mark]; rfl)
      have f2 := cell_regrown (show X.cell? ⟨wr.heap.size, 2, none⟩ = some (.string e2) by rw [HX.out, World.cell?_alloc_mark]; rfl)
      have f3 := cell_regrown (show X.cell? ⟨wr.heap.size, 3, none⟩ = some (.int .i64 e3) by rw [HX.out, World.cell?_alloc_mark]; rfl)
      have z1 := varT_size e1
      have z2 := pieceT_size e2
      have z3 := varT_size e3
      have V1 := fun dd os => iVarT_re e1 X dd os
      have V2 := fun dd os => iPiece_re e2 X (by omega) dd os
      have V3 := fun dd os => iVarT_re e3 X dd os
      have BX : Below wr.heap.size wr X := by rw [HX.out]; exact below_lit wr _
      generalize varT e1 = t1 at *
      generalize pieceT e2 = t2 at *
      generalize varT e3 = t3 at *
      have HS : Hid _ := HS
      generalize tx k = tk at HS hz ⊢
      clear hc1 hva
      go_wp2
      refine wp_region_quiet_below (by kernel_rfl) (by kernel_rfl) ?_
      repeat (go_big_quiet_step (first | with_reducible exact V1 _ _ | with_reducible exact V2 _ _ | with_reducible exact V3 _ _))
      refine wpQuiet_nil ?_
      rintro w' ⟨⟨dq, osq⟩, rfl⟩
      have hbq2 := below_regrown X dq osq
      generalize grow (redrawn X dq) osq = w6 at hbq2 ⊢
      have b6 : Below w.heap.size w w6 := hbel.trans ((BX.trans (hbq2.mono BX.size)).mono hbel.size)
      go_wp2
      go_roundw
      case rel => exact ⟨k + 1, by omega, by go_num, by rw [HS.out], b6⟩
      case measure => simp [intOf]; omega
    · obtain rfl : n = k := by omega
      go_wp2
      go_ret
      exact ⟨by rw [HE.out]; rfl, hbel⟩

end Go.Proofs.YtiolbmhikkcbdaaGreatDoor
