/- spec: Var and l7Piece as texts; a text behind a row of texts. impl: Var and pieceOf as texts. Blocks, spec: l7Piece, l7Inode, l7Blocks, VolBlocks. Blocks, impl: pieceOf, headText, inodeText. Blocks, spec: l7Blocks, VolBlocks. Blocks, impl: VolBlocks. -/
import Derived.Test.YtchcdgkpaipkgaaGreatDoorRows
import Derived.Test.YtchcdgkpaipkgaaGreatDoorMvr
import Derived.Test.YtchcdgkpaipkgaaGreatDoorStS
import Derived.Test.YtchcdgkpaipkgaaGreatDoorMa
import Derived.Test.YtchcdgkpaipkgaaGreatDoorBkT
import Derived.Test.YtchcdgkpaipkgaaGreatDoorNb
import Derived.Test.YtchcdgkpaipkgaaGreatDoorNf
import Derived.Lib.SmallJoins
import Derived.Deep.QuietTactic
import Derived.BigQuiet
import Derived.Lib.QuietBelow
import Derived.Deep.RegionHeld3
namespace Go.Proofs.YtchcdgkpaipkgaaGreatDoor

section
open Go.RowKit Go.Sort

theorem sVarT (n : Int) (w : World) : Calls Tryz.prog 28 #[.int .i64 n] w fun e w' => e = .returned (.string (varT n)) ∧ Below w.heap.size w w' := by
  unfold varT
  cases h : inB n 0 562949953421311 with
  | false => exact (sVar_no n w h).mono fun e w' h => ⟨h.1, by rw [← h.2]; exact Below.refl _ _⟩
  | true => exact (sVar_yes n w h).mono fun e w' h => h

theorem sVarT_re (n : Int) (w : World) (dd : Nat) (os : Array Obj) : Calls Tryz.prog 28 #[.int .i64 n] (grow (redrawn w dd) os) fun e w'' => e = .returned (.string (varT n)) ∧ ∃ p : Regrown, w'' = grow (redrawn w p.d) p.os := Calls.regrown_of (sVarT n _)

set_option maxRecDepth 100000 in
set_option maxHeartbeats 1000000 in
theorem sPiece (s : ByteArray) (w : World) (hs : s.size ≤ 1048576) : Calls Tryz.prog 42 #[.string s] w fun e w' => e = .returned (.string (pieceT s)) ∧ Below w.heap.size w w' := by
  unfold pieceT
  have HV := fun w' => sVarT s.size w'
  have hz := varT_size s.size
  generalize varT s.size = t at HV hz
  go_enter Tryz.func42, Tryz.ntmps42
  go_wp2_with (go_at_call 28; refine (HV _).mono ?_; rintro e w1 ⟨rfl, b1⟩)
  go_ret
  exact ⟨rfl, b1⟩

theorem sPiece_re (s : ByteArray) (w : World) (hs : s.size ≤ 1048576) (dd : Nat) (os : Array Obj) : Calls Tryz.prog 42 #[.string s] (grow (redrawn w dd) os) fun e w'' => e = .returned (.string (pieceT s)) ∧ ∃ p : Regrown, w'' = grow (redrawn w p.d) p.os := Calls.regrown_of (sPiece s _ hs)

theorem cell_one_txt (w : World) (u : Value) : ∀ j y, [u][j]? = some y → (w.alloc (.cells #[u] 9)).cell? ((⟨w.heap.size, 0, none⟩ : Addr).add j) = some y := by
  intro j y h
  rw [Addr.add_lit, Nat.zero_add, World.cell?_alloc_mark]
  simpa using h

/-- 'append(out, x)', out a row of texts of the call's own -/
theorem append_txt (w : World) {ops : Array Oper} {rest : List Oper} {o : Oper} {a : Act} {Q : Exit → Act → World → Prop} (hgd : o.guard = none) (s x : Operand)
    (ho : o.op = .call { callee := .builtin .append, args := #[s, x], argTypes := #[25, 25] }) (base : Nat)
    (v : Value) (l : List ByteArray) (X : ByteArray) (hl : l.length + 1 ≤ 1099511627776) (hown : TxtRow w base v l) (hs : a.eval s = v) (hx : a.eval x = .slice (some ⟨w.heap.size, 0, none⟩) 1 1)
    (hbase : base ≤ w.heap.size)
    (h : ∀ v' w', TxtRow w' base v' (l ++ [X]) → Below base w w' → wpList Tryz.prog ops Q rest (a.put o.dst v') w') :
    wpList Tryz.prog ops Q (o :: rest) a (w.alloc (.cells #[.string X] 9)) := by
  obtain ⟨i0, hi, hz0, hz1, hz2⟩ := info_parts Tryz.infoTxt
  refine wpList_append_own _ hgd s x 25 ho base 9 i0 (.string ⟨#[]⟩) 1 16 Tryz.underlying25 hi hz0 hz1 hz2 rfl (by decide) v l.length (strsV l) hs (World.ownsRow.alloc hown _) ⟨w.heap.size, 0, none⟩ 1 1 [.string X] hx rfl (cell_one_txt _ _) ?_ (by unfold maxLen; omega) (by omega) (by simp; omega) ?_
  · intro u hu; simp at hu; subst hu; rfl
  · intro v' w' hown' hgrow _
    refine h v' w' ?_ ?_
    · unfold TxtRow
      rw [strsV_append, List.length_append]
      exact hown'
    · refine ((Below.refl base w).alloc hbase _).grown hgrow (by simp; omega) ?_
      intro k hk
      rcases hown.2 with ⟨rfl, _⟩ | ⟨g, cap, cur, rfl, hg, _⟩
      · simp [Value.ownBlock] at hk
      · simp [Value.ownBlock] at hk; omega
theorem head_row (w : World) (t : ByteArray) (base : Nat) (hb : base ≤ w.heap.size) : TxtRow (w.alloc (.cells #[.string t] 9)) base (.slice (some ⟨w.heap.size, 0, none⟩) 1 1) [t] :=
  World.ownsRow_lit (base := base) (e := 9) (size := 1) w #[.string t] 1 hb (by unfold maxLen; omega) rfl
end

section
open Go.RowKit Go.Sort

theorem iVarT (n : Int) (w : World) : Calls Tryz.prog 48 #[.int .i64 n] w fun e w' => e = .returned (.string (varT n)) ∧ Below w.heap.size w w' := by
  unfold varT
  cases h : inB n 0 562949953421311 with
  | false => exact (iVar_no n w h).mono fun e w' h => ⟨h.1, by rw [← h.2]; exact Below.refl _ _⟩
  | true => exact (iVar_yes n w h).mono fun e w' h => h

theorem iVarT_re (n : Int) (w : World) (dd : Nat) (os : Array Obj) : Calls Tryz.prog 48 #[.int .i64 n] (grow (redrawn w dd) os) fun e w'' => e = .returned (.string (varT n)) ∧ ∃ p : Regrown, w'' = grow (redrawn w p.d) p.os := Calls.regrown_of (iVarT n _)

set_option maxRecDepth 100000 in
set_option maxHeartbeats 1000000 in
theorem iPiece (s : ByteArray) (w : World) (hs : s.size ≤ 1048576) : Calls Tryz.prog 49 #[.string s] w fun e w' => e = .returned (.string (pieceT s)) ∧ Below w.heap.size w w' := by
  unfold pieceT
  have HV := fun w' => iVarT s.size w'
  have hz := varT_size s.size
  generalize varT s.size = t at HV hz
  go_enter Tryz.func49, Tryz.ntmps49
  go_wp2_with (go_at_call 48; refine (HV _).mono ?_; rintro e w1 ⟨rfl, b1⟩)
  go_ret
  exact ⟨rfl, b1⟩

theorem iPiece_re (s : ByteArray) (w : World) (hs : s.size ≤ 1048576) (dd : Nat) (os : Array Obj) : Calls Tryz.prog 49 #[.string s] (grow (redrawn w dd) os) fun e w'' => e = .returned (.string (pieceT s)) ∧ ∃ p : Regrown, w'' = grow (redrawn w p.d) p.os := Calls.regrown_of (iPiece s _ hs)
end

section
open Go.RowKit Go.Sort

/-- an inode's text behind k entries -/
def txI (y : Ino) (k : Nat) : ByteArray := inoH y ++ entsT (y.ents.take k)
theorem txI_zero (y : Ino) : txI y 0 = inoH y := by unfold txI; simp only [List.take_zero, entsT]; exact app_nil _
theorem txI_all (y : Ino) : txI y y.ents.length = inoT y := by unfold txI inoT; rw [List.take_length]
theorem txI_step (y : Ino) (k : Nat) (hk : k < y.ents.length) : txI y (k + 1) = txI y k ++ entT y.ents[k]! := by
  unfold txI
  rw [List.take_succ_eq_append_getElem hk, entsT_snoc, getElem!_pos y.ents k hk, app_assoc]
theorem txI_size {y : Ino} (h : InoS y) (k : Nat) : (txI y k).size ≤ 600 := by
  unfold txI
  rw [app_size]
  have := inoH_size y
  have h2 := entsT_size (y.ents.take k) fun e he => h.names e (List.mem_of_mem_take he)
  have := h.len
  have := h.data
  have h3 : (y.ents.take k).length ≤ y.ents.length := by rw [List.length_take]; omega
  omega

set_option maxRecDepth 100000 in
set_option maxHeartbeats 1000000 in
theorem sInode (y : Ino) (s : Value) (w : World) (hy : InoS y) (hs : EntsAt w s y.ents) :
    Calls Tryz.prog 29 #[valI y s] w fun e w' => e = .returned (.string (inoT y)) ∧ Below w.heap.size w w' := by
  obtain ⟨a, ca, rfl, -, hva⟩ := hs
  have HD := hy.data
  have HL := hy.len
  have HNM : Hid (∀ k, k < y.ents.length → y.ents[k]!.name.size ≤ 24) := fun k hk => hy.names _ (by rw [getElem!_pos _ k hk]; exact List.getElem_mem hk)
  have HST : Hid (∀ k, k < y.ents.length → txI y k ++ varT y.ents[k]!.index ++ pieceT y.ents[k]!.name ++ varT y.ents[k]!.id = txI y (k + 1)) := fun k hk => by
    rw [txI_step y k hk]; unfold entT; rw [app_assoc, app_assoc, app_assoc]
  have HZ : Hid (∀ k, (txI y k).size ≤ 600) := fun k => txI_size hy k
  have H0 : Hid ((⟨#[105]⟩ : ByteArray) ++ varT y.id ++ varT y.kind ++ varT y.links ++ pieceT y.data ++ varT y.ents.length = txI y 0) := (txI_zero y).symm
  have HE : Hid (txI y y.ents.length = inoT y) := txI_all y
  generalize txI y = tx at HST HZ H0 HE
  generalize inoT y = r at HE ⊢
  obtain ⟨yi, yk, yl, yd, ye⟩ := y
  unfold valI
  dsimp only at *
  clear hy
  obtain ⟨n, HN⟩ : ∃ n, Hid (n = ye.length) := ⟨_, rfl⟩
  rw [← HN.out] at hva HL HNM HST H0 HE ⊢
  have B0 := below_lit w (.cells #[.int .i64 yi, .int .i64 yk, .int .i64 yl, .string yd, .slice a n ca] 50)
  have S0 : (w.alloc (.cells #[.int .i64 yi, .int .i64 yk, .int .i64 yl, .string yd, .slice a n ca] 50)).heap.size = w.heap.size + 1 := by simp
  obtain ⟨W, HW⟩ : ∃ W, Hid (W = w.alloc (.cells #[.int .i64 yi, .int .i64 yk, .int .i64 yl, .string yd, .slice a n ca] 50)) := ⟨_, rfl⟩
  have c0 : W.cell? ⟨w.heap.size, 0, none⟩ = some (.int .i64 yi) := by rw [HW.out, World.cell?_alloc_mark]; rfl
  have c1 : W.cell? ⟨w.heap.size, 1, none⟩ = some (.int .i64 yk) := by rw [HW.out, World.cell?_alloc_mark]; rfl
  have c2 : W.cell? ⟨w.heap.size, 2, none⟩ = some (.int .i64 yl) := by rw [HW.out, World.cell?_alloc_mark]; rfl
  have c3 : W.cell? ⟨w.heap.size, 3, none⟩ = some (.string yd) := by rw [HW.out, World.cell?_alloc_mark]; rfl
  have c4 : W.cell? ⟨w.heap.size, 4, none⟩ = some (.slice a n ca) := by rw [HW.out, World.cell?_alloc_mark]; rfl
  rw [← HW.out] at B0 S0
  have g0 := cell_regrown c0
  have g1 := cell_regrown c1
  have g2 := cell_regrown c2
  have g3 := cell_regrown c3
  have g4 := cell_regrown c4
  have z1 := varT_size yi
  have z2 := varT_size yk
  have z3 := varT_size yl
  have z4 := pieceT_size yd
  have z5 := varT_size n
  have V1 := fun dd os => sVarT_re yi W dd os
  have V2 := fun dd os => sVarT_re yk W dd os
  have V3 := fun dd os => sVarT_re yl W dd os
  have V4 := fun dd os => sPiece_re yd W (by omega) dd os
  have V5 := fun dd os => sVarT_re n W dd os
  generalize varT yi = t1 at *
  generalize varT yk = t2 at *
  generalize varT yl = t3 at *
  generalize pieceT yd = t4 at *
  generalize varT n = t5 at *
  have hf : w.alloc (.cells #[.int .i64 yi, .int .i64 yk, .int .i64 yl, .string yd, .slice a n ca] 50) = W := HW.out.symm
  go_enter Tryz.func29, Tryz.ntmps29
  go_wp2
  refine wp_region_quiet_below (by kernel_rfl) (by kernel_rfl) ?_
  repeat (go_big_quiet_step (first | with_reducible exact V1 _ _ | with_reducible exact V2 _ _ | with_reducible exact V3 _ _ | with_reducible exact V4 _ _ | with_reducible exact V5 _ _))
  refine wpQuiet_nil ?_
  rintro w' ⟨⟨dq, osq⟩, rfl⟩
  have hbq := below_regrown W dq osq
  have HB0 : Hid (W.heap[w.heap.size]? = some (.cells #[.int .i64 yi, .int .i64 yk, .int .i64 yl, .string yd, .slice a n ca] 50)) := by rw [HW.out]; exact (MapKept.heap_alloc w _).1
  generalize grow (redrawn W dq) osq = w5 at hbq ⊢
  have HB5 : Hid (w5.heap[w.heap.size]? = some (.cells #[.int .i64 yi, .int .i64 yk, .int .i64 yl, .string yd, .slice a n ca] 50)) := (hbq.block _ (by omega)).trans HB0.out
  have b5 : Below w.heap.size w w5 := B0.trans (hbq.mono (by omega))
  rw [H0.out]
  clear V1 V2 V3 V4 V5 g0 g1 g2 g3 g4 c0 c1 c2 c3 c4 hf HB0 z1 z2 z3 z4 z5 H0
  go_wp2
  go_loopw [3, 4] (fun sv i wr => ∃ k : Nat, k ≤ n ∧ i = .int .i64 k ∧ sv = .string (tx k) ∧ Hid (wr.heap[w.heap.size]? = some (.cells #[.int .i64 yi, .int .i64 yk, .int .i64 yl, .string yd, .slice a n ca] 50)) ∧ Below w.heap.size w wr) (fun _ i _ => n - (intOf i).toNat)
  case atStart => exact ⟨0, Nat.zero_le _, rfl, rfl, HB5, b5⟩
  case round =>
    obtain ⟨k, hk, rfl, rfl, HB, hbel⟩ := hrel
    have d4 : wr.cell? ⟨w.heap.size, 4, none⟩ = some (.slice a n ca) := Joins.cell_of_block HB.out 4
    by_cases hlt : k < n
    · obtain ⟨b1, o1, rfl, hb1, hc1⟩ := hva k hlt
      have hc1 := hc1.below hb1 hbel
      have HS := HST.out k hlt
      have hz := HZ.out k
      have hnm := HNM.out k hlt
      generalize ye[k]! = e at hc1 HS hnm
      obtain ⟨e0, e1, e2, e3⟩ := e
      have k0 := hc1.c0
      have k1 := hc1.c1
      have k2 := hc1.c2
      have k3 := hc1.c3
      dsimp only at k0 k1 k2 k3 HS hnm
      obtain ⟨X, HX⟩ : ∃ X, Hid (X = wr.alloc (.cells #[.int .i64 e0, .int .i64 e1, .string e2, .int .i64 e3] 66)) := ⟨_, rfl⟩
      have hf : wr.alloc (.cells #[.int .i64 e0, .int .i64 e1, .string e2, .int .i64 e3] 66) = X := HX.out.symm
      have f1 := cell_regrown (show X.cell? ⟨wr.heap.size, 1, none⟩ = some (.int .i64 e1) by rw [HX.out, World.cell?_alloc_mark]; rfl)
      have f2 := cell_regrown (show X.cell? ⟨wr.heap.size, 2, none⟩ = some (.string e2) by rw [HX.out, World.cell?_alloc_mark]; rfl)
      have f3 := cell_regrown (show X.cell? ⟨wr.heap.size, 3, none⟩ = some (.int .i64 e3) by rw [HX.out, World.cell?_alloc_mark]; rfl)
      have z1 := varT_size e1
      have z2 := pieceT_size e2
      have z3 := varT_size e3
      have V1 := fun dd os => sVarT_re e1 X dd os
      have V2 := fun dd os => sPiece_re e2 X (by omega) dd os
      have V3 := fun dd os => sVarT_re e3 X dd os
      have BX : Below wr.heap.size wr X := by rw [HX.out]; exact below_lit wr _
      have HBX : Hid (X.heap[w.heap.size]? = some (.cells #[.int .i64 yi, .int .i64 yk, .int .i64 yl, .string yd, .slice (some ⟨b1, o1, none⟩) n ca] 50)) := (BX.block _ (lt_of_block HB.out)).trans HB.out
      generalize varT e1 = t1 at *
      generalize pieceT e2 = t2 at *
      generalize varT e3 = t3 at *
      have HS : Hid _ := HS
      generalize tx k = tk at HS hz ⊢
      clear hc1 hva
      go_wp2
      refine wp_region_quiet_below (by kernel_rfl) (by kernel_rfl) ?_
      repeat (go_big_quiet_step (first | with_reducible exact V1 _ _ | with_reducible exact V2 _ _ | with_reducible exact V3 _ _))
      refine wpQuiet_nil ?_
      rintro w' ⟨⟨dq, osq⟩, rfl⟩
      have hbq2 := below_regrown X dq osq
      generalize grow (redrawn X dq) osq = w6 at hbq2 ⊢
      have b6 : Below w.heap.size w w6 := hbel.trans ((BX.trans (hbq2.mono BX.size)).mono hbel.size)
      have HB6 : Hid (w6.heap[w.heap.size]? = some (.cells #[.int .i64 yi, .int .i64 yk, .int .i64 yl, .string yd, .slice (some ⟨b1, o1, none⟩) n ca] 50)) := (hbq2.block _ (lt_of_block HBX.out)).trans HBX.out
      go_wp2
      go_roundw
      case rel => exact ⟨k + 1, by omega, by go_num, by rw [HS.out], HB6, b6⟩
      case measure => simp [intOf]; omega
    · obtain rfl : n = k := by omega
      go_wp2
      go_ret
      exact ⟨by rw [HE.out]; rfl, hbel⟩

/-- the texts up to place k -/
def upT (x : Vo) (k : Nat) : List ByteArray := headT x :: (List.range k).map (slotT x)
theorem upT_step (x : Vo) (k : Nat) : upT x k ++ [slotT x k] = upT x (k + 1) := by unfold upT; rw [List.range_succ, List.map_append]; simp
theorem upT_len (x : Vo) (k : Nat) : (upT x k).length = k + 1 := by simp [upT]
end

section
open Go.RowKit Go.Sort

set_option maxRecDepth 100000 in
set_option maxHeartbeats 1000000 in
theorem iHead (nx : Int) (n : Nat) (a : Option Addr) (ca : Nat) (w : World) : Calls Tryz.prog 31 #[.agg #[.int .i64 nx, .slice a n ca]] w fun e w' => e = .returned (.string ((⟨#[117]⟩ : ByteArray) ++ varT nx ++ varT n)) ∧ Below w.heap.size w w' := by
  obtain ⟨W, HW⟩ : ∃ W, Hid (W = w.alloc (.cells #[.int .i64 nx, .slice a n ca] 24)) := ⟨_, rfl⟩
  have hf : w.alloc (.cells #[.int .i64 nx, .slice a n ca] 24) = W := HW.out.symm
  have B0 : Below w.heap.size w W := by rw [HW.out]; exact below_lit w _
  have g0 := cell_regrown (show W.cell? ⟨w.heap.size, 0, none⟩ = some (.int .i64 nx) by rw [HW.out, World.cell?_alloc_mark]; rfl)
  have g1 := cell_regrown (show W.cell? ⟨w.heap.size, 1, none⟩ = some (.slice a n ca) by rw [HW.out, World.cell?_alloc_mark]; rfl)
  have V1 := fun dd os => iVarT_re nx W dd os
  have V2 := fun dd os => iVarT_re n W dd os
  have z1 := varT_size nx
  have z2 := varT_size n
  generalize varT nx = t1 at *
  generalize varT n = t2 at *
  go_enter Tryz.func31, Tryz.ntmps31
  go_wp2
  refine wp_region_quiet_below (by kernel_rfl) (by kernel_rfl) ?_
  repeat (go_big_quiet_step (first | with_reducible exact V1 _ _ | with_reducible exact V2 _ _))
  refine wpQuiet_nil ?_
  rintro w' ⟨⟨dq, osq⟩, rfl⟩
  have hbq := below_regrown W dq osq
  generalize grow (redrawn W dq) osq = w5 at hbq ⊢
  go_wp2
  go_ret
  exact ⟨rfl, B0.trans (hbq.mono B0.size)⟩

set_option maxRecDepth 100000 in
set_option maxHeartbeats 1000000 in
theorem iInode (y : Ino) (s : Value) (w : World) (hy : InoS y) (hs : EntsAt w s y.ents) :
    Calls Tryz.prog 32 #[valI y s] w fun e w' => e = .returned (.string (inoT y)) ∧ Below w.heap.size w w' := by
  obtain ⟨a, ca, rfl, -, hva⟩ := hs
  have HD := hy.data
  have HL := hy.len
  have HNM : Hid (∀ k, k < y.ents.length → y.ents[k]!.name.size ≤ 24) := fun k hk => hy.names _ (by rw [getElem!_pos _ k hk]; exact List.getElem_mem hk)
  have HST : Hid (∀ k, k < y.ents.length → txI y k ++ (varT y.ents[k]!.index ++ pieceT y.ents[k]!.name ++ varT y.ents[k]!.id) = txI y (k + 1)) := fun k hk => by
    rw [txI_step y k hk]; unfold entT; rfl
  have HZ : Hid (∀ k, (txI y k).size ≤ 600) := fun k => txI_size hy k
  have H0 : Hid ((⟨#[105]⟩ : ByteArray) ++ varT y.id ++ varT y.kind ++ varT y.links ++ pieceT y.data ++ varT y.ents.length = txI y 0) := (txI_zero y).symm
  have HE : Hid (txI y y.ents.length = inoT y) := txI_all y
  generalize txI y = tx at HST HZ H0 HE
  generalize inoT y = r at HE ⊢
  obtain ⟨yi, yk, yl, yd, ye⟩ := y
  unfold valI
  dsimp only at *
  clear hy
  obtain ⟨n, HN⟩ : ∃ n, Hid (n = ye.length) := ⟨_, rfl⟩
  rw [← HN.out] at hva HL HNM HST H0 HE ⊢
  have B0 := below_lit w (.cells #[.int .i64 yi, .int .i64 yk, .int .i64 yl, .string yd, .slice a n ca] 50)
  have S0 : (w.alloc (.cells #[.int .i64 yi, .int .i64 yk, .int .i64 yl, .string yd, .slice a n ca] 50)).heap.size = w.heap.size + 1 := by simp
  obtain ⟨W, HW⟩ : ∃ W, Hid (W = w.alloc (.cells #[.int .i64 yi, .int .i64 yk, .int .i64 yl, .string yd, .slice a n ca] 50)) := ⟨_, rfl⟩
  have c0 : W.cell? ⟨w.heap.size, 0, none⟩ = some (.int .i64 yi) := by rw [HW.out, World.cell?_alloc_mark]; rfl
  have c1 : W.cell? ⟨w.heap.size, 1, none⟩ = some (.int .i64 yk) := by rw [HW.out, World.cell?_alloc_mark]; rfl
  have c2 : W.cell? ⟨w.heap.size, 2, none⟩ = some (.int .i64 yl) := by rw [HW.out, World.cell?_alloc_mark]; rfl
  have c3 : W.cell? ⟨w.heap.size, 3, none⟩ = some (.string yd) := by rw [HW.out, World.cell?_alloc_mark]; rfl
  have c4 : W.cell? ⟨w.heap.size, 4, none⟩ = some (.slice a n ca) := by rw [HW.out, World.cell?_alloc_mark]; rfl
  rw [← HW.out] at B0 S0
  have g0 := cell_regrown c0
  have g1 := cell_regrown c1
  have g2 := cell_regrown c2
  have g3 := cell_regrown c3
  have g4 := cell_regrown c4
  have z1 := varT_size yi
  have z2 := varT_size yk
  have z3 := varT_size yl
  have z4 := pieceT_size yd
  have z5 := varT_size n
  have V1 := fun dd os => iVarT_re yi W dd os
  have V2 := fun dd os => iVarT_re yk W dd os
  have V3 := fun dd os => iVarT_re yl W dd os
  have V4 := fun dd os => iPiece_re yd W (by omega) dd os
  have V5 := fun dd os => iVarT_re n W dd os
  generalize varT yi = t1 at *
  generalize varT yk = t2 at *
  generalize varT yl = t3 at *
  generalize pieceT yd = t4 at *
  generalize varT n = t5 at *
  have hf : w.alloc (.cells #[.int .i64 yi, .int .i64 yk, .int .i64 yl, .string yd, .slice a n ca] 50) = W := HW.out.symm
  go_enter Tryz.func32, Tryz.ntmps32
  go_wp2
  refine wp_region_quiet_below (by kernel_rfl) (by kernel_rfl) ?_
  repeat (go_big_quiet_step (first | with_reducible exact V1 _ _ | with_reducible exact V2 _ _ | with_reducible exact V3 _ _ | with_reducible exact V4 _ _ | with_reducible exact V5 _ _))
  refine wpQuiet_nil ?_
  rintro w' ⟨⟨dq, osq⟩, rfl⟩
  have hbq := below_regrown W dq osq
  have HB0 : Hid (W.heap[w.heap.size]? = some (.cells #[.int .i64 yi, .int .i64 yk, .int .i64 yl, .string yd, .slice a n ca] 50)) := by rw [HW.out]; exact (MapKept.heap_alloc w _).1
  generalize grow (redrawn W dq) osq = w5 at hbq ⊢
  have HB5 : w5.heap[w.heap.size]? = some (.cells #[.int .i64 yi, .int .i64 yk, .int .i64 yl, .string yd, .slice a n ca] 50) := (hbq.block _ (by omega)).trans HB0.out
  have d4 : w5.cell? ⟨w.heap.size, 4, none⟩ = some (.slice a n ca) := Joins.cell_of_block HB5 4
  have b5 : Below w.heap.size w w5 := B0.trans (hbq.mono (by omega))
  rw [H0.out]
  clear V1 V2 V3 V4 V5 g0 g1 g2 g3 g4 c0 c1 c2 c3 c4 hf HB0 HB5 z1 z2 z3 z4 z5 H0
  go_wp2
  go_loopw [3, 30] (fun sv i wr => ∃ k : Nat, k ≤ n ∧ i = .int .i64 k ∧ sv = .string (tx k) ∧ Below w.heap.size w wr) (fun _ i _ => n - (intOf i).toNat)
  case atStart => exact ⟨0, Nat.zero_le _, rfl, rfl, b5⟩
  case round =>
    obtain ⟨k, hk, rfl, rfl, hbel⟩ := hrel
    by_cases hlt : k < n
    · obtain ⟨b1, o1, rfl, hb1, hc1⟩ := hva k hlt
      have hc1 := hc1.below hb1 hbel
      have HS := HST.out k hlt
      have hz := HZ.out k
      have hnm := HNM.out k hlt
      generalize ye[k]! = e at hc1 HS hnm
      obtain ⟨e0, e1, e2, e3⟩ := e
      have k0 := hc1.c0
      have k1 := hc1.c1
      have k2 := hc1.c2
      have k3 := hc1.c3
      dsimp only at k0 k1 k2 k3 HS hnm
      obtain ⟨X, HX⟩ : ∃ X, Hid (X = wr.alloc (.cells #[.int .i64 e0, .int .i64 e1, .string e2, .int .i64 e3] 66)) := ⟨_, rfl⟩
      have hf : wr.alloc (.cells #[.int .i64 e0, .int .i64 e1, .string e2, .int .i64 e3] 66) = X := HX.out.symm
      have f1 := cell_regrown (show X.cell? ⟨wr.heap.size, 1, none⟩ = some (.int .i64 e1) by rw [HX.out, World.cell?_alloc_mark]; rfl)
      have f2 := cell_regrown (show X.cell? ⟨wr.heap.size, 2, none⟩ = some (.string e2) by rw [HX.out, World.cell?_alloc_mark]; rfl)
      have f3 := cell_regrown (show X.cell? ⟨wr.heap.size, 3, none⟩ = some (.int .i64 e3) by rw [HX.out, World.cell?_alloc_mark]; rfl)
      have z1 := varT_size e1
      have z2 := pieceT_size e2
      have z3 := varT_size e3
      have V1 := fun dd os => iVarT_re e1 X dd os
      have V2 := fun dd os => iPiece_re e2 X (by omega) dd os
      have V3 := fun dd os => iVarT_re e3 X dd os
      have BX : Below wr.heap.size wr X := by rw [HX.out]; exact below_lit wr _
      generalize varT e1 = t1 at *
      generalize pieceT e2 = t2 at *
      generalize varT e3 = t3 at *
      have HS : Hid _ := HS
      generalize tx k = tk at HS hz ⊢
      clear hc1 hva
      go_wp2
      refine wp_region_quiet_below (by kernel_rfl) (by kernel_rfl) ?_
      repeat (go_big_quiet_step (first | with_reducible exact V1 _ _ | with_reducible exact V2 _ _ | with_reducible exact V3 _ _))
      refine wpQuiet_nil ?_
      rintro w' ⟨⟨dq, osq⟩, rfl⟩
      have hbq2 := below_regrown X dq osq
      generalize grow (redrawn X dq) osq = w6 at hbq2 ⊢
      have b6 : Below w.heap.size w w6 := hbel.trans ((BX.trans (hbq2.mono BX.size)).mono hbel.size)
      go_wp2
      go_roundw
      case rel => exact ⟨k + 1, by omega, by go_num, by rw [HS.out], b6⟩
      case measure => simp [intOf]; omega
    · obtain rfl : n = k := by omega
      go_wp2
      go_ret
      exact ⟨by rw [HE.out]; rfl, hbel⟩
end

section
open Go.RowKit Go.Sort

set_option maxRecDepth 100000 in
set_option maxHeartbeats 1000000 in
theorem sBlocks (v : Value) (x : Vo) (w : World) (hl : x.ins.length ≤ 16) (hx : ∀ y ∈ x.ins, InoS y) (hv : VolAt w v x) :
    Calls Tryz.prog 12 #[v] w fun e w' => ∃ u, e = .returned u ∧ TxtRow w' w.heap.size u (blocksN x) ∧ Below w.heap.size w w' := by
  have HST : Hid (∀ k, upT x k ++ [slotT x k] = upT x (k + 1)) := fun k => upT_step x k
  have HSI : Hid (∀ k, k < x.ins.length → slotT x k = inoT x.ins[k]!) := fun k hk => by unfold slotT; rw [if_pos hk]
  have HSN : Hid (∀ k, ¬ k < x.ins.length → slotT x k = ⟨#[]⟩) := fun k hk => by unfold slotT; rw [if_neg hk]
  have HLN : Hid (∀ k, (upT x k).length = k + 1) := fun k => upT_len x k
  have H0 : Hid (upT x 0 = [(⟨#[117]⟩ : ByteArray) ++ varT x.next ++ varT x.ins.length]) := rfl
  have HE : Hid (upT x 16 = blocksN x) := rfl
  have HIN : Hid (∀ k, k < x.ins.length → ∀ s w', EntsAt w' s x.ins[k]!.ents → Calls Tryz.prog 29 #[valI x.ins[k]! s] w' fun e w'' => e = .returned (.string (inoT x.ins[k]!)) ∧ Below w'.heap.size w' w'') := fun k hk s w' hs => sInode _ s w' (hx _ (place_mem hk)) hs
  generalize upT x = up at *
  generalize blocksN x = R at *
  generalize slotT x = sl at *
  clear hx
  obtain ⟨nx, l⟩ := x
  obtain ⟨u, rfl, a, ca, rfl, -, hva⟩ := hv
  dsimp only at *
  obtain ⟨n, HN⟩ : ∃ n, Hid (n = l.length) := ⟨_, rfl⟩
  rw [← HN.out] at hva hl HSI HSN H0 HIN ⊢
  have V := fun z w' => sVarT z w'
  have hz := varT_size
  generalize varT = tv at *
  have z1 := hz nx
  have z2 := hz n
  clear hz
  have S0 : (w.alloc (.cells #[.int .i64 nx, .slice a n ca] 24)).heap.size = w.heap.size + 1 := by simp
  have B0 := below_lit w (.cells #[.int .i64 nx, .slice a n ca] 24)
  go_enter Tryz.func12, Tryz.ntmps12
  go_wp2
  have q1 : ¬ (9223372036854775807 < 1 + (tv nx).size) := by omega
  have q2 : ¬ (9223372036854775807 < 1 + (tv nx).size + (tv n).size) := by omega
  have HD : Hid (∀ w1, Below (w.alloc (.cells #[.int .i64 nx, .slice a n ca] 24)).drew.heap.size (w.alloc (.cells #[.int .i64 nx, .slice a n ca] 24)).drew w1 → Below (w.heap.size + 1) (w.alloc (.cells #[.int .i64 nx, .slice a n ca] 24)) w1) := fun w1 b1 => (Below.refl _ _).drew.trans (b1.mono (by show w.heap.size + 1 ≤ (w.alloc _).heap.size; omega))
  go_region_held3 (fun w' => (w'.cell? ⟨w.heap.size, 0, none⟩ = some (.int .i64 nx) ∧ w'.cell? ⟨w.heap.size, 1, none⟩ = some (.slice a n ca))) (go_keep)
    (first
      | (go_at_call 28; refine (V _ _).mono ?_; rintro e w1 ⟨rfl, b1⟩; have C1 := HD.out w1 b1; obtain ⟨p0, p1, HB1⟩ := box_cells C1)
      | (go_at_call 28; refine (V _ _).mono ?_; rintro e w2 ⟨rfl, b2⟩; have C2 := C1.trans (b2.mono (by have := C1.size; rw [S0] at this; exact this)); obtain ⟨p0, p1, HB2⟩ := box_cells C2))
  have hs2 := C2.size
  rw [S0] at hs2
  have r0 : TxtRow (w2.alloc (.cells #[.string ((⟨#[117]⟩ : ByteArray) ++ tv nx ++ tv n)] 9)) (w.heap.size + 1) (.slice (some ⟨w2.heap.size, 0, none⟩) 1 1) (up 0) := by
    rw [H0.out]; exact head_row w2 _ _ hs2
  have C3 := C2.alloc hs2 (.cells #[.string ((⟨#[117]⟩ : ByteArray) ++ tv nx ++ tv n)] 9)
  have hup0 : Hid (∀ k, k ≤ 16 → (up k).length + 1 ≤ 1099511627776) := fun k hk => by rw [HLN.out]; omega
  clear C1 b1 b2 V z1 z2 q1 q2 HD p0 p1 HB1 HB2 H0
  generalize w2.alloc (.cells #[.string ((⟨#[117]⟩ : ByteArray) ++ tv nx ++ tv n)] 9) = w3 at *
  go_wp2
  go_loopw [3, 4] (fun o i wr => ∃ k : Nat, k ≤ 16 ∧ i = .int .i64 k ∧ TxtRow wr (w.heap.size + 1) o (up k) ∧ Below (w.heap.size + 1) (w.alloc (.cells #[.int .i64 nx, .slice a n ca] 24)) wr) (fun _ i _ => 16 - (intOf i).toNat)
  case atStart => exact ⟨0, Nat.zero_le _, rfl, r0, C3⟩
  case round =>
    obtain ⟨k, hk, rfl, hown, hbel⟩ := hrel
    obtain ⟨p0, p1, HB⟩ := box_cells hbel
    have hsb := hbel.size
    rw [S0] at hsb
    have hul := hup0.out k hk
    by_cases hlt : k < 16
    · have hlt' : (k : Int) < 16 := by omega
      have HSK := HST.out k
      by_cases hkn : k < n
      · obtain ⟨b1, o1, s1, rfl, hb1, hc1, hen⟩ := hva k hkn
        have hc1 := hc1.below hb1 HB
        have hII := HIN.out k hkn s1 wr (hen.below HB)
        rw [HSI.out k hkn] at HSK
        obtain ⟨ea, ec, rfl, -, -⟩ := hen
        have HSK : Hid _ := HSK
        generalize l[k]! = y at hc1 hII HSK
        obtain ⟨yi, yk, yl, yd, ye⟩ := y
        unfold valI at hII
        dsimp only at hc1 hII HSK
        have k0 := hc1.c0
        have k1 := hc1.c1
        have k2 := hc1.c2
        have k3 := hc1.c3
        have k4 := hc1.c4
        generalize inoT ⟨yi, yk, yl, yd, ye⟩ = ti at *
        clear hc1 hva
        generalize up k = uk at *
        go_wp2_with (first
          | (go_at_call 29; refine hII.mono ?_; rintro e w4 ⟨rfl, b4⟩; have hown4 := hown.below b4; have hs4 := b4.size; have hs4' : w.heap.size + 1 ≤ w4.heap.size := by omega)
          | (at_builtin; refine append_txt w4 rfl (.tmp 24) (.tmp 31) rfl (w.heap.size + 1) _ uk ti hul hown4 rfl rfl hs4' ?_; intro v' w5 hown5 hbel5))
        go_roundw
        case rel => exact ⟨k + 1, by omega, by go_num, by rw [← HSK.out]; exact hown5, (hbel.trans (b4.mono hsb)).trans hbel5⟩
        case measure => simp [intOf]; omega
      · rw [HSN.out k hkn] at HSK
        have HSK : Hid _ := HSK
        have hkn' : ¬ ((k : Int) < (n : Int)) := by omega
        generalize up k = uk at *
        go_wp2_with (at_builtin; refine append_txt wr rfl (.tmp 33) (.tmp 34) rfl (w.heap.size + 1) _ uk ⟨#[]⟩ hul hown rfl rfl hsb ?_; intro v' w5 hown5 hbel5)
        go_roundw
        case rel => exact ⟨k + 1, by omega, by go_num, by rw [← HSK.out]; exact hown5, hbel.trans hbel5⟩
        case measure => simp [intOf]; omega
    · obtain rfl : k = 16 := by omega
      rw [HE.out] at hown
      go_wp2
      go_ret
      exact ⟨_, rfl, hown.mono (by omega), HB⟩

theorem empty_strs (w : World) : TxtRow (w.alloc (.cells #[] 9)) w.heap.size (.slice (some ⟨w.heap.size, 0, none⟩) 0 0) [] :=
  World.ownsRow_lit (base := w.heap.size) (e := 9) (size := 1) w #[] 0 (Nat.le_refl _) (by unfold maxLen; omega) rfl
end

section
open Go.RowKit Go.Sort

/-- the texts laid so far -/
def fillB (x : Vo) (k : Nat) : List ByteArray := headT x :: (List.range 16).map fun i => if i < k then slotT x i else ⟨#[]⟩
theorem fillB_len (x : Vo) (k : Nat) : (fillB x k).length = 17 := by simp [fillB]
theorem fillB_zero (x : Vo) : (List.replicate 17 (⟨#[]⟩ : ByteArray)).set 0 (headT x) = fillB x 0 := by
  unfold fillB
  rw [List.replicate_succ, List.set_cons_zero]
  congr 1
theorem fillB_step (x : Vo) (k : Nat) : (fillB x k).set (1 + k) (slotT x k) = fillB x (k + 1) := by
  unfold fillB
  rw [show 1 + k = k + 1 by omega, List.set_cons_succ]
  congr 1
  apply List.ext_getElem (by simp)
  intro i h1 h2
  rw [List.getElem_set]
  simp only [List.getElem_map, List.getElem_range]
  by_cases e : k = i
  · subst e; simp
  · rw [if_neg e]
    by_cases h3 : i < k
    · rw [if_pos h3, if_pos (by omega)]
    · rw [if_neg h3, if_neg (by omega)]
theorem fillB_all (x : Vo) : fillB x x.ins.length = blocksN x := by
  unfold fillB blocksN
  congr 1
  apply List.map_congr_left
  intro i _
  unfold slotT
  split <;> rfl

set_option maxRecDepth 100000 in
set_option maxHeartbeats 1000000 in
theorem iVolBlocks (v : Value) (x : Vo) (w : World) (hT : Tabs w) (hC : CrcTab w) (hx : VolShort x) (hv : VolAt w v x) :
    Calls Tryz.prog 14 #[v] w fun e w' => ∃ u, e = .returned u ∧ TxtRow w' w.heap.size u (volBlocksN x) ∧ Below w.heap.size w w' := by
  have HOK : ∀ w', Below w.heap.size w w' → Calls Tryz.prog 30 #[v] w' fun e w'' => e = .returned (.bool (rightB x)) ∧ Below w'.heap.size w' w'' := fun w' b => iVolOk v x w' (hT.below b) (hC.below b) hx (hv.below b)
  unfold volBlocksN
  cases hr : rightB x with
  | false =>
    rw [hr] at HOK
    obtain ⟨u, rfl, a, ca, rfl, -, -⟩ := hv
    have B0 := below_lit w (.cells #[.int .i64 x.next, .slice a x.ins.length ca] 24)
    have hOK := HOK _ B0
    generalize x.next = nx at *
    generalize x.ins.length = n at *
    go_enter Tryz.func14, Tryz.ntmps14
    go_wp2_with (go_at_call 30; refine hOK.mono ?_; rintro e w1 ⟨rfl, b1⟩)
    go_ret
    exact ⟨_, rfl, ⟨rfl, .inl ⟨rfl, rfl⟩⟩, B0.trans (b1.mono B0.size)⟩
  | true =>
    rw [hr] at HOK
    rw [if_pos rfl]
    have hR := rightB_iff.1 hr
    have hl := hR.len
    have HIN : Hid (∀ k, k < x.ins.length → ∀ s w', EntsAt w' s x.ins[k]!.ents → Calls Tryz.prog 32 #[valI x.ins[k]! s] w' fun e w'' => e = .returned (.string (slotT x k)) ∧ Below w'.heap.size w' w'') := fun k hk s w' hs => by
      have := iInode _ s w' (right_small hR (place_mem hk)) hs
      unfold slotT
      rwa [if_pos hk]
    have HST : Hid (∀ k, (strsV (fillB x k)).set (1 + k) (.string (slotT x k)) = strsV (fillB x (k + 1))) := fun k => by rw [strsV_set, fillB_step x k]
    have H0 : Hid ((strsV (List.replicate 17 (⟨#[]⟩ : ByteArray))).set 0 (.string ((⟨#[117]⟩ : ByteArray) ++ varT x.next ++ varT x.ins.length)) = strsV (fillB x 0)) := by
      show _ = _; rw [strsV_set]; exact congrArg strsV (fillB_zero x)
    have HE : Hid (∀ w' u, w'.ownsRow w.heap.size 9 1 u 17 (strsV (fillB x x.ins.length)) → TxtRow w' w.heap.size u (blocksN x)) := fun w' u h => by
      rw [fillB_all] at h
      unfold TxtRow; rw [blocksN_len]; exact h
    clear hr hR hx hT hC
    generalize blocksN x = R at HE ⊢
    generalize fillB x = fb at HST H0 HE
    generalize slotT x = sl at HIN HST
    obtain ⟨u, rfl, a, ca, rfl, -, hva⟩ := hv
    obtain ⟨nx, l⟩ := x
    dsimp only at *
    obtain ⟨n, HN⟩ : ∃ n, Hid (n = l.length) := ⟨_, rfl⟩
    rw [← HN.out] at hva hl HIN H0 HE HOK ⊢
    have HHD := fun w' => iHead nx n a ca w'
    generalize (⟨#[117]⟩ : ByteArray) ++ varT nx ++ varT n = th at HHD H0
    have B0 := below_lit w (.cells #[.int .i64 nx, .slice a n ca] 24)
    have S0 : (w.alloc (.cells #[.int .i64 nx, .slice a n ca] 24)).heap.size = w.heap.size + 1 := by simp
    have hOK := HOK _ B0
    rw [S0] at hOK
    obtain ⟨i0, hi, hz0, hz1, hz2⟩ := info_parts Tryz.infoTxt
    go_enter Tryz.func14, Tryz.ntmps14
    go_wp2_with (first
      | (go_at_call 30; refine hOK.mono ?_; rintro e w1 ⟨rfl, b1⟩; obtain ⟨p0, p1, HB1⟩ := box_cells b1; have hs1 := b1.size; rw [S0] at hs1; have hs1' : w.heap.size ≤ w1.heap.size := by omega)
      | (at_make; refine wpList_make_full _ rfl _ _ 25 rfl w.heap.size 9 i0 (.string ⟨#[]⟩) 1 Tryz.underlying25 hi hz0 hz1 .i64 .i64 _ _ 17 rfl rfl rfl rfl (by rw [hz2]; omega) (by unfold maxLen; omega) hs1' ?_; intro w2 hown2 hgrow2; have b2 : Below w1.heap.size w1 w2 := (Below.refl _ _).grown hgrow2 (Nat.le_refl _) (fun _ h => by cases h); have hw2 := b2.size; have p0 := (b2.cell (p := ⟨w.heap.size, 0, none⟩) (show w.heap.size < w1.heap.size by omega)).trans p0; have p1 := (b2.cell (p := ⟨w.heap.size, 1, none⟩) (show w.heap.size < w1.heap.size by omega)).trans p1))
    refine (HHD w2).mono ?_
    rintro e w3 ⟨rfl, b3⟩
    have own3 : w3.ownsRow w.heap.size 9 1 (.slice (some ⟨w1.heap.size, 0, none⟩) 17 17) 17 (strsV (List.replicate 17 (⟨#[]⟩ : ByteArray))) := own_below (by rw [← made_strs]; simpa [Value.cells] using hown2) b3
    have hfz := own3.frozenAt 0
    obtain ⟨u0, hcl⟩ : ∃ u, w3.cell? ⟨w1.heap.size, 0, none⟩ = some u := ⟨_, (own3.cellAt 0 (by omega)).trans (List.getElem?_eq_getElem (by have := own3.1; omega))⟩
    have hw3 := b3.size
    have p1 := (b3.cell (p := ⟨w.heap.size, 1, none⟩) (show w.heap.size < w2.heap.size by omega)).trans p1
    have own4 := (own3.stored 0 (.string th)).1
    rw [H0.out] at own4
    have HO4 : Hid _ := own4
    have hne : ¬ w.heap.size = w1.heap.size := by omega
    have hne2 : ¬ w1.heap.size = w.heap.size := by omega
    have B4 : Below w.heap.size w (w3.setCell ⟨w1.heap.size, 0, none⟩ (.string th)) := (HB1.trans ((b2.trans (b3.mono b2.size)).mono HB1.size)).setCell (by show w.heap.size ≤ w1.heap.size; omega) _
    have HB4 : Hid _ := B4
    clear own4 own3 B4 hown2 hgrow2 HHD HOK hOK H0 hi hz0 hz1 hz2
    go_wp2
    go_loopw [17] (fun i wr => ∃ k : Nat, k ≤ n ∧ i = .int .i64 k ∧ wr.ownsRow w.heap.size 9 1 (.slice (some ⟨w1.heap.size, 0, none⟩) 17 17) 17 (strsV (fb k)) ∧ Below w.heap.size w wr) (fun i _ => n - (intOf i).toNat)
    case atStart => exact ⟨0, Nat.zero_le _, rfl, HO4.out, HB4.out⟩
    case round =>
      obtain ⟨k, hk, rfl, hown, hbel⟩ := hrel
      by_cases hlt : k < n
      · obtain ⟨b1, o1, s1, rfl, hb1, hc1, hen⟩ := hva k hlt
        have hc1 := hc1.below hb1 hbel
        obtain ⟨ea, ec, rfl, -, -⟩ : ∃ ea ec, s1 = .slice ea l[k]!.ents.length ec ∧ True ∧ True := by obtain ⟨ea, ec, e, -, -⟩ := hen; exact ⟨ea, ec, e, trivial, trivial⟩
        have BX := below_lit wr (.cells #[.int .i64 l[k]!.id, .int .i64 l[k]!.kind, .int .i64 l[k]!.links, .string l[k]!.data, .slice ea l[k]!.ents.length ec] 50)
        have hII := HIN.out k hlt _ _ ((hen.below hbel).below BX)
        have HSK := HST.out k
        generalize l[k]! = y at hc1 hII BX
        obtain ⟨yi, yk, yl, yd, ye⟩ := y
        unfold valI at hII
        dsimp only at hc1 hII BX
        have k0 := hc1.c0
        have k1 := hc1.c1
        have k2 := hc1.c2
        have k3 := hc1.c3
        have k4 := hc1.c4
        generalize ye.length = el at *
        have HP : Hid (∀ w4, Below (wr.alloc (.cells #[.int .i64 yi, .int .i64 yk, .int .i64 yl, .string yd, .slice ea el ec] 50)).heap.size (wr.alloc (.cells #[.int .i64 yi, .int .i64 yk, .int .i64 yl, .string yd, .slice ea el ec] 50)) w4 → ((w4.setCell ⟨w1.heap.size, 1 + k, none⟩ (.string (sl k))).ownsRow w.heap.size 9 1 (.slice (some ⟨w1.heap.size, 0, none⟩) 17 17) 17 (strsV (fb (k + 1)))) ∧ ((∃ u, w4.cell? ⟨w1.heap.size, 1 + k, none⟩ = some u) ∧ w4.frozen? ⟨w1.heap.size, 1 + k, none⟩ = false) ∧ Below w.heap.size w (w4.setCell ⟨w1.heap.size, 1 + k, none⟩ (.string (sl k)))) := fun w4 b4 => by
          have h4 := own_below (own_below hown BX) b4
          refine ⟨?_, ⟨⟨_, (h4.cellAt (1 + k) (by omega)).trans (List.getElem?_eq_getElem (by have := h4.1; omega))⟩, h4.frozenAt (1 + k)⟩, ?_⟩
          · rw [← HSK]; exact (h4.stored (1 + k) _).1
          · exact (hbel.trans ((BX.trans (b4.mono BX.size)).mono hbel.size)).setCell (by show w.heap.size ≤ w1.heap.size; omega) _
        generalize sl k = ti at *
        have hk1 : (1 : Int) + (k : Int) < 17 := by omega
        have hk0 : (0 : Int) ≤ 1 + (k : Int) := by omega
        have hkt : ((1 : Int) + (k : Int)).toNat = 1 + k := by omega
        clear hc1 hva hown HSK
        go_wp2_with (go_at_call 32; refine hII.mono ?_; rintro e w4 ⟨rfl, b4⟩; obtain ⟨ho4, ⟨⟨u4, c4⟩, f4⟩, hb4⟩ := HP.out w4 b4; have ho4 : Hid _ := ho4; have hb4 : Hid _ := hb4)
        go_roundw
        case rel => exact ⟨k + 1, by omega, by go_num, ho4.out, hb4.out⟩
        case measure => simp [intOf]; omega
      · obtain rfl : n = k := by omega
        go_wp2
        go_ret
        exact ⟨_, rfl, HE.out _ _ hown, hbel⟩
end

end Go.Proofs.YtchcdgkpaipkgaaGreatDoor
